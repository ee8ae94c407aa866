/- From the row's condition on the listed variables: what vector's variable tails holds. -/
import Derived.Test.YtmmnnedhoanhnaaDoorVLaw
import Derived.Lib.LaidTab
import Derived.Lib.LaidU8
import Derived.LaidMore
namespace Go.Proofs.YtmmnnedhoanhnaaDoor
open Go.RowKit Go.Shelf
set_option linter.unusedVariables false

theorem Tryd.underlying79v : Tryd.prog.underlying 79 = some (.array 17 9) := by kernel_rfl
theorem Tryd.underlying9v : Tryd.prog.underlying 9 = some .string := by kernel_rfl
theorem cellsOfStrV : Tryd.prog.cellsOf 9 = 1 := by kernel_rfl
theorem globalTails : Tryd.prog.globalNamed "praxinoscope/vector.tails" = some 0 := by kernel_rfl
theorem globalTailsType : (Tryd.prog.globals[(0 : Nat)]?).map (·.type) = some 79 := by kernel_rfl
def tailsD : List (DataW Unit) := tailsB.map fun s => .lit (.string s.data.toList)
theorem tailsData : (Rows.laid_praxinoscope_vector_tails : DataW Unit) = .agg tailsD := by kernel_rfl
theorem tails_of_laid {l : List (String × DataW Unit)} {W : World} (hp : (l.all fun x => x.snd.handleName?.isNone) = true) (hm : ("praxinoscope/vector.tails", Rows.laid_praxinoscope_vector_tails) ∈ l) (h : laidMetH Tryd.prog l W) : Tails W := by
  rw [MakeChecks.laidMetH_plain _ _ _ hp] at h
  rw [tailsData] at hm
  obtain ⟨g', t', cs, fuel, p, hg', ht', hvar, hd⟩ := Lib.laidMet.reads h hm
  obtain rfl := Option.some.inj (globalTails.symm.trans hg')
  obtain rfl := Option.some.inj (globalTailsType.symm.trans ht')
  intro k hk
  obtain ⟨fuel', d, q, hds, htr⟩ := Lib.array_elem Tryd.underlying79v hd k hk
  rw [cellsOfStrV, Nat.mul_one] at htr
  obtain ⟨s, hs, hx, _⟩ := DataW.trod_string Tryd.underlying9v htr
  have hk2 : k < tailsB.length := hk
  have hd2 : tailsD[k]? = some (.lit (.string tailsB[k].data.toList)) := by simp [tailsD, hk2]
  rw [hd2] at hds
  have hde := Option.some.inj hds
  have hx1 := congrArg Prod.fst hx
  simp only at hx1
  rw [← hde] at hx1
  have hss : tailsB[k].data.toList = s.data.toList := by
    have := hx1
    simpa using this
  have hse : tailsB[k] = s := ByteArray.ext (Array.toList_inj.1 hss)
  have hc : cs[k]? = some (.string s) := by
    have h1 := congrArg (·[0]?) hs
    simpa [List.getElem?_take, List.getElem?_drop] using h1
  rw [World.var?_cell globalTails hvar k, hc, List.getElem?_eq_getElem hk2, hse]
  rfl

end Go.Proofs.YtmmnnedhoanhnaaDoor
