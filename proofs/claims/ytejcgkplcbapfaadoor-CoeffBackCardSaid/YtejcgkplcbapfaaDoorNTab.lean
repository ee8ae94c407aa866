/- From the row's condition on the listed variables: what the library's table of white space holds. -/
import Derived.Test.YtejcgkplcbapfaaDoorFld
import Derived.Lib.LaidTab
import Derived.Lib.LaidU8
import Derived.LaidMore
namespace Go.Proofs.YtejcgkplcbapfaaDoor
open Go.RowKit Go.Shelf
set_option linter.unusedVariables false

theorem spc_data : (Rows.laid_strings_asciiSpace : DataW Unit) = Lib.tabData .u8 Lib.asciiSpaceTab := by kernel_rfl
theorem globalSpc : Tryd.prog.globalNamed "strings.asciiSpace" = some 0 := by kernel_rfl
theorem globalSpcType : (Tryd.prog.globals[(0 : Nat)]?).map (·.type) = some 87 := by kernel_rfl
theorem Tryd.underlying87n : Tryd.prog.underlying 87 = some (.array 256 5) := by kernel_rfl
theorem Tryd.underlying5n : Tryd.prog.underlying 5 = some (.int .u8) := by kernel_rfl

theorem spc_of_laid {l : List (String × DataW Unit)} {W : World} (hp : (l.all fun x => x.snd.handleName?.isNone) = true) (hm : ("strings.asciiSpace", Rows.laid_strings_asciiSpace) ∈ l) (h : laidMetH Tryd.prog l W) : Spc W := by
  rw [MakeChecks.laidMetH_plain _ _ _ hp] at h
  rw [spc_data] at hm
  obtain ⟨g', t', cs, fuel, p, hg', ht', hvar, hd⟩ := Lib.laidMet.reads h hm
  obtain rfl := Option.some.inj (globalSpc.symm.trans hg')
  obtain rfl := Option.some.inj (globalSpcType.symm.trans ht')
  have hT : Lib.TabIs Tryd.prog W "strings.asciiSpace" .u8 Lib.asciiSpaceTab := by
    unfold Lib.TabIs
    rw [hvar, ← Lib.cells_of_tab Tryd.underlying87n Tryd.underlying5n (by kernel_rfl) (by kernel_rfl) hd]
  intro c hc
  rw [hT.cell globalSpc c (by rw [Lib.asciiSpaceTab_length]; exact hc), Lib.asciiSpaceTab_at c hc]

end Go.Proofs.YtejcgkplcbapfaaDoor
