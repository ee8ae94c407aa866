/- From the row's condition on the listed variables: the library's table of trailing noughts holds 1 at the place of 2. From the row's condition on the listed variables: what the library's table of white space holds. -/
import Derived.Test.YtbcfiafgolcbpaaGreatDoorFmt
import Derived.Lib.LaidTab
import Derived.Lib.LaidU8
import Derived.LaidMore
import Derived.Test.YtbcfiafgolcbpaaGreatDoorFld
/- From the row's condition on the listed variables: the library's table of trailing noughts holds 1 at the place of 2. -/
namespace Go.Proofs.YtbcfiafgolcbpaaGreatDoor
open Go.RowKit Go.Shelf
set_option linter.unusedVariables false

def zsOf : DataW Unit → List Int
  | .agg l => l.map fun d => match d with | .lit (.int _ z) => z | _ => 0
  | _ => []
def tab64 : List Int := zsOf Rows.laid_math_bits_deBruijn64tab
theorem tab64_data : (Rows.laid_math_bits_deBruijn64tab : DataW Unit) = Lib.tabData .u8 tab64 := by kernel_rfl
theorem global64 : Tryz.prog.globalNamed "math/bits.deBruijn64tab" = some 4 := by kernel_rfl
theorem global64Type : (Tryz.prog.globals[(4 : Nat)]?).map (·.type) = some 190 := by kernel_rfl
theorem Tryz.underlying190d : Tryz.prog.underlying 190 = some (.array 64 5) := by kernel_rfl
theorem Tryz.underlying5d : Tryz.prog.underlying 5 = some (.int .u8) := by kernel_rfl

theorem tab2_of_laid {l : List (String × DataW Unit)} {W : World} (hp : (l.all fun x => x.snd.handleName?.isNone) = true) (hm : ("math/bits.deBruijn64tab", Rows.laid_math_bits_deBruijn64tab) ∈ l) (h : laidMetH Tryz.prog l W) : Tab2 W := by
  rw [MakeChecks.laidMetH_plain _ _ _ hp] at h
  rw [tab64_data] at hm
  obtain ⟨g', t', cs, fuel, p, hg', ht', hvar, hd⟩ := Lib.laidMet.reads h hm
  obtain rfl := Option.some.inj (global64.symm.trans hg')
  obtain rfl := Option.some.inj (global64Type.symm.trans ht')
  have hT : Lib.TabIs Tryz.prog W "math/bits.deBruijn64tab" .u8 tab64 := by
    unfold Lib.TabIs
    rw [hvar, ← Lib.cells_of_tab Tryz.underlying190d Tryz.underlying5d (by kernel_rfl) (by kernel_rfl) hd]
  exact (hT.cell global64 1 (of_decide_eq_true (by kernel_rfl))).trans (by kernel_rfl)

end Go.Proofs.YtbcfiafgolcbpaaGreatDoor

/- From the row's condition on the listed variables: what the library's table of white space holds. -/
namespace Go.Proofs.YtbcfiafgolcbpaaGreatDoor
open Go.RowKit Go.Shelf
set_option linter.unusedVariables false

theorem spc_data : (Rows.laid_strings_asciiSpace : DataW Unit) = Lib.tabData .u8 Lib.asciiSpaceTab := by kernel_rfl
theorem globalSpc : Tryz.prog.globalNamed "strings.asciiSpace" = some 1 := by kernel_rfl
theorem globalSpcType : (Tryz.prog.globals[(1 : Nat)]?).map (·.type) = some 182 := by kernel_rfl
theorem Tryz.underlying182n : Tryz.prog.underlying 182 = some (.array 256 5) := by kernel_rfl
theorem Tryz.underlying5n : Tryz.prog.underlying 5 = some (.int .u8) := by kernel_rfl

theorem spc_of_laid {l : List (String × DataW Unit)} {W : World} (hp : (l.all fun x => x.snd.handleName?.isNone) = true) (hm : ("strings.asciiSpace", Rows.laid_strings_asciiSpace) ∈ l) (h : laidMetH Tryz.prog l W) : Spc W := by
  rw [MakeChecks.laidMetH_plain _ _ _ hp] at h
  rw [spc_data] at hm
  obtain ⟨g', t', cs, fuel, p, hg', ht', hvar, hd⟩ := Lib.laidMet.reads h hm
  obtain rfl := Option.some.inj (globalSpc.symm.trans hg')
  obtain rfl := Option.some.inj (globalSpcType.symm.trans ht')
  have hT : Lib.TabIs Tryz.prog W "strings.asciiSpace" .u8 Lib.asciiSpaceTab := by
    unfold Lib.TabIs
    rw [hvar, ← Lib.cells_of_tab Tryz.underlying182n Tryz.underlying5n (by kernel_rfl) (by kernel_rfl) hd]
  intro c hc
  rw [hT.cell globalSpc c (by rw [Lib.asciiSpaceTab_length]; exact hc), Lib.asciiSpaceTab_at c hc]

end Go.Proofs.YtbcfiafgolcbpaaGreatDoor
