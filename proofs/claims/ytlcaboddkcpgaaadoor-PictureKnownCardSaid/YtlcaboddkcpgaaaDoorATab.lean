/- From the row's condition on the listed variables: the library's table of trailing noughts holds 1 at the place of 2. From the row's condition on the listed variables: what the library's table of white space holds. -/
import Derived.Test.YtlcaboddkcpgaaaDoorFmt
import Derived.Lib.LaidTab
import Derived.Lib.LaidU8
import Derived.LaidMore
import Derived.Test.YtlcaboddkcpgaaaDoorFld
/- From the row's condition on the listed variables: the library's table of trailing noughts holds 1 at the place of 2. -/
namespace Go.Proofs.YtlcaboddkcpgaaaDoor
open Go.RowKit Go.Shelf
set_option linter.unusedVariables false

def zsOf : DataW Unit → List Int
  | .agg l => l.map fun d => match d with | .lit (.int _ z) => z | _ => 0
  | _ => []
def tab64 : List Int := zsOf Rows.laid_math_bits_deBruijn64tab
theorem tab64_data : (Rows.laid_math_bits_deBruijn64tab : DataW Unit) = Lib.tabData .u8 tab64 := by kernel_rfl
theorem global64 : Tryd.prog.globalNamed "math/bits.deBruijn64tab" = some 2 := by kernel_rfl
theorem global64Type : (Tryd.prog.globals[(2 : Nat)]?).map (·.type) = some 112 := by kernel_rfl
theorem Tryd.underlying112d : Tryd.prog.underlying 112 = some (.array 64 5) := by kernel_rfl
theorem Tryd.underlying5d : Tryd.prog.underlying 5 = some (.int .u8) := by kernel_rfl

theorem tab2_of_laid {l : List (String × DataW Unit)} {W : World} (hp : (l.all fun x => x.snd.handleName?.isNone) = true) (hm : ("math/bits.deBruijn64tab", Rows.laid_math_bits_deBruijn64tab) ∈ l) (h : laidMetH Tryd.prog l W) : Tab2 W := by
  rw [MakeChecks.laidMetH_plain _ _ _ hp] at h
  rw [tab64_data] at hm
  obtain ⟨g', t', cs, fuel, p, hg', ht', hvar, hd⟩ := Lib.laidMet.reads h hm
  obtain rfl := Option.some.inj (global64.symm.trans hg')
  obtain rfl := Option.some.inj (global64Type.symm.trans ht')
  have hT : Lib.TabIs Tryd.prog W "math/bits.deBruijn64tab" .u8 tab64 := by
    unfold Lib.TabIs
    rw [hvar, ← Lib.cells_of_tab Tryd.underlying112d Tryd.underlying5d (by kernel_rfl) (by kernel_rfl) hd]
  exact (hT.cell global64 1 (of_decide_eq_true (by kernel_rfl))).trans (by kernel_rfl)

end Go.Proofs.YtlcaboddkcpgaaaDoor

/- From the row's condition on the listed variables: what the library's table of white space holds. -/
namespace Go.Proofs.YtlcaboddkcpgaaaDoor
open Go.RowKit Go.Shelf
set_option linter.unusedVariables false
theorem Tryd.underlying5n : Tryd.prog.underlying 5 = some (.int .u8) := by kernel_rfl

end Go.Proofs.YtlcaboddkcpgaaaDoor
