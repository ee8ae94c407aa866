/- motion: the reference's (praxinoscoperef14). -/
import Derived.Test.YtenplmmongphoaaMPlain
import Derived.Test.YtenplmmongphoaaQTail
namespace Go.Proofs.Ytenplmmongphoaa
open Go.RowKit Go.Shelf Go.Sort
set_option linter.unusedVariables false
abbrev spotV (f g a : Int) : Value := .agg #[.int .i64 f, .int .i64 g, .int .i64 a]
/-- a spot's box -/
def SpotAt (W : World) (b : Nat) (f g a : Int) : Prop := ∃ t, W.heap[b]? = some (.cells #[.int .i64 f, .int .i64 g, .int .i64 a] t (0, 0))
theorem SpotAt.later {W W' : World} {b : Nat} {f g a : Int} (h : SpotAt W b f g a) (hb : Below W.heap.size W W') : SpotAt W' b f g a := by
  obtain ⟨t, h⟩ := h
  exact ⟨t, (hb.block _ (Array.getElem?_eq_some_iff.1 h).1).trans h⟩
theorem SpotAt.cells {W : World} {b : Nat} {f g a : Int} (h : SpotAt W b f g a) : W.cell? ⟨b, 0, none⟩ = some (.int .i64 f) ∧ W.cell? ⟨b, 1, none⟩ = some (.int .i64 g) ∧ W.cell? ⟨b, 2, none⟩ = some (.int .i64 a) := by
  obtain ⟨t, h⟩ := h; simp [World.cell?, h]

end Go.Proofs.Ytenplmmongphoaa
