/- The reference's queue, more: contracts of its Feed and Bits. -/
import Derived.Test.YtmampneedmodeaaDoorQRef
namespace Go.Proofs.YtmampneedmodeaaDoor
open Go.RowKit Go.Shelf
set_option linter.unusedVariables false

theorem Appended.undrew {w w' : World} {base n : Nat} {v v' : Value} {xs : List Value} (h : Appended w.drew w' base v v' n xs) : Appended w w' base v v' n xs :=
  ⟨h.1, ⟨h.2.1.os, h.2.1.tape, h.2.1.output, h.2.1.size, h.2.1.block⟩, h.2.2⟩
theorem Src.drew {w : World} {A : Option Addr} {m : Nat} {news : List Value} (h : Src w A m news) : Src w.drew A m news := h

theorem feedQ_ok {q : Qs} (ho : q.ok) (zs : List UInt8) (hfit : q.all.length + zs.length ≤ 1099511627776) : (feedQ q zs).ok := by
  have hl : (fedL q zs).length ≤ zs.length ∧ (fedL q zs).length ≤ q.most - (q.all.length - q.gone / 8) := by
    unfold fedL
    split
    · simp
    · simp; omega
  have h1 := ho.gone
  have h2 := ho.held
  refine ⟨ho.1, ho.2, ?_, ?_, ?_⟩ <;> (simp only [feedQ, List.length_append]; omega)

theorem bar_alloc_row {w w2 : World} {o : Obj} {n : Nat} {v' : Value} {xs : List Value} (h : Appended ((w.drew).alloc o) w2 w.heap.size (.slice (some ⟨w.heap.size, 0, none⟩) 0 0) v' n xs) : Below w.heap.size w w2 := by
  obtain ⟨h1, h2, h3⟩ := h
  have hs : w.heap.size ≤ (w.drew.alloc o).heap.size := by simp
  have := ((Below.refl w.heap.size w.drew).alloc (Nat.le_refl _) o).grown h2 hs (fun k e => by simp [Value.ownBlock] at e; omega)
  exact below_undrew this
theorem own_empty (w : World) (t : TypeId) : (w.alloc (.cells #[] t (0, 0))).ownsRow w.heap.size t 1 (.slice (some ⟨w.heap.size, 0, none⟩) 0 0) 0 [] :=
  World.ownsRow_made w #[] 0 (Nat.le_refl _) (by unfold maxLen; omega) rfl

end Go.Proofs.YtmampneedmodeaaDoor
