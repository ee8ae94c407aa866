/- Contracts of bits.Find and bits.firstOne. -/
import Derived.Test.YtmampneedmodeaaDoorFind
namespace Go.Proofs.YtmampneedmodeaaDoor
open Go.RowKit Go.Shelf
set_option linter.unusedVariables false
attribute [local go_sem] Oper.semAt_some

theorem KpB.store {m bx by_ : Nat} (A : World) {q : Nat} (v : Value) (h : m ≤ q) (h1 : q ≠ bx) (h2 : q ≠ by_) : KpB m bx by_ A (A.setCell ⟨q, 0, none⟩ v) :=
  ⟨(Below.refl m A).setCell (p := ⟨q, 0, none⟩) h _, World.cell?_setCell_other _ _ _ _ (by simp [*]), World.cell?_setCell_other _ _ _ _ (by simp [*])⟩
theorem KpB.b {m bx by_ : Nat} {w : World} (hm : m ≤ w.heap.size) (h1 : bx < w.heap.size) (h2 : by_ < w.heap.size) (W : World) (l : Nat) (o o' : Obj) (hl : w.heap.size ≤ l) (h : W.heap[l]? = some o) (hc : o.isCells = false) (hw : o.isWalk = false) : KpB m bx by_ W (W.putObj l o') := by
  have hb := belowK_b (w := w) (Nat.le_refl _) W l o o' hl h hc hw
  exact ⟨hb.mono hm, hb.cell (p := ⟨bx, 0, none⟩) h1, hb.cell (p := ⟨by_, 0, none⟩) h2⟩

theorem c_same {W : World} {b : Nat} {u : Value} (v : Value) (h : W.cell? ⟨b, 0, none⟩ = some u) : (W.setCell ⟨b, 0, none⟩ v).cell? ⟨b, 0, none⟩ = some v := World.cell?_setCell_same _ _ _ h
theorem c_other {W : World} {b c : Nat} {u : Value} (v : Value) (hne : b ≠ c) (h : W.cell? ⟨c, 0, none⟩ = some u) : (W.setCell ⟨b, 0, none⟩ v).cell? ⟨c, 0, none⟩ = some u :=
  (World.cell?_setCell_other _ _ _ _ (by simp [*])).trans h
theorem f_kept {W : World} {p q : Addr} (v : Value) (h : W.frozen? q = false) : (W.setCell p v).frozen? q = false := by rw [World.frozen?_setCell]; exact h

end Go.Proofs.YtmampneedmodeaaDoor
