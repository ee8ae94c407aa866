/- Contracts of the law's own small functions (feeds, has, three, awake) and of the law QueueKnown. -/
import Derived.Test.YtmampneedmodeaaDoorQBits
import Derived.Test.YtmampneedmodeaaDoorRow
namespace Go.Proofs.YtmampneedmodeaaDoor
open Go.RowKit Go.Shelf
set_option linter.unusedVariables false

theorem bytA_new (w : World) (zs : List UInt8) (cs : Array Value) (h : cs = (zs.map fun z => Value.int .u8 z.toNat).toArray) (hl : zs.length ≤ 1152921504606846975) (g : Nat) (hg : g < w.heap.size) (t : TypeId) :
    BytA (w.alloc (.cells cs t)) g (.slice (some ⟨w.heap.size, 0, none⟩) zs.length zs.length) zs := by
  refine ⟨_, _, rfl, Nat.le_refl _, Nat.le_trans hl (by decide), .inr ⟨_, _, rfl, fun _ => ⟨by omega, by simp⟩, fun j hj => ?_⟩⟩
  subst h
  simp [hj, go_sem]
theorem bytA_nil (w : World) (g : Nat) : BytA w g (.slice none 0 0) [] := ⟨_, 0, rfl, Nat.le_refl _, by omega, .inl rfl⟩
theorem byt_nil (w : World) : Byt w.heap.size w (.slice none 0 0) [] := ⟨none, 0, rfl, by simp, .inl rfl⟩

theorem skipQ_ok {q : Qs} {n : Nat} (h : n ≤ 8 * q.all.length - q.gone) : skipE q n = 0 ∧ skipQ q n = { q with gone := q.gone + n } := by
  have : ¬ ((n : Int) < 0 ∨ ((8 * q.all.length - q.gone : Nat) : Int) < (n : Int)) := by omega
  rw [skipE, skipQ, if_neg this, if_neg this, Int.toNat_natCast]
  exact ⟨rfl, rfl⟩

def q1 : Qs := ⟨3, [1, 2, 3], 0, false⟩
def q2 : Qs := ⟨3, [1, 2, 3], 12, false⟩
def q3 : Qs := ⟨3, [1, 2, 3, 9], 12, false⟩
def q4 : Qs := ⟨3, [1, 2, 3, 9], 32, false⟩
def q5 : Qs := ⟨3, [1, 2, 3, 9], 32, true⟩

end Go.Proofs.YtmampneedmodeaaDoor
