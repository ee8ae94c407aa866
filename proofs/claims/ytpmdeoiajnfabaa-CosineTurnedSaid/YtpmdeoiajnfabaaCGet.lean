/- cosine.cosine: the steps' cosines. -/
import Derived.Test.YtpmdeoiajnfabaaCPlain
import Derived.Test.YtpmdeoiajnfabaaNums
namespace Go.Proofs.Ytpmdeoiajnfabaa
open Go.RowKit Go.Shelf
set_option linter.unusedVariables false

theorem q9_at {k : Nat} (hk : k ≤ 8) : ([Value.int .i64 2048, Value.int .i64 2009, Value.int .i64 1892, Value.int .i64 1703, Value.int .i64 1448, Value.int .i64 1138, Value.int .i64 784, Value.int .i64 400, Value.int .i64 0] : List Value)[k]? = some (.int .i64 (cK k)) := by
  rcases (by omega : k = 0 ∨ k = 1 ∨ k = 2 ∨ k = 3 ∨ k = 4 ∨ k = 5 ∨ k = 6 ∨ k = 7 ∨ k = 8) with rfl | rfl | rfl | rfl | rfl | rfl | rfl | rfl | rfl <;> rfl
set_option maxHeartbeats 1000000 in
theorem cosineLo_any (k : Nat) (hk : k ≤ 8) (w : World) : Calls Try.prog 34 #[.int .i64 k] w fun e w' => e = .returned (.int .i64 (cK k)) ∧ Below w.heap.size w w' := by
  have h1 : ¬ (16 : Int) < k := by omega
  have h2 : ¬ (8 : Int) < k := by omega
  have x1 := q9_at hk
  generalize cK k = x at *
  go_enter Try.func34, Try.ntmps34
  go_wp2_with fail
  go_ret
  exact ⟨rfl, (Below.refl _ w).alloc (Nat.le_refl _) _⟩
set_option maxHeartbeats 1000000 in
theorem cosineMid_any (k : Nat) (h0 : 9 ≤ k) (hk : k ≤ 16) (w : World) : Calls Try.prog 34 #[.int .i64 k] w fun e w' => e = .returned (.int .i64 (cK k)) ∧ Below w.heap.size w w' := by
  rcases (by omega : k = 9 ∨ k = 10 ∨ k = 11 ∨ k = 12 ∨ k = 13 ∨ k = 14 ∨ k = 15 ∨ k = 16) with rfl | rfl | rfl | rfl | rfl | rfl | rfl | rfl
  all_goals
    go_enter Try.func34, Try.ntmps34
    go_wp2_with fail
    go_ret
    exact ⟨rfl, (Below.refl _ w).alloc (Nat.le_refl _) _⟩
theorem cK_back : ∀ k : Fin 32, 17 ≤ k.val → cK (32 - k.val) = cK k := by decide
set_option maxHeartbeats 1000000 in
theorem cosine_any (k : Nat) (hk : k < 32) (w : World) : Calls Try.prog 34 #[.int .i64 k] w fun e w' => e = .returned (.int .i64 (cK k)) ∧ Below w.heap.size w w' := by
  by_cases h1 : k ≤ 8
  · exact cosineLo_any k h1 w
  · by_cases h2 : k ≤ 16
    · exact cosineMid_any k (by omega) h2 w
    · have HC : Hid (∀ W, Calls Try.prog 34 #[.int .i64 (32 - (k : Int))] W fun e w' => e = .returned (.int .i64 (cK k)) ∧ Below W.heap.size W w') := by
        show ∀ W, _
        intro W
        rw [show (32 : Int) - (k : Int) = ((32 - k : Nat) : Int) by omega, ← cK_back ⟨k, hk⟩ (by show 17 ≤ k; omega)]
        by_cases h3 : 32 - k ≤ 8
        · exact cosineLo_any _ h3 W
        · exact cosineMid_any _ (by omega) (by omega) W
      have h3 : (16 : Int) < k := by omega
      have h4 : (k : Int) < 32 := by omega
      clear h1 h2
      generalize cK k = x at *
      go_enter Try.func34, Try.ntmps34
      go_wp2_with fail
      refine (HC.out _).mono ?_
      rintro e w1 ⟨rfl, b1⟩
      have B1 := Lib.hid b1
      clear b1
      go_wp2_with fail
      go_ret
      exact ⟨rfl, ((Below.refl _ w).alloc (Nat.le_refl _) _).trans (B1.out.mono (by simp))⟩

end Go.Proofs.Ytpmdeoiajnfabaa
