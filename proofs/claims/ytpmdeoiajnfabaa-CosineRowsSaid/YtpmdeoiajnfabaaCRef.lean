/- The reference's c, weight, Weight, Line (praxinoscoperef11). -/
import Derived.Test.YtpmdeoiajnfabaaCGet
import Derived.Test.YtpmdeoiajnfabaaQTail
namespace Go.Proofs.Ytpmdeoiajnfabaa
open Go.RowKit Go.Shelf
set_option linter.unusedVariables false

set_option maxHeartbeats 1000000 in
theorem rcLo_any (k : Nat) (hk : k ≤ 8) (w : World) : Calls Try.prog 33 #[.int .i64 k] w fun e w' => e = .returned (.int .i64 (cK k)) ∧ Below w.heap.size w w' := by
  have h1 : ¬ (16 : Int) < k := by omega
  have h2 : ¬ (8 : Int) < k := by omega
  have x1 := q9_at hk
  generalize cK k = x at *
  go_enter Try.func33, Try.ntmps33
  go_wp2_with fail
  go_ret
  exact ⟨rfl, (Below.refl _ w).alloc (Nat.le_refl _) _⟩
set_option maxHeartbeats 1000000 in
theorem rcMid_any (k : Nat) (h0 : 9 ≤ k) (hk : k ≤ 16) (w : World) : Calls Try.prog 33 #[.int .i64 k] w fun e w' => e = .returned (.int .i64 (cK k)) ∧ Below w.heap.size w w' := by
  rcases (by omega : k = 9 ∨ k = 10 ∨ k = 11 ∨ k = 12 ∨ k = 13 ∨ k = 14 ∨ k = 15 ∨ k = 16) with rfl | rfl | rfl | rfl | rfl | rfl | rfl | rfl
  all_goals
    go_enter Try.func33, Try.ntmps33
    go_wp2_with fail
    go_ret
    exact ⟨rfl, (Below.refl _ w).alloc (Nat.le_refl _) _⟩
set_option maxHeartbeats 1000000 in
theorem rc_any (k : Nat) (hk : k < 32) (w : World) : Calls Try.prog 33 #[.int .i64 k] w fun e w' => e = .returned (.int .i64 (cK k)) ∧ Below w.heap.size w w' := by
  by_cases h1 : k ≤ 8
  · exact rcLo_any k h1 w
  · by_cases h2 : k ≤ 16
    · exact rcMid_any k (by omega) h2 w
    · have HC : Hid (∀ W, Calls Try.prog 33 #[.int .i64 (32 - (k : Int))] W fun e w' => e = .returned (.int .i64 (cK k)) ∧ Below W.heap.size W w') := by
        show ∀ W, _
        intro W
        rw [show (32 : Int) - (k : Int) = ((32 - k : Nat) : Int) by omega, ← cK_back ⟨k, hk⟩ (by show 17 ≤ k; omega)]
        by_cases h3 : 32 - k ≤ 8
        · exact rcLo_any _ h3 W
        · exact rcMid_any _ (by omega) (by omega) W
      have h3 : (16 : Int) < k := by omega
      have h4 : (k : Int) < 32 := by omega
      clear h1 h2
      generalize cK k = x at *
      go_enter Try.func33, Try.ntmps33
      go_wp2_with fail
      refine (HC.out _).mono ?_
      rintro e w1 ⟨rfl, b1⟩
      have B1 := Lib.hid b1
      clear b1
      go_wp2_with fail
      go_ret
      exact ⟨rfl, ((Below.refl _ w).alloc (Nat.le_refl _) _).trans (B1.out.mono (by simp))⟩

set_option maxHeartbeats 1000000 in
theorem rweight_any {u x : Nat} (hu : u < 8) (hx : x < 8) (w : World) : Calls Try.prog 27 #[.int .i64 u, .int .i64 x] w fun e w' => e = .returned (.int .i64 (wt u x)) ∧ Below w.heap.size w w' := by
  by_cases h0 : u = 0
  · subst h0
    rw [show wt 0 x = 1448 from wt_zero ⟨x, hx⟩]
    go_enter Try.func27, Try.ntmps27
    go_wp2_with fail
    go_ret
    exact ⟨rfl, Below.refl _ _⟩
  · have e1 : ((u : Int) == 0) = false := by simp; omega
    have z3 : (0 : Int) ≤ u := by omega
    have z2 : (u : Int) < 8 := by omega
    have z1 : (x : Int) < 8 := by omega
    have p0 : (0 : Int) ≤ (2 * (x : Int) + 1) * u := Int.mul_nonneg (by omega) z3
    have p1 : (2 * (x : Int) + 1) * u ≤ 15 * 7 := Int.mul_le_mul (by omega) (by omega) z3 (by omega)
    have HCx : Hid (∀ W, Calls Try.prog 33 #[.int .i64 (Int.tmod ((2 * (x : Int) + 1) * u) 32)] W fun e w' => e = .returned (.int .i64 (wt u x)) ∧ Below W.heap.size W w') := by
      show ∀ W, _
      intro W
      rw [Int.tmod_eq_emod_of_nonneg p0, show (2 * (x : Int) + 1) * u % 32 = (((2 * x + 1) * u % 32 : Nat) : Int) by push_cast; rfl, show wt u x = cK ((2 * x + 1) * u % 32) from wt_cK ⟨u, hu⟩ ⟨x, hx⟩ (by show 1 ≤ u; omega)]
      exact rc_any _ (Nat.mod_lt _ (by omega)) W
    clear hu hx h0
    generalize wt u x = y at *
    go_enter Try.func27, Try.ntmps27
    go_wp2_with fail
    refine (HCx.out _).mono ?_
    rintro e w1 ⟨rfl, b1⟩
    have B1 := Lib.hid b1
    clear b1
    go_wp2_with fail
    go_ret
    exact ⟨rfl, B1.out⟩

set_option maxHeartbeats 1000000 in
theorem r11weight_any (u x : Int) (w : World) : Calls Try.prog 19 #[.int .i64 u, .int .i64 x] w fun e w' => e = .returned (.tuple #[.int .i64 (weightR u x).1, .int .i64 (weightR u x).2]) ∧ Below w.heap.size w w' := by
  have bad : (u < 0 ∨ 7 < u ∨ x < 0 ∨ 7 < x) → weightR u x = (0, 3) := by
    intro h
    unfold weightR
    rw [if_neg]
    simp [okPC]
    omega
  by_cases h1 : u < 0
  · rw [bad (.inl h1)]
    clear bad
    go_enter Try.func19, Try.ntmps19
    go_wp2_with fail
    go_ret2
    exact ⟨rfl, Below.refl _ _⟩
  · by_cases h2 : 7 < u
    · rw [bad (.inr (.inl h2))]
      clear bad
      go_enter Try.func19, Try.ntmps19
      go_wp2_with fail
      go_ret2
      exact ⟨rfl, Below.refl _ _⟩
    · by_cases h3 : x < 0
      · rw [bad (.inr (.inr (.inl h3)))]
        clear bad
        go_enter Try.func19, Try.ntmps19
        go_wp2_with fail
        go_ret2
        exact ⟨rfl, Below.refl _ _⟩
      · by_cases h4 : 7 < x
        · rw [bad (.inr (.inr (.inr h4)))]
          clear bad
          go_enter Try.func19, Try.ntmps19
          go_wp2_with fail
          go_ret2
          exact ⟨rfl, Below.refl _ _⟩
        · obtain ⟨un, rfl⟩ : ∃ un : Nat, u = un := ⟨u.toNat, by omega⟩
          obtain ⟨xn, rfl⟩ : ∃ xn : Nat, x = xn := ⟨x.toNat, by omega⟩
          have hr : weightR un xn = (wt un xn, 0) := by
            unfold weightR
            rw [if_pos]
            · rfl
            · simp [okPC]
              omega
          rw [hr]
          have HW := Lib.hid (fun W => @rweight_any un xn (by omega) (by omega) W)
          clear bad hr
          generalize wt un xn = z at *
          go_enter Try.func19, Try.ntmps19
          go_wp2_with fail
          refine (HW.out _).mono ?_
          rintro e w1 ⟨rfl, b1⟩
          have B1 := Lib.hid b1
          clear b1
          go_wp2_with fail
          go_ret2
          exact ⟨rfl, B1.out⟩

end Go.Proofs.Ytpmdeoiajnfabaa
