/- The walk of QuantGrows (praxinoscopelaw10). -/
import Derived.Test.YtfkjgafmaplggaaULaw2
namespace Go.Proofs.Ytfkjgafmaplggaa
open Go.RowKit Go.Shelf
set_option linter.unusedVariables false

set_option maxRecDepth 100000 in
set_option maxHeartbeats 4000000 in
theorem quantGrows_top (a1 a2 q : Int) (w : World)
    (HOf : Hid (∀ W, Calls Try.prog 27 #[.int .i64 a1, .int .i64 a2] W fun e w' => e = .returned (.tuple #[.int .i64 127, .int .i64 q]) ∧ W = w')) :
    Calls Try.prog 7 #[.int .i64 a1, .int .i64 a2] w fun e w' => e = .returned (.bool true) ∧ Below w.heap.size w w' := by
  have HAw := Lib.hid (awake10_any w)
  go_enter Try.func7, Try.ntmps7
  go_wp2_with fail
  refine HAw.out.mono ?_
  rintro e w1 ⟨rfl, b1'⟩
  have B1 := Lib.hid b1'
  clear b1'
  go_wp2_with (go_at_call 27; refine (HOf.out _).mono ?_; rintro e w' ⟨rfl, rfl⟩)
  go_ret
  exact ⟨rfl, B1.out⟩
set_option maxRecDepth 100000 in
set_option maxHeartbeats 8000000 in
theorem quantGrows_core (a1 a2 l q x y z : Int) (w : World)
    (HOf : Hid (∀ W, Calls Try.prog 27 #[.int .i64 a1, .int .i64 a2] W fun e w' => e = .returned (.tuple #[.int .i64 l, .int .i64 q]) ∧ W = w'))
    (HV1 : Hid (∀ W, Calls Try.prog 10 #[.int .i64 l, .int .i64 q] W fun e w' => e = .returned (.tuple #[.int .i64 x, .int .i64 0]) ∧ Below W.heap.size W w'))
    (HV2 : Hid (∀ W, Calls Try.prog 10 #[.int .i64 (l + 1), .int .i64 q] W fun e w' => e = .returned (.tuple #[.int .i64 y, .int .i64 0]) ∧ Below W.heap.size W w'))
    (HV3 : Hid (q < 31 → ∀ W, Calls Try.prog 10 #[.int .i64 l, .int .i64 (q + 1)] W fun e w' => e = .returned (.tuple #[.int .i64 z, .int .i64 0]) ∧ Below W.heap.size W w'))
    (l1 : -127 ≤ l) (l2 : l ≤ 126) (q1 : 1 ≤ q) (q2 : q ≤ 31) (x1 : -2048 ≤ x) (x2 : x ≤ 2047) (y1 : -2048 ≤ y) (y2 : y ≤ 2047)
    (e0 : (l == 127) = false) (e1 : decide (y < x) = false)
    (hc : ((decide (0 < l) = true ∧ decide (l < -1) = false ∧ decide (l < 1) = false) ∧
        ((decide (y < 2047) = true ∧ (y == x) = false ∧ (y - x != 2 * q) = false) ∨ (decide (y < 2047) = false ∧ (y == x) = false) ∨ (decide (y < 2047) = false ∧ (y == x) = true ∧ decide (-2048 < x) = true ∧ decide (x < 2047) = false)) ∧
        ((q == 31) = true ∨ (q < 31 ∧ (q == 31) = false ∧ decide (x < z) = true) ∨ (q < 31 ∧ (q == 31) = false ∧ decide (x < z) = false ∧ (x == 2047) = true ∧ (z == 2047) = true))) ∨
      ((decide (0 < l) = false ∧ decide (l < 1) = true) ∧
        ((decide (l < -1) = false ∧ (y == x) = false) ∨ (decide (l < -1) = true ∧ decide (-2048 < x) = false ∧ (y == x) = false) ∨ (decide (l < -1) = true ∧ decide (-2048 < x) = false ∧ (y == x) = true) ∨ (decide (l < -1) = true ∧ decide (-2048 < x) = true ∧ (y == x) = false ∧ (y - x != 2 * q) = false)))) :
    Calls Try.prog 7 #[.int .i64 a1, .int .i64 a2] w fun e w' => e = .returned (.bool true) ∧ Below w.heap.size w w' := by
  have HAw := Lib.hid (awake10_any w)
  rcases hc with ⟨⟨g1, g2, g3⟩, hx, hz⟩ | ⟨⟨g1, g2⟩, hx⟩
  · rcases hx with ⟨h1, h2, h3⟩ | ⟨h1, h2⟩ | ⟨h1, h2, h3, h4⟩ <;> rcases hz with k1 | ⟨k0, k1, k2⟩ | ⟨k0, k1, k2, k3, k4⟩
    all_goals
      try have HV3 := Lib.hid (HV3.out k0)
      go_enter Try.func7, Try.ntmps7
      go_wp2_with fail
      refine HAw.out.mono ?_
      rintro e w1 ⟨rfl, b1'⟩
      have B1 := Lib.hid b1'
      clear b1'
      go_wp2_with (go_at_call 27; refine (HOf.out _).mono ?_; rintro e w' ⟨rfl, rfl⟩)
      refine (HV1.out w1).mono ?_
      rintro e w2 ⟨rfl, b2'⟩
      have B2 := Lib.hid (below_chain B1.out (Nat.le_refl _) b2')
      clear b2'
      go_wp2_with fail
      refine (HV2.out w2).mono ?_
      rintro e w3 ⟨rfl, b3'⟩
      have B3 := Lib.hid (below_chain B2.out (Nat.le_refl _) b3')
      clear b3'
      go_wp2_with fail
      first
        | (go_ret; exact ⟨rfl, B3.out⟩)
        | (refine (HV3.out w3).mono ?_
           rintro e w4 ⟨rfl, b4'⟩
           have B4 := Lib.hid (below_chain B3.out (Nat.le_refl _) b4')
           clear b4'
           go_wp2_with fail
           go_ret
           exact ⟨rfl, B4.out⟩)
  · rcases hx with ⟨h1, h2⟩ | ⟨h1, h2, h3⟩ | ⟨h1, h2, h3⟩ | ⟨h1, h2, h3, h4⟩
    all_goals
      go_enter Try.func7, Try.ntmps7
      go_wp2_with fail
      refine HAw.out.mono ?_
      rintro e w1 ⟨rfl, b1'⟩
      have B1 := Lib.hid b1'
      clear b1'
      go_wp2_with (go_at_call 27; refine (HOf.out _).mono ?_; rintro e w' ⟨rfl, rfl⟩)
      refine (HV1.out w1).mono ?_
      rintro e w2 ⟨rfl, b2'⟩
      have B2 := Lib.hid (below_chain B1.out (Nat.le_refl _) b2')
      clear b2'
      go_wp2_with fail
      refine (HV2.out w2).mono ?_
      rintro e w3 ⟨rfl, b3'⟩
      have B3 := Lib.hid (below_chain B2.out (Nat.le_refl _) b3')
      clear b3'
      go_wp2_with fail
      go_ret
      exact ⟨rfl, B3.out⟩

set_option maxHeartbeats 2000000 in
theorem quantGrows_walk (a1 a2 : Int) (w : World) : Calls Try.prog 7 #[.int .i64 a1, .int .i64 a2] w fun e w' => e = .returned (.bool true) ∧ Below w.heap.size w w' := by
  have HOf := Lib.hid (fun W => of10_any a1 a2 W)
  have hl := ofL_ok a1
  have hq := ofQ_ok a2
  generalize ofL a1 = l at *
  generalize ofQ a2 = q at *
  have hL := (okLU_iff l).1 hl
  have hQ := (okQU_iff q).1 hq
  by_cases ht : l = 127
  · subst ht
    exact quantGrows_top a1 a2 q w HOf
  · have hl2 : okLU (l + 1) = true := by rw [okLU_iff]; omega
    have HV1 := Lib.hid (fun W => value_lv hl hq W)
    have HV2 := Lib.hid (fun W => value_lv hl2 hq W)
    have HV3 := Lib.hid (fun (h : q < 31) W => value_lv (q := q + 1) hl (by rw [okQU_iff]; omega) W)
    have hg := worthU_grow hl (by omega) hq
    have i1 := worthU_in l q
    have i2 := worthU_in (l + 1) q
    have i3 := worthU_in l (q + 1)
    have s : (l = -1 → worthU l q < 0 ∧ worthU (l + 1) q = 0) ∧ (l = 0 → worthU l q = 0 ∧ 0 < worthU (l + 1) q) :=
      ⟨fun h => ⟨worthU_neg (by omega) hQ.1, by rw [h]; exact worthU_zero q⟩, fun h => ⟨by rw [h]; exact worthU_zero q, worthU_pos (by omega) hQ.1⟩⟩
    generalize worthU l q = x at *
    generalize worthU (l + 1) q = y at *
    generalize worthU l (q + 1) = z at *
    obtain ⟨g1, g2, g3, g4, g5⟩ := hg
    refine quantGrows_core a1 a2 l q x y z w HOf HV1 HV2 HV3 hL.1 (by omega) hQ.1 hQ.2 i1.1 i1.2 i2.1 i2.2 (by rw [beq_eq_false_iff_ne]; exact ht) (by rw [decide_eq_false_iff_not]; omega) ?_
    simp only [beq_iff_eq, beq_eq_false_iff_ne, ne_eq, bne_eq_false_iff_eq, decide_eq_true_eq, decide_eq_false_iff_not]
    omega

end Go.Proofs.Ytfkjgafmaplggaa
