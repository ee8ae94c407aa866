/- The walks of QuantOdd, QuantGrows, QuantNear, QuantTells (praxinoscopelaw10). -/
import Derived.Test.YtfkjgafmaplggaaULaw
namespace Go.Proofs.Ytfkjgafmaplggaa
open Go.RowKit Go.Shelf
set_option linter.unusedVariables false

theorem value_lv {l q : Int} (hl : okLU l = true) (hq : okQU q = true) (W : World) : Calls Try.prog 10 #[.int .i64 l, .int .i64 q] W fun e w' => e = .returned (.tuple #[.int .i64 (worthU l q), .int .i64 0]) ∧ Below W.heap.size W w' := by
  have := valueU_any l q W
  rwa [valueU_ok hl hq] at this
theorem near_lv {n q : Int} (h1 : -2048 ≤ n) (h2 : n ≤ 2047) (hq : okQU q = true) (W : World) : Calls Try.prog 14 #[.int .i64 n, .int .i64 q] W fun e w' => e = .returned (.tuple #[.int .i64 (bestU q n 128), .int .i64 0]) ∧ Below W.heap.size W w' := by
  have := nearU_any n q W
  rwa [show nearU n q = (bestU q n 128, 0) by unfold nearU; rw [if_pos ⟨h1, h2, hq⟩]] at this

set_option maxRecDepth 100000 in
set_option maxHeartbeats 4000000 in
theorem quantOdd_core (a1 a2 l q x y r : Int) (w : World)
    (HKn : Hid (Calls Try.prog 5 #[] w fun e w' => e = .returned (.bool true) ∧ Below w.heap.size w w'))
    (HOf : Hid (∀ W, Calls Try.prog 27 #[.int .i64 a1, .int .i64 a2] W fun e w' => e = .returned (.tuple #[.int .i64 l, .int .i64 q]) ∧ W = w'))
    (HV1 : Hid (∀ W, Calls Try.prog 10 #[.int .i64 l, .int .i64 q] W fun e w' => e = .returned (.tuple #[.int .i64 x, .int .i64 0]) ∧ Below W.heap.size W w'))
    (HV2 : Hid (∀ W, Calls Try.prog 10 #[.int .i64 (-l), .int .i64 q] W fun e w' => e = .returned (.tuple #[.int .i64 y, .int .i64 0]) ∧ Below W.heap.size W w'))
    (l1 : -127 ≤ l) (l2 : l ≤ 127) (x1 : -2048 ≤ x) (x2 : x ≤ 2047) (y1 : -2048 ≤ y) (y2 : y ≤ 2047)
    (p s : Bool) (b1 : (x == 0) = p) (b2 : (l == 0) = p) (b3 : decide (0 < x) = s) (b4 : decide (0 < l) = s)
    (ht : (x == -y) = true ∨ ((x == -y) = false ∧ (x == 2047) = true ∧ (y == -2048) = true) ∨ ((x == -y) = false ∧ (x == 2047) = false ∧ (x == -2048) = true ∧ (y == 2047) = true))
    (hr : Int.tmod x 2 = r) (hx : (r != 0) = true ∨ ((r != 0) = false ∧ p = true) ∨ ((r != 0) = false ∧ p = false ∧ (x == -2048) = true)) :
    Calls Try.prog 6 #[.int .i64 a1, .int .i64 a2] w fun e w' => e = .returned (.bool true) ∧ Below w.heap.size w w' := by
  have e1 : decide (x < -2048) = false := by simp; omega
  have e2 : decide (2047 < x) = false := by simp; omega
  rcases ht with ht | ⟨ht1, ht2, ht3⟩ | ⟨ht1, ht2, ht3, ht4⟩ <;> rcases hx with hx | ⟨hx1, rfl⟩ | ⟨hx1, rfl, hx3⟩ <;>
  · go_enter Try.func6, Try.ntmps6
    go_wp2_with fail
    refine HKn.out.mono ?_
    rintro e w1 ⟨rfl, b1'⟩
    have B1 := Lib.hid b1'
    clear b1'
    go_wp2_with (go_at_call 27; refine (HOf.out _).mono ?_; rintro e w' ⟨rfl, rfl⟩)
    refine (HV1.out w1).mono ?_
    rintro e w2 ⟨rfl, b2'⟩
    have B2 := Lib.hid (below_chain B1.out (Nat.le_refl _) b2')
    clear b2'
    go_wp2_with fail
    refine (HV2.out w2).mono ?_
    rintro e w3 ⟨rfl, b3'⟩
    have B3 := Lib.hid (below_chain B2.out (Nat.le_refl _) b3')
    clear b3'
    go_wp2_with fail
    go_ret
    exact ⟨rfl, B3.out⟩

set_option maxHeartbeats 1000000 in
theorem quantOdd_walk (a1 a2 : Int) (w : World) : Calls Try.prog 6 #[.int .i64 a1, .int .i64 a2] w fun e w' => e = .returned (.bool true) ∧ Below w.heap.size w w' := by
  have HKn := Lib.hid (known10_any w)
  have HOf := Lib.hid (fun W => of10_any a1 a2 W)
  have hl := ofL_ok a1
  have hq := ofQ_ok a2
  generalize ofL a1 = l at *
  generalize ofQ a2 = q at *
  have hL := (okLU_iff l).1 hl
  have hQ := (okQU_iff q).1 hq
  have hl2 : okLU (-l) = true := by rw [okLU_iff]; omega
  have HV1 := Lib.hid (fun W => value_lv hl hq W)
  have HV2 := Lib.hid (fun W => value_lv hl2 hq W)
  obtain ⟨o1, o2⟩ := worthU_odd hl hq
  have i1 := worthU_in l q
  have i2 := worthU_in (-l) q
  have s : (0 < l → 0 < worthU l q) ∧ (l < 0 → worthU l q < 0) ∧ (l = 0 → worthU l q = 0) := ⟨fun h => worthU_pos h hQ.1, fun h => worthU_neg h hQ.1, fun h => by rw [h]; exact worthU_zero q⟩
  generalize worthU l q = x at *
  generalize worthU (-l) q = y at *
  have t : Int.tmod x 2 = 0 ↔ x % 2 = 0 := by rw [← Int.dvd_iff_tmod_eq_zero, Int.dvd_iff_emod_eq_zero]
  refine quantOdd_core a1 a2 l q x y (Int.tmod x 2) w HKn HOf HV1 HV2 hL.1 hL.2 i1.1 i1.2 i2.1 i2.2 (l == 0) (decide (0 < l)) ?_ rfl ?_ rfl ?_ rfl ?_
  · rw [Bool.eq_iff_iff, beq_iff_eq, beq_iff_eq]
    omega
  · rw [decide_eq_decide]
    omega
  · simp only [beq_iff_eq, beq_eq_false_iff_ne, ne_eq]
    omega
  · simp only [bne_iff_ne, beq_iff_eq, beq_eq_false_iff_ne, ne_eq, bne_eq_false_iff_eq]
    omega

end Go.Proofs.Ytfkjgafmaplggaa
