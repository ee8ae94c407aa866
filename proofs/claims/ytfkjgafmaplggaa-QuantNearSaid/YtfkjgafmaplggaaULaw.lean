/- The laws' helpers values, dc, near, of, awake (praxinoscopelaw10); the walk of QuantKnown. -/
import Derived.Test.YtfkjgafmaplggaaUNear
import Derived.Test.YtfkjgafmaplggaaUBlk
import Derived.Test.YtfkjgafmaplggaaURefN
import Derived.Test.YtfkjgafmaplggaaURefB
namespace Go.Proofs.Ytfkjgafmaplggaa
open Go.RowKit Go.Shelf
set_option linter.unusedVariables false

theorem values10_any (l q want : Int) (w : World) : Calls Try.prog 24 #[.int .i64 l, .int .i64 q, .int .i64 want] w fun e w' => e = .returned (.bool ((valueU l q).1 == want && (valueU l q).2 == 0)) ∧ Below w.heap.size w w' := by
  have HP := Lib.hid (valueU_any l q w)
  generalize (valueU l q).1 = x at *
  generalize (valueU l q).2 = y at *
  cases h1 : (x == want) with
  | true =>
    cases h2 : (y == 0) with
    | true =>
      go_enter Try.func24, Try.ntmps24
      go_wp2_with (go_at_call 10; refine HP.out.mono ?_; rintro e w' ⟨rfl, hb⟩)
      go_ret
      exact ⟨rfl, hb⟩
    | false =>
      go_enter Try.func24, Try.ntmps24
      go_wp2_with (go_at_call 10; refine HP.out.mono ?_; rintro e w' ⟨rfl, hb⟩)
      go_ret
      exact ⟨rfl, hb⟩
  | false =>
    go_enter Try.func24, Try.ntmps24
    go_wp2_with (go_at_call 10; refine HP.out.mono ?_; rintro e w' ⟨rfl, hb⟩)
    go_ret
    exact ⟨rfl, hb⟩
theorem dc10_any (c want err : Int) (w : World) : Calls Try.prog 25 #[.int .i64 c, .int .i64 want, .int .i64 err] w fun e w' => e = .returned (.bool ((dcU c).1 == want && (dcU c).2 == err)) ∧ w = w' := by
  have HP := Lib.hid (dcU_any c w)
  generalize (dcU c).1 = x at *
  generalize (dcU c).2 = y at *
  cases h1 : (x == want) with
  | true =>
    cases h2 : (y == err) with
    | true =>
      go_enter Try.func25, Try.ntmps25
      go_wp2_with (go_at_call 12; refine HP.out.mono ?_; rintro e w' ⟨rfl, rfl⟩)
      go_ret
      exact ⟨rfl, rfl⟩
    | false =>
      go_enter Try.func25, Try.ntmps25
      go_wp2_with (go_at_call 12; refine HP.out.mono ?_; rintro e w' ⟨rfl, rfl⟩)
      go_ret
      exact ⟨rfl, rfl⟩
  | false =>
    go_enter Try.func25, Try.ntmps25
    go_wp2_with (go_at_call 12; refine HP.out.mono ?_; rintro e w' ⟨rfl, rfl⟩)
    go_ret
    exact ⟨rfl, rfl⟩
theorem near10_any (n q want err : Int) (w : World) : Calls Try.prog 26 #[.int .i64 n, .int .i64 q, .int .i64 want, .int .i64 err] w fun e w' => e = .returned (.bool ((nearU n q).1 == want && (nearU n q).2 == err)) ∧ Below w.heap.size w w' := by
  have HP := Lib.hid (nearU_any n q w)
  generalize (nearU n q).1 = x at *
  generalize (nearU n q).2 = y at *
  cases h1 : (x == want) with
  | true =>
    cases h2 : (y == err) with
    | true =>
      go_enter Try.func26, Try.ntmps26
      go_wp2_with (go_at_call 14; refine HP.out.mono ?_; rintro e w' ⟨rfl, hb⟩)
      go_ret
      exact ⟨rfl, hb⟩
    | false =>
      go_enter Try.func26, Try.ntmps26
      go_wp2_with (go_at_call 14; refine HP.out.mono ?_; rintro e w' ⟨rfl, hb⟩)
      go_ret
      exact ⟨rfl, hb⟩
  | false =>
    go_enter Try.func26, Try.ntmps26
    go_wp2_with (go_at_call 14; refine HP.out.mono ?_; rintro e w' ⟨rfl, hb⟩)
    go_ret
    exact ⟨rfl, hb⟩
theorem values10_lit (l q want : Int) (h : ((valueU l q).1 == want && (valueU l q).2 == 0) = true) (w : World) : Calls Try.prog 24 #[.int .i64 l, .int .i64 q, .int .i64 want] w fun e w' => e = .returned (.bool true) ∧ Below w.heap.size w w' := by
  have := values10_any l q want w
  rwa [h] at this
theorem dc10_lit (c want err : Int) (h : ((dcU c).1 == want && (dcU c).2 == err) = true) (w : World) : Calls Try.prog 25 #[.int .i64 c, .int .i64 want, .int .i64 err] w fun e w' => e = .returned (.bool true) ∧ Below w.heap.size w w' := by
  have := dc10_any c want err w
  rw [h] at this
  exact this.mono (fun e w' h => ⟨h.1, by rw [← h.2]; exact Below.refl _ _⟩)
theorem near10_lit (n q want err : Int) (h : ((nearU n q).1 == want && (nearU n q).2 == err) = true) (w : World) : Calls Try.prog 26 #[.int .i64 n, .int .i64 q, .int .i64 want, .int .i64 err] w fun e w' => e = .returned (.bool true) ∧ Below w.heap.size w w' := by
  have := near10_any n q want err w
  rwa [h] at this

set_option maxRecDepth 100000 in
set_option maxHeartbeats 2000000 in
theorem awake10_any (w : World) : Calls Try.prog 16 #[] w fun e w' => e = .returned (.bool true) ∧ Below w.heap.size w w' := by
  go_enter Try.func16, Try.ntmps16
  go_wp2_with fail
  refine (values10_lit 1 1 3 (by decide +kernel) w).mono ?_
  rintro e w1 ⟨rfl, b1⟩
  have B1 := Lib.hid b1
  clear b1
  go_wp2_with fail
  refine (values10_lit (-1) 2 (-5) (by decide +kernel) w1).mono ?_
  rintro e w2 ⟨rfl, b2⟩
  have B2 := Lib.hid (below_chain B1.out (Nat.le_refl _) b2)
  clear b2
  go_wp2_with fail
  refine (values10_lit (-127) 31 (-2048) (by decide +kernel) w2).mono ?_
  rintro e w3 ⟨rfl, b3⟩
  have B3 := Lib.hid (below_chain B2.out (Nat.le_refl _) b3)
  clear b3
  go_wp2_with fail
  refine (dc10_lit 255 1024 0 (by decide +kernel) w3).mono ?_
  rintro e w4 ⟨rfl, b4⟩
  have B4 := Lib.hid (below_chain B3.out (Nat.le_refl _) b4)
  clear b4
  go_wp2_with fail
  refine (near10_lit 4 1 1 0 (by decide +kernel) w4).mono ?_
  rintro e w5 ⟨rfl, b5⟩
  have B5 := Lib.hid (below_chain B4.out (Nat.le_refl _) b5)
  clear b5
  go_wp2_with fail
  refine (near10_lit (-2048) 31 (-33) 0 (by decide +kernel) w5).mono ?_
  rintro e w6 ⟨rfl, b6⟩
  have B6 := Lib.hid (below_chain B5.out (Nat.le_refl _) b6)
  clear b6
  go_wp2_with fail
  go_ret
  exact ⟨rfl, B6.out⟩

set_option maxRecDepth 100000 in
set_option maxHeartbeats 4000000 in
theorem known10_any (w : World) : Calls Try.prog 5 #[] w fun e w' => e = .returned (.bool true) ∧ Below w.heap.size w w' := by
  have HV1 := Lib.hid (show ∀ W, Calls Try.prog 10 #[.int .i64 128, .int .i64 1] W fun e w' => e = .returned (.tuple #[.int .i64 0, .int .i64 3]) ∧ Below W.heap.size W w' from fun W => valueU_any 128 1 W)
  have HV2 := Lib.hid (show ∀ W, Calls Try.prog 10 #[.int .i64 1, .int .i64 32] W fun e w' => e = .returned (.tuple #[.int .i64 0, .int .i64 3]) ∧ Below W.heap.size W w' from fun W => valueU_any 1 32 W)
  go_enter Try.func5, Try.ntmps5
  go_wp2_with fail
  refine (HV1.out w).mono ?_
  rintro e w1 ⟨rfl, b1⟩
  have B1 := Lib.hid b1
  clear b1
  go_wp2_with fail
  refine (HV2.out w1).mono ?_
  rintro e w2 ⟨rfl, b2⟩
  have B2 := Lib.hid (below_chain B1.out (Nat.le_refl _) b2)
  clear b2
  go_wp2_with fail
  refine (values10_lit 1 2 5 (by decide +kernel) w2).mono ?_
  rintro e w3 ⟨rfl, b3⟩
  have B3 := Lib.hid (below_chain B2.out (Nat.le_refl _) b3)
  clear b3
  go_wp2_with fail
  refine (values10_lit 127 31 2047 (by decide +kernel) w3).mono ?_
  rintro e w4 ⟨rfl, b4⟩
  have B4 := Lib.hid (below_chain B3.out (Nat.le_refl _) b4)
  clear b4
  go_wp2_with fail
  refine (values10_lit 0 5 0 (by decide +kernel) w4).mono ?_
  rintro e w5 ⟨rfl, b5⟩
  have B5 := Lib.hid (below_chain B4.out (Nat.le_refl _) b5)
  clear b5
  go_wp2_with fail
  refine (dc10_lit 1 8 0 (by decide +kernel) w5).mono ?_
  rintro e w6 ⟨rfl, b6⟩
  have B6 := Lib.hid (below_chain B5.out (Nat.le_refl _) b6)
  clear b6
  go_wp2_with fail
  refine (dc10_lit 254 2032 0 (by decide +kernel) w6).mono ?_
  rintro e w7 ⟨rfl, b7⟩
  have B7 := Lib.hid (below_chain B6.out (Nat.le_refl _) b7)
  clear b7
  go_wp2_with fail
  refine (dc10_lit 0 0 10 (by decide +kernel) w7).mono ?_
  rintro e w8 ⟨rfl, b8⟩
  have B8 := Lib.hid (below_chain B7.out (Nat.le_refl _) b8)
  clear b8
  go_wp2_with fail
  refine (dc10_lit 128 0 10 (by decide +kernel) w8).mono ?_
  rintro e w9 ⟨rfl, b9⟩
  have B9 := Lib.hid (below_chain B8.out (Nat.le_refl _) b9)
  clear b9
  go_wp2_with fail
  refine (dc10_lit 256 0 3 (by decide +kernel) w9).mono ?_
  rintro e w10 ⟨rfl, b10⟩
  have B10 := Lib.hid (below_chain B9.out (Nat.le_refl _) b10)
  clear b10
  go_wp2_with fail
  refine (awake10_any w10).mono ?_
  rintro e w11 ⟨rfl, b11⟩
  have B11 := Lib.hid (below_chain B10.out (Nat.le_refl _) b11)
  clear b11
  go_wp2_with fail
  refine (near10_lit 0 9 0 0 (by decide +kernel) w11).mono ?_
  rintro e w12 ⟨rfl, b12⟩
  have B12 := Lib.hid (below_chain B11.out (Nat.le_refl _) b12)
  clear b12
  go_wp2_with fail
  refine (near10_lit 2 1 1 0 (by decide +kernel) w12).mono ?_
  rintro e w13 ⟨rfl, b13⟩
  have B13 := Lib.hid (below_chain B12.out (Nat.le_refl _) b13)
  clear b13
  go_wp2_with fail
  refine (near10_lit 2048 1 0 3 (by decide +kernel) w13).mono ?_
  rintro e w14 ⟨rfl, b14⟩
  have B14 := Lib.hid (below_chain B13.out (Nat.le_refl _) b14)
  clear b14
  go_wp2_with fail
  go_ret
  exact ⟨rfl, B14.out⟩

/-- a level, a quantiser, by any numbers -/
def ofL (l : Int) : Int := l % 255 - 127
def ofQ (q : Int) : Int := 1 + q % 31
theorem ofL_ok (l : Int) : okLU (ofL l) = true := by rw [okLU_iff]; unfold ofL; omega
theorem ofQ_ok (q : Int) : okQU (ofQ q) = true := by rw [okQU_iff]; unfold ofQ; omega
set_option maxHeartbeats 1000000 in
theorem of10_any (l q : Int) (w : World) : Calls Try.prog 27 #[.int .i64 l, .int .i64 q] w fun e w' => e = .returned (.tuple #[.int .i64 (ofL l), .int .i64 (ofQ q)]) ∧ w = w' := by
  have HL := Lib.hid (fun W => pick_any l 255 W (by omega) (by omega))
  have HQ := Lib.hid (fun W => pick_any q 31 W (by omega) (by omega))
  have r1 : 0 ≤ l % 255 := by omega
  have r2 : l % 255 < 255 := by omega
  have r3 : 0 ≤ q % 31 := by omega
  have r4 : q % 31 < 31 := by omega
  unfold ofL ofQ
  generalize l % 255 = x at *
  generalize q % 31 = y at *
  go_enter Try.func27, Try.ntmps27
  go_wp2_with fail
  refine (HL.out _).mono ?_
  rintro e w1 ⟨rfl, rfl⟩
  go_wp2_with fail
  refine (HQ.out _).mono ?_
  rintro e w1 ⟨rfl, rfl⟩
  go_wp2_with fail
  go_ret2
  exact ⟨rfl, rfl⟩

end Go.Proofs.Ytfkjgafmaplggaa
