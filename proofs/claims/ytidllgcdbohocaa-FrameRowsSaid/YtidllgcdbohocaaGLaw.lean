/- frame: the laws' helpers, awake, the walk of FrameKnown (praxinoscopelaw13). -/
import Derived.Test.YtidllgcdbohocaaGRef
namespace Go.Proofs.Ytidllgcdbohocaa
open Go.RowKit Go.Shelf Go.Sort
set_option linter.unusedVariables false

theorem sized13_true {f w h n e : Int} (h1 : sW f = w) (h2 : sH f = h) (h3 : sN f = n) (h4 : sE f = e) (W : World) :
    Calls Try.prog 21 #[.int .i64 f, .int .i64 w, .int .i64 h, .int .i64 n, .int .i64 e] W fun e' W' => e' = .returned (.bool true) ∧ Below W.heap.size W W' := by
  have HS := Lib.hid (fun W => size13_ans f W)
  rw [h1, h2, h3, h4] at HS
  clear h1 h2 h3 h4
  go_enter Try.func21, Try.ntmps21
  go_wp2_with (go_at_call 8; refine (HS.out _).mono ?_; rintro e w' ⟨rfl, rfl⟩)
  go_ret
  exact ⟨rfl, Below.refl _ _⟩
theorem next13_true {f g x e : Int} (h1 : nX f g = x) (h2 : nE f g = e) (W : World) :
    Calls Try.prog 22 #[.int .i64 f, .int .i64 g, .int .i64 x, .int .i64 e] W fun e' W' => e' = .returned (.bool true) ∧ Below W.heap.size W W' := by
  have HS := Lib.hid (fun W => next13_ans f g W)
  rw [h1, h2] at HS
  clear h1 h2
  go_enter Try.func22, Try.ntmps22
  go_wp2_with (go_at_call 12; refine (HS.out _).mono ?_; rintro e w' ⟨rfl, hb⟩)
  go_ret
  exact ⟨rfl, hb⟩
theorem corner13_true {f g a x y e : Int} (h1 : cX f g a = x) (h2 : cY f g a = y) (h3 : cE f g a = e) (W : World) :
    Calls Try.prog 23 #[.int .i64 f, .int .i64 g, .int .i64 a, .int .i64 x, .int .i64 y, .int .i64 e] W fun e' W' => e' = .returned (.bool true) ∧ Below W.heap.size W W' := by
  have HS := Lib.hid (fun W => corner13_ans f g a W)
  rw [h1, h2, h3] at HS
  clear h1 h2 h3
  go_enter Try.func23, Try.ntmps23
  go_wp2_with (go_at_call 17; refine (HS.out _).mono ?_; rintro e w' ⟨rfl, hb⟩)
  go_ret
  exact ⟨rfl, hb⟩
theorem place13_true {f g a b x y e : Int} (h1 : pA f g a b = x) (h2 : pW f g a b = y) (h3 : pE f g a b = e) (W : World) :
    Calls Try.prog 24 #[.int .i64 f, .int .i64 g, .int .i64 a, .int .i64 b, .int .i64 x, .int .i64 y, .int .i64 e] W fun e' W' => e' = .returned (.bool true) ∧ Below W.heap.size W W' := by
  have HS := Lib.hid (fun W => place13_ans f g a b W)
  rw [h1, h2, h3] at HS
  clear h1 h2 h3
  go_enter Try.func24, Try.ntmps24
  go_wp2_with (go_at_call 19; refine (HS.out _).mono ?_; rintro e w' ⟨rfl, hb⟩)
  go_ret
  exact ⟨rfl, hb⟩

set_option maxRecDepth 100000 in
set_option maxHeartbeats 4000000 in
theorem awake13_any (w : World) : Calls Try.prog 16 #[] w fun e w' => e = .returned (.bool true) ∧ Below w.heap.size w w' := by
  have B0 := Lib.hid (Below.refl w.heap.size w)
  go_enter Try.func16, Try.ntmps16
  go_wp2_with fail
  refine (sized13_true (f := 0) (w := 176) (h := 144) (n := 38016) (e := 0) (by decide +kernel) (by decide +kernel) (by decide +kernel) (by decide +kernel) _).mono ?_
  rintro e w1 ⟨rfl, b⟩
  have B1 := Lib.hid (below_chain B0.out (Nat.le_refl _) b)
  clear b
  go_wp2_with fail
  refine (next13_true (f := 0) (g := 3) (x := 5) (e := 0) (by decide +kernel) (by decide +kernel) _).mono ?_
  rintro e w2 ⟨rfl, b⟩
  have B2 := Lib.hid (below_chain B1.out (Nat.le_refl _) b)
  clear b
  go_wp2_with fail
  refine (corner13_true (f := 0) (g := 3) (a := 12) (x := 0) (y := 64) (e := 0) (by decide +kernel) (by decide +kernel) (by decide +kernel) _).mono ?_
  rintro e w3 ⟨rfl, b⟩
  have B3 := Lib.hid (below_chain B2.out (Nat.le_refl _) b)
  clear b
  go_wp2_with fail
  refine (place13_true (f := 0) (g := 1) (a := 2) (b := 5) (x := 25352) (y := 88) (e := 0) (by decide +kernel) (by decide +kernel) (by decide +kernel) _).mono ?_
  rintro e w4 ⟨rfl, b⟩
  have B4 := Lib.hid (below_chain B3.out (Nat.le_refl _) b)
  clear b
  go_wp2
  go_ret
  exact ⟨rfl, B4.out⟩

set_option maxRecDepth 100000 in
set_option maxHeartbeats 8000000 in
theorem known13_any (w : World) : Calls Try.prog 5 #[] w fun e w' => e = .returned (.bool true) ∧ Below w.heap.size w w' := by
  have B0 := Lib.hid (Below.refl w.heap.size w)
  go_enter Try.func5, Try.ntmps5
  go_wp2_with fail
  refine (groups13_ans 0 _).mono ?_
  rintro e w1 ⟨v, rfl, ho, b⟩
  have B1 := Lib.hid (below_chain B0.out (Nat.le_refl _) b)
  have HV := Lib.hid (cellsAt_own ho)
  have D1 := Lib.hid (Below.refl w1.heap.size w1)
  clear b ho
  go_wp2_with fail
  refine (sized13_true (f := 1) (w := 352) (h := 288) (n := 152064) (e := 0) (by decide +kernel) (by decide +kernel) (by decide +kernel) (by decide +kernel) _).mono ?_
  rintro e w2 ⟨rfl, b⟩
  have B2 := Lib.hid (below_chain B1.out (Nat.le_refl _) b)
  have D2 := Lib.hid (below_chain D1.out (Nat.le_refl _) b)
  clear b
  go_wp2_with fail
  refine (sized13_true (f := 2) (w := 0) (h := 0) (n := 0) (e := 3) (by decide +kernel) (by decide +kernel) (by decide +kernel) (by decide +kernel) _).mono ?_
  rintro e w3 ⟨rfl, b⟩
  have B3 := Lib.hid (below_chain B2.out (Nat.le_refl _) b)
  have D3 := Lib.hid (below_chain D2.out (Nat.le_refl _) b)
  clear b
  have HL := Lib.hid (show CellsAt (w3.alloc (.cells #[.int .i64 1, .int .i64 3, .int .i64 5] 3 (0, 0))) (.slice (some ⟨w3.heap.size, 0, none⟩) 3 3) (intV [1, 3, 5]) from cellsAt_new w3 (intV [1, 3, 5]) 3 3)
  have HB := Lib.hid ((Below.refl w3.heap.size w3).alloc (Nat.le_refl _) (.cells #[.int .i64 1, .int .i64 3, .int .i64 5] 3 (0, 0)))
  go_wp2_with fail
  refine (sameInts_any (xs := gL 0) (ys := [1, 3, 5]) (HV.out.below (below_chain D3.out (Nat.le_refl _) HB.out)) HL.out (by decide) (by decide)).mono ?_
  rintro e w4 ⟨rfl, b⟩
  have B4 := Lib.hid (below_chain (below_chain B3.out (Nat.le_refl _) HB.out) (Nat.le_refl _) b)
  have hdec : decide (gL 0 = [1, 3, 5]) = true := by decide
  rw [hdec]
  clear b hdec HV HL HB D1 D2 D3
  go_wp2_with fail
  refine (next13_true (f := 0) (g := 0) (x := 1) (e := 0) (by decide +kernel) (by decide +kernel) _).mono ?_
  rintro e w5 ⟨rfl, b⟩
  have B5 := Lib.hid (below_chain B4.out (Nat.le_refl _) b)
  clear b
  go_wp2_with fail
  refine (next13_true (f := 1) (g := 12) (x := 0) (e := 0) (by decide +kernel) (by decide +kernel) _).mono ?_
  rintro e w6 ⟨rfl, b⟩
  have B6 := Lib.hid (below_chain B5.out (Nat.le_refl _) b)
  clear b
  go_wp2_with fail
  refine (next13_true (f := 0) (g := 2) (x := 0) (e := 8) (by decide +kernel) (by decide +kernel) _).mono ?_
  rintro e w7 ⟨rfl, b⟩
  have B7 := Lib.hid (below_chain B6.out (Nat.le_refl _) b)
  clear b
  go_wp2_with fail
  refine (corner13_true (f := 1) (g := 4) (a := 33) (x := 336) (y := 80) (e := 0) (by decide +kernel) (by decide +kernel) (by decide +kernel) _).mono ?_
  rintro e w8 ⟨rfl, b⟩
  have B8 := Lib.hid (below_chain B7.out (Nat.le_refl _) b)
  clear b
  go_wp2_with fail
  refine (corner13_true (f := 0) (g := 2) (a := 1) (x := 0) (y := 0) (e := 8) (by decide +kernel) (by decide +kernel) (by decide +kernel) _).mono ?_
  rintro e w9 ⟨rfl, b⟩
  have B9 := Lib.hid (below_chain B8.out (Nat.le_refl _) b)
  clear b
  go_wp2_with fail
  refine (corner13_true (f := 1) (g := 1) (a := 34) (x := 0) (y := 0) (e := 13) (by decide +kernel) (by decide +kernel) (by decide +kernel) _).mono ?_
  rintro e w10 ⟨rfl, b⟩
  have B10 := Lib.hid (below_chain B9.out (Nat.le_refl _) b)
  clear b
  go_wp2_with fail
  refine (awake13_any _).mono ?_
  rintro e w11 ⟨rfl, b⟩
  have B11 := Lib.hid (below_chain B10.out (Nat.le_refl _) b)
  clear b
  go_wp2_with fail
  refine (place13_true (f := 0) (g := 1) (a := 1) (b := 4) (x := 1416) (y := 176) (e := 0) (by decide +kernel) (by decide +kernel) (by decide +kernel) _).mono ?_
  rintro e w12 ⟨rfl, b⟩
  have B12 := Lib.hid (below_chain B11.out (Nat.le_refl _) b)
  clear b
  go_wp2_with fail
  refine (place13_true (f := 1) (g := 12) (a := 33) (b := 6) (x := 150824) (y := 176) (e := 0) (by decide +kernel) (by decide +kernel) (by decide +kernel) _).mono ?_
  rintro e w13 ⟨rfl, b⟩
  have B13 := Lib.hid (below_chain B12.out (Nat.le_refl _) b)
  clear b
  go_wp2_with fail
  refine (place13_true (f := 0) (g := 1) (a := 1) (b := 7) (x := 0) (y := 0) (e := 3) (by decide +kernel) (by decide +kernel) (by decide +kernel) _).mono ?_
  rintro e w14 ⟨rfl, b⟩
  have B14 := Lib.hid (below_chain B13.out (Nat.le_refl _) b)
  clear b
  go_wp2
  go_ret
  exact ⟨rfl, B14.out⟩

end Go.Proofs.Ytidllgcdbohocaa
