/- The walks of QuantNear, QuantTells (praxinoscopelaw10). -/
import Derived.Test.YtfkjgafmaplggaaULaw2
namespace Go.Proofs.Ytfkjgafmaplggaa
open Go.RowKit Go.Shelf
set_option linter.unusedVariables false

set_option maxRecDepth 100000 in
set_option maxHeartbeats 8000000 in
theorem quantNear_core (a0 a1 a2 v l q n x y m g1 g2 n2 l3 : Int) (w : World)
    (HPk : Hid (∀ W, Calls Try.prog 28 #[.int .i64 a0, .int .i64 4096] W fun e w' => e = .returned (.int .i64 (v + 2048)) ∧ W = w'))
    (HOf : Hid (∀ W, Calls Try.prog 27 #[.int .i64 a1, .int .i64 a2] W fun e w' => e = .returned (.tuple #[.int .i64 l, .int .i64 q]) ∧ W = w'))
    (HN1 : Hid (∀ W, Calls Try.prog 14 #[.int .i64 v, .int .i64 q] W fun e w' => e = .returned (.tuple #[.int .i64 n, .int .i64 0]) ∧ Below W.heap.size W w'))
    (HV1 : Hid (∀ W, Calls Try.prog 10 #[.int .i64 n, .int .i64 q] W fun e w' => e = .returned (.tuple #[.int .i64 x, .int .i64 0]) ∧ Below W.heap.size W w'))
    (HV2 : Hid (∀ W, Calls Try.prog 10 #[.int .i64 l, .int .i64 q] W fun e w' => e = .returned (.tuple #[.int .i64 y, .int .i64 0]) ∧ Below W.heap.size W w'))
    (HN2 : Hid (∀ W, Calls Try.prog 14 #[.int .i64 y, .int .i64 q] W fun e w' => e = .returned (.tuple #[.int .i64 m, .int .i64 0]) ∧ Below W.heap.size W w'))
    (HV3 : Hid (∀ W, Calls Try.prog 10 #[.int .i64 m, .int .i64 q] W fun e w' => e = .returned (.tuple #[.int .i64 y, .int .i64 0]) ∧ Below W.heap.size W w'))
    (l1 : -127 ≤ l) (l2 : l ≤ 127) (n1 : -127 ≤ n) (n2' : n ≤ 127) (v1 : -2048 ≤ v) (v2 : v ≤ 2047) (x1 : -2048 ≤ x) (x2 : x ≤ 2047) (y1 : -2048 ≤ y) (y2 : y ≤ 2047)
    (ev : v + 2048 - 2048 = v) (f1 : max (x - v) (v - x) = g1) (f2 : max (y - v) (v - y) = g2) (f3 : max n (-n) = n2) (f4 : max l (-l) = l3)
    (e1 : decide (g1 ≤ g2) = true) (hc : decide (g1 < g2) = true ∨ (decide (g1 < g2) = false ∧ decide (n2 ≤ l3) = true)) :
    Calls Try.prog 8 #[.int .i64 a0, .int .i64 a1, .int .i64 a2] w fun e w' => e = .returned (.bool true) ∧ Below w.heap.size w w' := by
  have HKn := Lib.hid (known10_any w)
  rcases hc with h1 | ⟨h1, h2⟩
  all_goals
    go_enter Try.func8, Try.ntmps8
    go_wp2_with fail
    refine HKn.out.mono ?_
    rintro e w1 ⟨rfl, b1'⟩
    have B1 := Lib.hid b1'
    clear b1'
    go_wp2_with fail
    refine (HOf.out _).mono ?_
    rintro e w' ⟨rfl, rfl⟩
    go_wp2_with fail
    refine (HPk.out _).mono ?_
    rintro e w' ⟨rfl, rfl⟩
    go_wp2_with fail
    refine (HN1.out w1).mono ?_
    rintro e w2 ⟨rfl, b2'⟩
    have B2 := Lib.hid (below_chain B1.out (Nat.le_refl _) b2')
    clear b2'
    go_wp2_with fail
    refine (HV1.out w2).mono ?_
    rintro e w3 ⟨rfl, b3'⟩
    have B3 := Lib.hid (below_chain B2.out (Nat.le_refl _) b3')
    clear b3'
    go_wp2_with fail
    refine (HV2.out w3).mono ?_
    rintro e w4 ⟨rfl, b4'⟩
    have B4 := Lib.hid (below_chain B3.out (Nat.le_refl _) b4')
    clear b4'
    go_wp2_with fail
    refine (HN2.out w4).mono ?_
    rintro e w5 ⟨rfl, b5'⟩
    have B5 := Lib.hid (below_chain B4.out (Nat.le_refl _) b5')
    clear b5'
    go_wp2_with fail
    refine (HV3.out w5).mono ?_
    rintro e w6 ⟨rfl, b6'⟩
    have B6 := Lib.hid (below_chain B5.out (Nat.le_refl _) b6')
    clear b6'
    go_wp2_with fail
    go_ret
    exact ⟨rfl, B6.out⟩

set_option maxHeartbeats 1000000 in
theorem quantNear_walk (a0 a1 a2 : Int) (w : World) : Calls Try.prog 8 #[.int .i64 a0, .int .i64 a1, .int .i64 a2] w fun e w' => e = .returned (.bool true) ∧ Below w.heap.size w w' := by
  have HOf := Lib.hid (fun W => of10_any a1 a2 W)
  have hl := ofL_ok a1
  have hq := ofQ_ok a2
  generalize ofL a1 = l at *
  generalize ofQ a2 = q at *
  have hL := (okLU_iff l).1 hl
  have hQ := (okQU_iff q).1 hq
  have hP : ∀ W, Calls Try.prog 28 #[.int .i64 a0, .int .i64 4096] W fun e w' => e = .returned (.int .i64 ((a0 % 4096 - 2048) + 2048)) ∧ W = w' := fun W => by
    have := pick_any a0 4096 W (by omega) (by omega)
    rwa [show a0 % 4096 - 2048 + 2048 = a0 % 4096 by omega]
  have hv1 : -2048 ≤ a0 % 4096 - 2048 := by omega
  have hv2 : a0 % 4096 - 2048 ≤ 2047 := by omega
  generalize a0 % 4096 - 2048 = v at *
  have hnr := bestU_near (n := v) hq hl
  have hnl := bestU_lv q v (Nat.le_refl 128)
  have hbl := bestU_lv q (worthU l q) (Nat.le_refl 128)
  have hw := bestU_worth hq hl
  have i1 := worthU_in (bestU q v 128) q
  have i2 := worthU_in l q
  have HN1 := Lib.hid (fun W => near_lv hv1 hv2 hq W)
  have HV1 := Lib.hid (fun W => value_lv (l := bestU q v 128) (by rw [okLU_iff]; exact hnl) hq W)
  have HV2 := Lib.hid (fun W => value_lv hl hq W)
  have HN2 := Lib.hid (fun W => near_lv i2.1 i2.2 hq W)
  have hV3 := fun W => value_lv (l := bestU q (worthU l q) 128) (by rw [okLU_iff]; exact hbl) hq W
  rw [hw] at hV3
  refine quantNear_core a0 a1 a2 v l q (bestU q v 128) (worthU (bestU q v 128) q) (worthU l q) (bestU q (worthU l q) 128) (gapU q v (bestU q v 128)) (gapU q v l) _ _ w (Lib.hid hP) HOf HN1 HV1 HV2 HN2 (Lib.hid hV3) hL.1 hL.2 hnl.1 hnl.2 hv1 hv2 i1.1 i1.2 i2.1 i2.2 (by omega) rfl rfl rfl rfl (decide_eq_true hnr.1) ?_
  simp only [decide_eq_true_eq, decide_eq_false_iff_not]
  omega

set_option maxRecDepth 100000 in
set_option maxHeartbeats 4000000 in
theorem quantTells_walk (l q c v : Int) (w : World) : Calls Try.prog 3 #[.int .i64 l, .int .i64 q, .int .i64 c, .int .i64 v] w fun e w' => e = .returned (.bool true) ∧ Below w.heap.size w w' := by
  have HAw := Lib.hid (fun W => awake10_any W)
  have HV := Lib.hid (fun W => valueU_any l q W)
  have HV2 := Lib.hid (fun W => r10value_any l q W)
  have HD := Lib.hid (fun W => dcU_any c W)
  have HD2 := Lib.hid (fun W => r10dc_any c W)
  have HN := Lib.hid (fun W => nearU_any v q W)
  have HN2 := Lib.hid (fun W => r10nearest_any v q W)
  generalize (valueU l q).1 = x1 at *
  generalize (valueU l q).2 = x2 at *
  generalize (dcU c).1 = x3 at *
  generalize (dcU c).2 = x4 at *
  generalize (nearU v q).1 = x5 at *
  generalize (nearU v q).2 = x6 at *
  go_enter Try.func3, Try.ntmps3
  go_wp2_with fail
  refine (HV.out w).mono ?_
  rintro e w1 ⟨rfl, b1⟩
  have B1 := Lib.hid b1
  clear b1
  go_wp2_with fail
  refine (HV2.out _).mono ?_
  rintro e w' ⟨rfl, rfl⟩
  go_wp2_with fail
  refine (HD.out _).mono ?_
  rintro e w' ⟨rfl, rfl⟩
  go_wp2_with fail
  refine (HD2.out _).mono ?_
  rintro e w' ⟨rfl, rfl⟩
  go_wp2_with fail
  refine (HN.out w1).mono ?_
  rintro e w2 ⟨rfl, b2⟩
  have B2 := Lib.hid (below_chain B1.out (Nat.le_refl _) b2)
  clear b2
  go_wp2_with fail
  refine (HN2.out _).mono ?_
  rintro e w' ⟨rfl, rfl⟩
  go_wp2_with fail
  refine (HAw.out w2).mono ?_
  rintro e w3 ⟨rfl, b3⟩
  have B3 := Lib.hid (below_chain B2.out (Nat.le_refl _) b3)
  clear b3
  go_wp2_with fail
  go_ret
  exact ⟨rfl, B3.out⟩

end Go.Proofs.Ytfkjgafmaplggaa
