/- The law's awake (praxinoscopelaw09); the walk of ScanKnown. -/
import Derived.Test.YtjfekhjfdapilaaZLaw
namespace Go.Proofs.Ytjfekhjfdapilaa
open Go.RowKit Go.Shelf
set_option linter.unusedVariables false

def blkA : List Int := putAt9 zeros64 [0, 5, 8, -2]
theorem blkA_len : blkA.length ≤ 1000000 := by decide +kernel
theorem blkA_spread : sprR pair2 0 = (0, blkA) := by decide +kernel
theorem blkA_runs : runsR blkA 0 = (0, pair2) := by decide +kernel
def blkB : List Int := putAt9 zeros64 [1, 5, 16, -2]
theorem blkB_len : blkB.length ≤ 1000000 := by decide +kernel
theorem blkB_spread : sprR pair2 1 = (0, blkB) := by decide +kernel
def blkC : List Int := putAt9 zeros64 [63, 1]
theorem blkC_len : blkC.length ≤ 1000000 := by decide +kernel
theorem blkC_spread : sprR [(62, 1)] 1 = (0, blkC) := by decide +kernel
def blkD : List Int := putAt9 zeros64 [0, 5]
theorem blkD_runs : runsR blkD 1 = (2, []) := by decide +kernel

set_option maxRecDepth 100000 in
set_option maxHeartbeats 4000000 in
theorem awake9_any (w : World) : Calls Try.prog 9 #[] w fun e w' => e = .returned (.bool true) ∧ Below w.heap.size w w' := by
  have HP := Lib.hid (rowP_lit w pair2 #[.int .i64 0, .int .i64 5, .int .i64 1, .int .i64 (-2)] 2 (by rfl) rfl (by omega) 39)
  have B1 := Lib.hid (show Below w.heap.size w (w.alloc (.cells #[.int .i64 0, .int .i64 5, .int .i64 1, .int .i64 (-2)] 39 (0, 0))) from (Below.refl _ w).alloc (Nat.le_refl _) _)
  have hs : w.heap.size < (w.alloc (.cells #[.int .i64 0, .int .i64 5, .int .i64 1, .int .i64 (-2)] 39 (0, 0))).heap.size := by simp
  go_enter Try.func9, Try.ntmps9
  go_wp2_with fail
  generalize w.alloc (.cells #[.int .i64 0, .int .i64 5, .int .i64 1, .int .i64 (-2)] 39 (0, 0)) = w1 at *
  refine (place9_lit 2 8 0 (by decide +kernel) w1).mono ?_
  rintro e w2 ⟨rfl, b2⟩
  have B2 := Lib.hid b2
  clear b2
  go_wp2_with fail
  refine (block9_lit w2 [0, 5, 8, -2] _ 4 (by rfl) rfl (by omega) (by decide +kernel) blkA rfl _).mono ?_
  rintro e w3 ⟨g3, rfl, l3, n3, b3⟩
  have B3 := Lib.hid (below_chain B2.out (Nat.le_refl _) b3)
  have N3 := Lib.hid n3
  clear b3 n3
  go_wp2_with fail
  refine (spreads9_lit (ps := pair2) (ws := blkA) (HP.out.below B3.out) B3.out.size (by omega) 0 (N3.out.cellsAt l3) blkA_len 0 blkA_spread).mono ?_
  rintro e w4 ⟨rfl, b4⟩
  have B4 := Lib.hid (below_chain B3.out (Nat.le_refl _) b4)
  clear b4 N3
  go_wp2_with fail
  refine (block9_lit w4 [0, 5, 8, -2] _ 4 (by rfl) rfl (by omega) (by decide +kernel) blkA rfl _).mono ?_
  rintro e w5 ⟨g5, rfl, l5, n5, b5⟩
  have B5 := Lib.hid (below_chain B4.out (Nat.le_refl _) b5)
  have N5 := Lib.hid n5
  clear b5 n5
  go_wp2_with fail
  refine (runs9_lit (N5.out.rowV l5) (Nat.le_refl _) (by omega) 0 (HP.out.below B5.out).cellsP (by decide) 0 blkA_runs).mono ?_
  rintro e w6 ⟨rfl, b6⟩
  have B6 := Lib.hid (below_chain B5.out (Nat.le_refl _) b6)
  clear b6 N5
  go_wp2
  go_ret
  exact ⟨rfl, B1.out.trans (B6.out.mono (by omega))⟩

set_option maxRecDepth 100000 in
set_option maxHeartbeats 8000000 in
theorem known9_any (w : World) : Calls Try.prog 5 #[] w fun e w' => e = .returned (.bool true) ∧ Below w.heap.size w w' := by
  have HP := Lib.hid (rowP_lit w pair2 #[.int .i64 0, .int .i64 5, .int .i64 1, .int .i64 (-2)] 2 (by rfl) rfl (by omega) 39)
  have B1 := Lib.hid (show Below w.heap.size w (w.alloc (.cells #[.int .i64 0, .int .i64 5, .int .i64 1, .int .i64 (-2)] 39 (0, 0))) from (Below.refl _ w).alloc (Nat.le_refl _) _)
  have hs : w.heap.size < (w.alloc (.cells #[.int .i64 0, .int .i64 5, .int .i64 1, .int .i64 (-2)] 39 (0, 0))).heap.size := by simp
  go_enter Try.func5, Try.ntmps5
  go_wp2_with fail
  generalize w.alloc (.cells #[.int .i64 0, .int .i64 5, .int .i64 1, .int .i64 (-2)] 39 (0, 0)) = w1 at *
  refine (place9_lit 0 0 0 (by decide +kernel) w1).mono ?_
  rintro e w2 ⟨rfl, b2⟩
  have B2 := Lib.hid (below_chain (Below.refl w1.heap.size w1) (Nat.le_refl _) b2)
  clear b2
  go_wp2_with fail
  refine (place9_lit 3 16 0 (by decide +kernel) w2).mono ?_
  rintro e w3 ⟨rfl, b3⟩
  have B3 := Lib.hid (below_chain B2.out (Nat.le_refl _) b3)
  clear b3
  go_wp2_with fail
  refine (place9_lit 63 63 0 (by decide +kernel) w3).mono ?_
  rintro e w4 ⟨rfl, b4⟩
  have B4 := Lib.hid (below_chain B3.out (Nat.le_refl _) b4)
  clear b4
  go_wp2_with fail
  refine (place9_lit 64 0 3 (by decide +kernel) w4).mono ?_
  rintro e w5 ⟨rfl, b5⟩
  have B5 := Lib.hid (below_chain B4.out (Nat.le_refl _) b5)
  clear b5
  go_wp2_with fail
  refine (place9_lit (-1) 0 3 (by decide +kernel) w5).mono ?_
  rintro e w6 ⟨rfl, b6⟩
  have B6 := Lib.hid (below_chain B5.out (Nat.le_refl _) b6)
  clear b6
  go_wp2_with fail
  refine (block9_lit w6 [1, 5, 16, -2] _ 4 (by rfl) rfl (by omega) (by decide +kernel) blkB rfl _).mono ?_
  rintro e w7 ⟨g7, rfl, l7, n7, b7⟩
  have B7 := Lib.hid (below_chain B6.out (Nat.le_refl _) b7)
  have N7 := Lib.hid n7
  clear b7 n7
  go_wp2_with fail
  refine (spreads9_lit (ps := pair2) (ws := blkB) (HP.out.below B7.out) B7.out.size (by omega) 1 (N7.out.cellsAt l7) blkB_len 0 blkB_spread).mono ?_
  rintro e w8 ⟨rfl, b8⟩
  have B8 := Lib.hid (below_chain B7.out (Nat.le_refl _) b8)
  clear b8
  go_wp2_with fail
  have hs8 : (w8.alloc (.cells #[.int .i64 62, .int .i64 1] 39 (0, 0))).heap.size = w8.heap.size + 1 := by simp
  have P8 := Lib.hid (rowP_lit w8 [(62, 1)] #[.int .i64 62, .int .i64 1] 1 (by rfl) rfl (by omega) 39)
  have A8 := Lib.hid (B8.out.alloc B8.out.size (.cells #[.int .i64 62, .int .i64 1] 39 (0, 0)))
  clear B8
  generalize w8.alloc (.cells #[.int .i64 62, .int .i64 1] 39 (0, 0)) = v8 at *
  rw [← hs8]
  refine (block9_lit v8 [63, 1] _ 2 (by rfl) rfl (by omega) (by decide +kernel) blkC rfl _).mono ?_
  rintro e w9 ⟨g9, rfl, l9, n9, b9⟩
  have D9 := Lib.hid b9
  have B9 := Lib.hid (below_chain A8.out (Nat.le_refl _) b9)
  have N9 := Lib.hid n9
  clear b9 n9
  go_wp2_with fail
  refine (spreads9_lit (ps := [(62, 1)]) (ws := blkC) (P8.out.below D9.out) D9.out.size (by omega) 1 (N9.out.cellsAt l9) blkC_len 0 blkC_spread).mono ?_
  rintro e w10 ⟨rfl, b10⟩
  have B10 := Lib.hid (below_chain B9.out (Nat.le_refl _) b10)
  clear b10
  go_wp2_with fail
  have P10 := Lib.hid (rowP_lit w10 [(63, 1)] #[.int .i64 63, .int .i64 1] 1 (by rfl) rfl (by omega) 39)
  have A10 := Lib.hid (B10.out.alloc B10.out.size (.cells #[.int .i64 63, .int .i64 1] 39 (0, 0)))
  clear B10
  generalize w10.alloc (.cells #[.int .i64 63, .int .i64 1] 39 (0, 0)) = v10 at *
  refine (spreads9_lit (ps := [(63, 1)]) (ws := []) P10.out (Nat.le_refl _) (by omega) 1 (cellsAt_nil v10) (by decide) 11 (by decide +kernel)).mono ?_
  rintro e w11 ⟨rfl, b11⟩
  have B11 := Lib.hid (below_chain A10.out (Nat.le_refl _) b11)
  clear b11 P10 A10
  go_wp2_with fail
  have P11 := Lib.hid (rowP_lit w11 [(0, 0)] #[.int .i64 0, .int .i64 0] 1 (by rfl) rfl (by omega) 39)
  have A11 := Lib.hid (B11.out.alloc B11.out.size (.cells #[.int .i64 0, .int .i64 0] 39 (0, 0)))
  clear B11
  generalize w11.alloc (.cells #[.int .i64 0, .int .i64 0] 39 (0, 0)) = v11 at *
  refine (spreads9_lit (ps := [(0, 0)]) (ws := []) P11.out (Nat.le_refl _) (by omega) 0 (cellsAt_nil v11) (by decide) 10 (by decide +kernel)).mono ?_
  rintro e w12 ⟨rfl, b12⟩
  have B12 := Lib.hid (below_chain A11.out (Nat.le_refl _) b12)
  clear b12 P11 A11
  go_wp2_with fail
  have P12 := Lib.hid (rowP_lit w12 [(0, 128)] #[.int .i64 0, .int .i64 128] 1 (by rfl) rfl (by omega) 39)
  have A12 := Lib.hid (B12.out.alloc B12.out.size (.cells #[.int .i64 0, .int .i64 128] 39 (0, 0)))
  clear B12
  generalize w12.alloc (.cells #[.int .i64 0, .int .i64 128] 39 (0, 0)) = v12 at *
  refine (spreads9_lit (ps := [(0, 128)]) (ws := []) P12.out (Nat.le_refl _) (by omega) 0 (cellsAt_nil v12) (by decide) 10 (by decide +kernel)).mono ?_
  rintro e w13 ⟨rfl, b13⟩
  have B13 := Lib.hid (below_chain A12.out (Nat.le_refl _) b13)
  clear b13 P12 A12
  go_wp2_with fail
  have P13 := Lib.hid (rowP_lit w13 [(-1, 1)] #[.int .i64 (-1), .int .i64 1] 1 (by rfl) rfl (by omega) 39)
  have A13 := Lib.hid (B13.out.alloc B13.out.size (.cells #[.int .i64 (-1), .int .i64 1] 39 (0, 0)))
  clear B13
  generalize w13.alloc (.cells #[.int .i64 (-1), .int .i64 1] 39 (0, 0)) = v13 at *
  refine (spreads9_lit (ps := [(-1, 1)]) (ws := []) P13.out (Nat.le_refl _) (by omega) 0 (cellsAt_nil v13) (by decide) 11 (by decide +kernel)).mono ?_
  rintro e w14 ⟨rfl, b14⟩
  have B14 := Lib.hid (below_chain A13.out (Nat.le_refl _) b14)
  clear b14 P13 A13
  go_wp2_with fail
  refine (spreads9_lit (ps := []) (ws := []) (RowP.nil 0 w14) (Nat.zero_le _) (by omega) 2 (cellsAt_nil w14) (by decide) 3 (by decide +kernel)).mono ?_
  rintro e w15 ⟨rfl, b15⟩
  have B15 := Lib.hid (below_chain B14.out (Nat.le_refl _) b15)
  clear b15
  go_wp2_with fail
  refine (block9_lit w15 [0, 5] _ 2 (by rfl) rfl (by omega) (by decide +kernel) blkD rfl _).mono ?_
  rintro e w16 ⟨g16, rfl, l16, n16, b16⟩
  have B16 := Lib.hid (below_chain B15.out (Nat.le_refl _) b16)
  have N16 := Lib.hid n16
  clear b16 n16
  go_wp2_with fail
  refine (runs9_lit (xs := blkD) (qs := []) (N16.out.rowV l16) (Nat.le_refl _) (by omega) 1 (cellsP_nil w16) (by decide) 2 blkD_runs).mono ?_
  rintro e w17 ⟨rfl, b17⟩
  have B17 := Lib.hid (below_chain B16.out (Nat.le_refl _) b17)
  clear b17
  go_wp2_with fail
  refine (runs9_lit (xs := [1, 2, 3]) (qs := []) (rowV_new w17 (intV [1, 2, 3]) 3 3 (by rfl) (by omega)) (Nat.le_refl _) (by omega) 0 (cellsP_nil _) (by decide) 2 (by decide +kernel)).mono ?_
  rintro e w18 ⟨rfl, b18⟩
  have B18 := Lib.hid (below_chain (B17.out.alloc B17.out.size (.cells (intV [1, 2, 3]).toArray 3 (0, 0))) (Nat.le_refl _) b18)
  clear b18
  go_wp2_with fail
  refine (awake9_any w18).mono ?_
  rintro e w19 ⟨rfl, b19⟩
  have B19 := Lib.hid (below_chain B18.out (Nat.le_refl _) b19)
  clear b19
  go_wp2
  go_ret
  exact ⟨rfl, B1.out.trans (B19.out.mono (by omega))⟩

end Go.Proofs.Ytjfekhjfdapilaa
