/- The laws' helpers weighs, flat, awake (praxinoscopelaw11); the walk of CosineKnown. -/
import Derived.Test.YtpmdeoiajnfabaaCRef3
import Derived.Test.YtpmdeoiajnfabaaPTree
namespace Go.Proofs.Ytpmdeoiajnfabaa
open Go.RowKit Go.Shelf
set_option linter.unusedVariables false

theorem weighs11_any (u x want err : Int) (w : World) : Calls Try.prog 20 #[.int .i64 u, .int .i64 x, .int .i64 want, .int .i64 err] w fun e w' => e = .returned (.bool ((weightR u x).1 == want && (weightR u x).2 == err)) ∧ Below w.heap.size w w' := by
  have HP := Lib.hid (weight_any u x w)
  generalize (weightR u x).1 = a at *
  generalize (weightR u x).2 = b at *
  cases h1 : (a == want) with
  | true =>
    cases h2 : (b == err) with
    | true =>
      go_enter Try.func20, Try.ntmps20
      go_wp2_with (go_at_call 18; refine HP.out.mono ?_; rintro e w' ⟨rfl, hb⟩)
      go_ret
      exact ⟨rfl, hb⟩
    | false =>
      go_enter Try.func20, Try.ntmps20
      go_wp2_with (go_at_call 18; refine HP.out.mono ?_; rintro e w' ⟨rfl, hb⟩)
      go_ret
      exact ⟨rfl, hb⟩
  | false =>
    go_enter Try.func20, Try.ntmps20
    go_wp2_with (go_at_call 18; refine HP.out.mono ?_; rintro e w' ⟨rfl, hb⟩)
    go_ret
    exact ⟨rfl, hb⟩
theorem weighs11_lit (u x want err : Int) (h : ((weightR u x).1 == want && (weightR u x).2 == err) = true) (w : World) : Calls Try.prog 20 #[.int .i64 u, .int .i64 x, .int .i64 want, .int .i64 err] w fun e w' => e = .returned (.bool true) ∧ Below w.heap.size w w' := by
  have := weighs11_any u x want err w
  rwa [h] at this

/-- a row that a call handed back, read -/
theorem OwnI.rowC {w : World} {base : Nat} {v : Value} {xs : List Int} (h : OwnI w base v xs) : ∃ a cap, v = .slice a xs.length cap ∧ RowV w.heap.size w a xs.length cap (intV xs) := by
  obtain ⟨t, h⟩ := h
  exact rowV_own4 h
theorem repl_nth (n : Nat) (x : Int) {i : Nat} (hi : i < n) : nthC (List.replicate n x) i = x := by simp [nthC, hi]

set_option maxRecDepth 100000 in
set_option maxHeartbeats 2000000 in
theorem flat11_lit (n want : Int) (h : invR (zeros64.set 0 n) = (0, List.replicate 64 want)) (w : World) : Calls Try.prog 21 #[.int .i64 n, .int .i64 want] w fun e w' => e = .returned (.bool true) ∧ Below w.heap.size w w' := by
  obtain ⟨w0, hw0⟩ : ∃ w0, w.alloc (.cells (numsA zeros64) 3 (0, 0)) = w0 := ⟨_, rfl⟩
  have hmk := made64 w
  have HN := Lib.hid (numsAt_new w 3 zeros64)
  have HBn := Lib.hid (ints64_new w 3 zeros64)
  rw [hw0] at hmk HN HBn
  clear hw0
  have c1 := HN.out.cell (k := 0) (by decide)
  have f1 := HN.out.frozen 0
  have HN1 := Lib.hid (HN.out.set 0 n)
  have hln : (zeros64.set 0 n).length = 64 := rfl
  have HB1 := Lib.hid (HBn.out.setCell (p := ⟨w.heap.size, 0, none⟩) (Nat.le_refl _) (.int .i64 n))
  have HI := Lib.hid (inv11_any (HN1.out.rowV hln) (Nat.le_refl _) (by omega))
  rw [h] at HI
  simp only at HI
  clear HN h HBn
  go_enter Try.func21, Try.ntmps21
  go_wp2_with fail
  refine HI.out.mono ?_
  rintro e w2 ⟨v, rfl, ho, hb⟩
  obtain ⟨a, cap, rfl, hr⟩ := ho.rowC
  rw [List.length_replicate] at hr ⊢
  have HR := Lib.hid hr
  have HB2 := Lib.hid (HB1.out.trans (hb.mono HB1.out.size))
  clear ho hb hr HI c1 f1 hmk
  go_wp2_with fail
  go_loop [8] (fun i => ∃ k : Nat, i = .int .i64 k ∧ k ≤ 64) (fun i => 64 - (intOf i).toNat)
  case atStart => exact ⟨0, rfl, by omega⟩
  case round =>
    obtain ⟨k, rfl, hk⟩ := hrel
    by_cases hk2 : k < 64
    · obtain ⟨b, off, rfl, hbl, hc⟩ := HR.out.cells (by omega)
      have x1 := hc k (.int .i64 want) (by unfold intV; rw [List.getElem?_map, List.getElem?_replicate, if_pos hk2]; rfl)
      have z1 : (k : Int) < 64 := by omega
      have e1 : (want != want) = false := by simp
      clear hc
      go_wp2_with fail
      go_round
      case rel => exact ⟨k + 1, by go_num, by omega⟩
      case measure => simp [intOf]; omega
    · obtain rfl : k = 64 := by omega
      go_wp2_with fail
      go_ret
      exact ⟨rfl, HB2.out⟩

theorem flat_a : invR (zeros64.set 0 8) = (0, List.replicate 64 1) := by decide +kernel
theorem flat_b : invR (zeros64.set 0 2032) = (0, List.replicate 64 254) := by decide +kernel
theorem flat_c : invR (zeros64.set 0 (-8)) = (0, List.replicate 64 (-1)) := by decide +kernel
theorem flat_d : invR (zeros64.set 0 0) = (0, List.replicate 64 0) := by decide +kernel

set_option maxRecDepth 100000 in
set_option maxHeartbeats 2000000 in
theorem awake11_any (w : World) : Calls Try.prog 10 #[] w fun e w' => e = .returned (.bool true) ∧ Below w.heap.size w w' := by
  go_enter Try.func10, Try.ntmps10
  go_wp2_with fail
  refine (weighs11_lit 1 0 2009 0 (by decide +kernel) w).mono ?_
  rintro e w1 ⟨rfl, b1⟩
  have B1 := Lib.hid b1
  clear b1
  go_wp2_with fail
  refine (weighs11_lit 2 3 (-1892) 0 (by decide +kernel) w1).mono ?_
  rintro e w2 ⟨rfl, b2⟩
  have B2 := Lib.hid (below_chain B1.out (Nat.le_refl _) b2)
  clear b2
  go_wp2_with fail
  refine (flat11_lit 8 1 flat_a w2).mono ?_
  rintro e w3 ⟨rfl, b3⟩
  have B3 := Lib.hid (below_chain B2.out (Nat.le_refl _) b3)
  clear b3
  go_wp2_with fail
  go_ret
  exact ⟨rfl, B3.out⟩

/-- Line of a row that is written out -/
theorem line_a (W : World) : Calls Try.prog 16 #[.slice (some ⟨W.heap.size, 0, none⟩) 8 8] (W.alloc (.cells #[.int .i64 1, .int .i64 0, .int .i64 0, .int .i64 0, .int .i64 0, .int .i64 0, .int .i64 0, .int .i64 0] 3 (0, 0))) fun e w' =>
    ∃ v, e = .returned (.tuple #[v, .int .i64 0]) ∧ OwnI w' (W.heap.size + 1) v [1448, 1448, 1448, 1448, 1448, 1448, 1448, 1448] ∧ Below W.heap.size W w' := by
  have h := line11_any (xs := [1, 0, 0, 0, 0, 0, 0, 0]) (rowV_new W (intV [1, 0, 0, 0, 0, 0, 0, 0]) 3 8 rfl (by omega)) (Nat.le_refl _) (by omega)
  rw [show lineR [1, 0, 0, 0, 0, 0, 0, 0] = (0, [1448, 1448, 1448, 1448, 1448, 1448, 1448, 1448]) by decide +kernel] at h
  refine Calls.mono h ?_
  rintro e w' ⟨v, he, ho, hb⟩
  rw [World.size_alloc] at ho
  exact ⟨v, he, ho, ((Below.refl _ W).alloc (Nat.le_refl _) _).trans (hb.mono (by simp))⟩
theorem line_b (W : World) : Calls Try.prog 16 #[.slice (some ⟨W.heap.size, 0, none⟩) 8 8] (W.alloc (.cells #[.int .i64 0, .int .i64 1, .int .i64 0, .int .i64 0, .int .i64 0, .int .i64 0, .int .i64 0, .int .i64 0] 3 (0, 0))) fun e w' =>
    ∃ v, e = .returned (.tuple #[v, .int .i64 0]) ∧ OwnI w' (W.heap.size + 1) v [2009, 1703, 1138, 400, -400, -1138, -1703, -2009] ∧ Below W.heap.size W w' := by
  have h := line11_any (xs := [0, 1, 0, 0, 0, 0, 0, 0]) (rowV_new W (intV [0, 1, 0, 0, 0, 0, 0, 0]) 3 8 rfl (by omega)) (Nat.le_refl _) (by omega)
  rw [show lineR [0, 1, 0, 0, 0, 0, 0, 0] = (0, [2009, 1703, 1138, 400, -400, -1138, -1703, -2009]) by decide +kernel] at h
  refine Calls.mono h ?_
  rintro e w' ⟨v, he, ho, hb⟩
  rw [World.size_alloc] at ho
  exact ⟨v, he, ho, ((Below.refl _ W).alloc (Nat.le_refl _) _).trans (hb.mono (by simp))⟩
theorem inv_a (W : World) : Calls Try.prog 12 #[.slice (some ⟨W.heap.size, 0, none⟩) 3 3] (W.alloc (.cells #[.int .i64 1, .int .i64 2, .int .i64 3] 3 (0, 0))) fun e w' =>
    ∃ v, e = .returned (.tuple #[v, .int .i64 2]) ∧ Below W.heap.size W w' := by
  have h := inv11_any (xs := [1, 2, 3]) (rowV_new W (intV [1, 2, 3]) 3 3 rfl (by omega)) (Nat.le_refl _) (by omega)
  rw [show invR [1, 2, 3] = (2, []) by decide +kernel] at h
  refine Calls.mono h ?_
  rintro e w' ⟨v, he, ho, hb⟩
  exact ⟨v, he, ((Below.refl _ W).alloc (Nat.le_refl _) _).trans (hb.mono (by simp))⟩
theorem inv_b (W W0 : World) (hW : W.alloc (.cells (numsA zeros64) 3 (0, 0)) = W0) : Calls Try.prog 12 #[.slice (some ⟨W.heap.size, 0, none⟩) 64 64] (W0.setCell ⟨W.heap.size, 0, none⟩ (.int .i64 2048)) fun e w' =>
    ∃ v, e = .returned (.tuple #[v, .int .i64 3]) ∧ Below W.heap.size W w' := by
  subst hW
  have h := inv11_any (((numsAt_new W 3 zeros64).set 0 2048).rowV rfl) (Nat.le_refl _) (by omega)
  rw [show invR (zeros64.set 0 2048) = (3, []) by decide +kernel] at h
  refine Calls.mono h ?_
  rintro e w' ⟨v, he, ho, hb⟩
  exact ⟨v, he, ((ints64_new W 3 zeros64).setCell (p := ⟨W.heap.size, 0, none⟩) (Nat.le_refl _) _).trans (hb.mono (by simp))⟩

set_option maxRecDepth 100000 in
set_option maxHeartbeats 4000000 in
theorem known11_any (w : World) : Calls Try.prog 5 #[] w fun e w' => e = .returned (.bool true) ∧ Below w.heap.size w w' := by
  go_enter Try.func5, Try.ntmps5
  go_wp2_with fail
  refine (line_a w).mono ?_
  rintro e w1 ⟨v1, rfl, ho1, b1⟩
  obtain ⟨a1, c1, rfl, hr1⟩ := ho1.rowC
  have HR1 := Lib.hid hr1
  have B1 := Lib.hid b1
  clear b1 ho1 hr1
  go_wp2_with fail
  refine (line_b w1).mono ?_
  rintro e w2 ⟨v2, rfl, ho2, b2⟩
  obtain ⟨a2, c2, rfl, hr2⟩ := ho2.rowC
  have HR2 := Lib.hid hr2
  have HR12 := Lib.hid (HR1.out.below b2)
  have hs12 := b2.size
  have B2 := Lib.hid (below_chain B1.out (Nat.le_refl _) b2)
  clear b2 ho2 hr2 HR1
  go_wp2_with fail
  refine (inv_a w2).mono ?_
  rintro e w3 ⟨v3, rfl, b3⟩
  have HR23 := Lib.hid (HR2.out.below b3)
  have hs23 := b3.size
  have HR13 := Lib.hid (HR12.out.below (b3.mono hs12))
  have B3 := Lib.hid (below_chain B2.out (Nat.le_refl _) b3)
  clear b3 HR2 HR12
  obtain ⟨w4, hw4⟩ : ∃ w4, w3.alloc (.cells (numsA zeros64) 3 (0, 0)) = w4 := ⟨_, rfl⟩
  have hmk := made64 w3
  have HN := Lib.hid (numsAt_new w3 3 zeros64)
  have HI4 := Lib.hid (inv_b w3 w4 hw4)
  rw [hw4] at hmk HN
  clear hw4
  have c4 := HN.out.cell (k := 0) (by decide)
  have f4 := HN.out.frozen 0
  go_wp2_with fail
  refine HI4.out.mono ?_
  rintro e w5 ⟨v5, rfl, b5⟩
  have HR25 := Lib.hid (HR23.out.below (b5.mono hs23))
  have HR15 := Lib.hid (HR13.out.below (b5.mono (Nat.le_trans hs12 hs23)))
  have hs35 := b5.size
  have B5 := Lib.hid (below_chain B3.out (Nat.le_refl _) b5)
  clear b5 HR23 HR13 hmk c4 f4 HN HI4
  go_wp2_with fail
  refine (weighs11_lit 0 5 1448 0 (by decide +kernel) w5).mono ?_
  rintro e w6 ⟨rfl, b6⟩
  have T6 := Lib.hid b6
  clear b6
  go_wp2_with fail
  refine (weighs11_lit 1 7 (-2009) 0 (by decide +kernel) w6).mono ?_
  rintro e w7 ⟨rfl, b7⟩
  have T7 := Lib.hid (below_chain T6.out (Nat.le_refl _) b7)
  clear b7
  go_wp2_with fail
  refine (weighs11_lit 4 1 (-1448) 0 (by decide +kernel) w7).mono ?_
  rintro e w8 ⟨rfl, b8⟩
  have T8 := Lib.hid (below_chain T7.out (Nat.le_refl _) b8)
  clear b8
  go_wp2_with fail
  refine (weighs11_lit 8 0 0 3 (by decide +kernel) w8).mono ?_
  rintro e w9 ⟨rfl, b9⟩
  have T9 := Lib.hid (below_chain T8.out (Nat.le_refl _) b9)
  clear b9
  have hs25 : w2.heap.size ≤ w5.heap.size := Nat.le_trans hs23 hs35
  have hs15 : w1.heap.size ≤ w5.heap.size := Nat.le_trans hs12 hs25
  have HA1 := Lib.hid (show Calls Try.prog 14 #[.slice a1 8 c1, .slice (some ⟨w9.heap.size, 0, none⟩) 8 8] (w9.alloc (.cells #[.int .i64 1448, .int .i64 1448, .int .i64 1448, .int .i64 1448, .int .i64 1448, .int .i64 1448, .int .i64 1448, .int .i64 1448] 3 (0, 0))) _ from
    sameInts_any ((HR15.out.below (T9.out.mono hs15)).below ((Below.refl _ w9).alloc (Nat.le_trans hs15 T9.out.size) _)).cellsAt (rowV_new w9 (intV [1448, 1448, 1448, 1448, 1448, 1448, 1448, 1448]) 3 8 rfl (by omega)).cellsAt (by decide) (by decide))
  go_wp2_with fail
  refine HA1.out.mono ?_
  rintro e w10 ⟨rfl, b10⟩
  have T10 := Lib.hid (T9.out.trans (((Below.refl _ w9).alloc T9.out.size _).trans (b10.mono (by have := T9.out.size; simp; omega))))
  clear b10 HA1
  have HA2 := Lib.hid (show Calls Try.prog 14 #[.slice a2 8 c2, .slice (some ⟨w10.heap.size, 0, none⟩) 8 8] (w10.alloc (.cells #[.int .i64 2009, .int .i64 1703, .int .i64 1138, .int .i64 400, .int .i64 (-400), .int .i64 (-1138), .int .i64 (-1703), .int .i64 (-2009)] 3 (0, 0))) _ from
    sameInts_any ((HR25.out.below (T10.out.mono hs25)).below ((Below.refl _ w10).alloc (Nat.le_trans hs25 T10.out.size) _)).cellsAt (rowV_new w10 (intV [2009, 1703, 1138, 400, -400, -1138, -1703, -2009]) 3 8 rfl (by omega)).cellsAt (by decide) (by decide))
  go_wp2_with fail
  refine HA2.out.mono ?_
  rintro e w11 ⟨rfl, b11⟩
  have T11 := Lib.hid (T10.out.trans (((Below.refl _ w10).alloc T10.out.size _).trans (b11.mono (by have := T10.out.size; simp; omega))))
  clear b11 HA2
  go_wp2_with fail
  refine (awake11_any w11).mono ?_
  rintro e w12 ⟨rfl, b12⟩
  have T12 := Lib.hid (below_chain T11.out (Nat.le_refl _) b12)
  clear b12
  go_wp2_with fail
  refine (flat11_lit 2032 254 flat_b w12).mono ?_
  rintro e w13 ⟨rfl, b13⟩
  have T13 := Lib.hid (below_chain T12.out (Nat.le_refl _) b13)
  clear b13
  go_wp2_with fail
  refine (flat11_lit (-8) (-1) flat_c w13).mono ?_
  rintro e w14 ⟨rfl, b14⟩
  have T14 := Lib.hid (below_chain T13.out (Nat.le_refl _) b14)
  clear b14
  go_wp2_with fail
  refine (flat11_lit 0 0 flat_d w14).mono ?_
  rintro e w15 ⟨rfl, b15⟩
  have T15 := Lib.hid (below_chain T14.out (Nat.le_refl _) b15)
  clear b15
  go_wp2_with fail
  go_ret
  exact ⟨rfl, B5.out.trans (T15.out.mono B5.out.size)⟩

end Go.Proofs.Ytpmdeoiajnfabaa
