/- motion: small functions; whether a square lies within; Half and Fits. -/
import Derived.Test.YtenplmmongphoaaMIter
import Derived.Test.YtenplmmongphoaaMLaw
namespace Go.Proofs.Ytenplmmongphoaa
open Go.RowKit Go.Shelf Go.Sort
set_option linter.unusedVariables false
attribute [local go_sem] Oper.semAt_some

theorem mhalf_any (n : Int) (W : World) (hn : I64 n) : Calls Try.prog 57 #[.int .i64 n] W fun e W' => e = .returned (.int .i64 (hv n)) ∧ W = W' := by
  have h1 := hn.1
  have h2 := hn.2
  have hT := hv_tdiv n
  have hb : -9223372036854775808 ≤ hv n ∧ hv n ≤ 9223372036854775807 := by unfold hv; split <;> omega
  go_enter Try.func57, Try.ntmps57
  go_wp2
  go_ret
  exact ⟨rfl, rfl⟩
theorem mpart_any (n : Int) (W : World) : Calls Try.prog 72 #[.int .i64 n] W fun e W' => e = .returned (.bool (prt n)) ∧ W = W' := by
  by_cases h1 : -15 ≤ n
  · by_cases h2 : n ≤ 15
    · rw [show prt n = true by unfold prt; simp; omega]
      go_enter Try.func72, Try.ntmps72
      go_wp2
      go_ret
      exact ⟨rfl, rfl⟩
    · rw [show prt n = false by unfold prt; simp; omega]
      go_enter Try.func72, Try.ntmps72
      go_wp2
      go_ret
      exact ⟨rfl, rfl⟩
  · rw [show prt n = false by unfold prt; simp; omega]
    go_enter Try.func72, Try.ntmps72
    go_wp2
    go_ret
    exact ⟨rfl, rfl⟩
theorem mplaneOf_any (b : Int) (hb1 : 1 ≤ b) (hb : b ≤ 6) (W : World) : Calls Try.prog 55 #[.int .i64 b] W fun e W' => e = .returned (.int .i64 (max 0 (b - 4))) ∧ W = W' := by
  go_enter Try.func55, Try.ntmps55
  go_wp2
  go_ret
  exact ⟨rfl, rfl⟩
theorem mmany_any (w h : Int) (h1 : 0 ≤ w) (h2 : w ≤ 352) (h3 : 0 ≤ h) (h4 : h ≤ 288) (W : World) : Calls Try.prog 74 #[.agg #[.int .i64 w, .int .i64 h]] W fun e W' => e = .returned (.int .i64 (w * h)) ∧ Below W.heap.size W W' := by
  have hm : w * h ≤ 352 * 288 := Int.mul_le_mul h2 h4 h3 (by omega)
  have hm0 : 0 ≤ w * h := Int.mul_nonneg h1 h3
  go_enter Try.func74, Try.ntmps74
  go_wp2
  go_ret
  exact ⟨rfl, (Below.refl _ W).alloc (Nat.le_refl _) _⟩

theorem mpl_all {w h x y : Int} {N : Nat} (H : MPl w h x y 16 N) : decide (((N : Nat) : Int) = 256) = decide (0 ≤ x ∧ x + 16 ≤ w ∧ 0 ≤ y ∧ y + 16 ≤ h) := by
  obtain ⟨h1, h2, h3⟩ := H
  rw [← Bool.coe_iff_coe, decide_eq_true_iff, decide_eq_true_iff]
  constructor
  · intro e
    have a := h2 0 (by omega)
    have b := h2 255 (by omega)
    unfold inP at a b
    simp at a b
    omega
  · intro e
    false_or_by_contra
    refine h3 (by omega) ?_
    have := Nat.mod_lt N (show 0 < 16 by omega)
    have : N / 16 < 16 := by omega
    unfold inP
    omega

set_option maxRecDepth 100000 in
set_option maxHeartbeats 4000000 in
theorem mholds_any (w h x y : Int) (hx0 : -1000 ≤ x) (hx : x ≤ 1000) (hy0 : -1000 ≤ y) (hy : y ≤ 1000) (W : World) :
    Calls Try.prog 73 #[.agg #[.int .i64 w, .int .i64 h], .agg #[.int .i64 x, .int .i64 y, .int .i64 16]] W fun e W' => e = .returned (.bool (decide (0 ≤ x ∧ x + 16 ≤ w ∧ 0 ≤ y ∧ y + 16 ≤ h))) ∧ Below W.heap.size W W' := by
  obtain ⟨N, H⟩ := mpl_ex w h x y 16
  rw [← mpl_all H]
  have hN := H.1
  have HP := Lib.hid (fun W => mplaces_in Fence.wide (40 - 1) trivial rfl w h x y 16 W)
  have HD := Lib.hid (fun ba bq m w0 => mplaces_D H hx0 hx hy0 hy (by omega) (by omega) (40 - 1) (by omega) ba bq m w0)
  clear H
  refine (callsIn_wide (n := 40)).1 ?_
  refine callsIn_of_wp_marks Try.func73 rfl trivial ?_ rfl
  simp only [Try.ntmps73, List.size_toArray, List.length_cons, List.length_nil, Nat.reduceAdd, Nat.reduceSub, Array.replicate_succ, Array.replicate_zero, List.push_toArray, List.append_toArray, List.nil_append, List.cons_append]
  gi_wp2_with (refine ⟨trivial, ?_⟩; gi_at_call 75; refine (HP.out _).mono ?_; rintro e w' ⟨rfl, rfl⟩)
  obtain ⟨w1, hw⟩ : ∃ w1, (((((W.alloc (Obj.cells #[Value.int IntKind.i64 w, Value.int IntKind.i64 h] 80)).alloc (Obj.cells #[Value.int IntKind.i64 x, Value.int IntKind.i64 y, Value.int IntKind.i64 16] 89)).alloc (Obj.cells #[Value.int IntKind.i64 0] 3)).alloc (Obj.cells #[Value.int IntKind.i64 w, Value.int IntKind.i64 h] 80)).alloc (Obj.cells #[Value.int IntKind.i64 x, Value.int IntKind.i64 y, Value.int IntKind.i64 16] 89)) = w1 := ⟨_, rfl⟩
  rw [hw]
  have hz1 : w1.heap.size = W.heap.size + 5 := by rw [← hw]; simp
  have hb1 : Below W.heap.size W w1 := by rw [← hw]; exact (((((Below.refl _ W).alloc (Nat.le_refl _) _).alloc (by simp) _).alloc (by simp; omega) _).alloc (by simp; omega) _).alloc (by simp; omega) _
  have q1 : Box3 w1 (W.heap.size + 1) (.int .i64 x) (.int .i64 y) (.int .i64 16) := by rw [← hw]; exact ⟨_, heap_keep (heap_keep (heap_keep (heap_new _ (by simp) _) _) _) _⟩
  have q2 : Box1 w1 (W.heap.size + 1 + 1) (.int .i64 0) := by rw [← hw]; exact ⟨_, heap_keep (heap_keep (heap_new _ (by simp) _) _) _⟩
  have q3 : ∃ t, w1.heap[W.heap.size + 1 + 1 + 1]? = some (.cells #[.int .i64 w, .int .i64 h] t (0, 0)) := by rw [← hw]; exact ⟨_, heap_keep (heap_new _ (by simp) _) _⟩
  have q4 : ∃ t, w1.heap[W.heap.size + 1 + 1 + 1 + 1]? = some (.cells #[.int .i64 x, .int .i64 y, .int .i64 ((16 : Nat) : Int)] t (0, 0)) := by rw [← hw]; exact ⟨_, heap_new _ (by simp) _⟩
  clear hw HP
  refine wpIn_range_D rfl (by omega) (gf := 84) (lb := #[.pointer (some ⟨W.heap.size + 1 + 1 + 1 + 1, 0, none⟩), .pointer (some ⟨W.heap.size + 1 + 1 + 1, 0, none⟩)]) rfl trivial (enters_of Try.func84 (by kernel_rfl) rfl)
    (HD.out (W.heap.size + 1 + 1 + 1) (W.heap.size + 1 + 1 + 1 + 1) (w1.heap.size + 2) w1 q3 q4) (by omega) (by omega) KpM.trans
    (fun W' o' h => ⟨by simp [World.putObj], fun k hk => World.putObj_heap_other (by omega)⟩) (Below.refl _ _) (fun _ => rfl)
    (fun k Wx => Box3 Wx (W.heap.size + 1) (.int .i64 x) (.int .i64 y) (.int .i64 16) ∧ Box1 Wx (W.heap.size + 1 + 1) (.int .i64 (k : Int)) ∧ Below W.heap.size W Wx)
    ?hI ?h0 ?hround ?hdone
  case hI =>
    rintro k A B ⟨h1, h2, h3⟩ hb
    have l1 := h1.lt
    have l2 := h2.lt
    exact ⟨h1.at (hb.block _ l1 (by omega)), h2.at (hb.block _ l2 (by omega)), h3.trans (hb.below h3.size (fun j hj e => by omega))⟩
  case h0 =>
    intro W' hb
    exact ⟨q1.at (hb.block _ q1.lt (fun e => e)), q2.at (hb.block _ q2.lt (fun e => e)), hb1.trans (hb.below (by omega) (fun _ _ e => e))⟩
  case hround =>
    rintro k Wx ⟨h1, h2, h3⟩ hxz hk
    gi_wp2
    refine ⟨Keep2.refl _ _, KpM.refl _ _ _ _, fun W2 hb2 hz2 hot => ?_⟩
    replace h1 := h1.at (hot _ (by omega))
    replace h2 := h2.at (hot _ (by omega))
    have h3' : Below W.heap.size W W2 := h3.trans (hb2.below h3.size (fun j hj e => by omega))
    obtain ⟨c2, f2⟩ := h2.cell
    have H1 := Lib.hid h1
    have H2 := Lib.hid h2
    have H3 := Lib.hid h3'
    clear h1 h2 h3 h3' hb2 hot q1 q2 q3 q4 hb1
    gi_wp2
    refine ⟨⟨by simp, heap_setCell_other _ _ _ _ (by simp; omega), heap_setCell_other _ _ _ _ (by simp; omega)⟩, ⟨by simp, fun j hj => heap_setCell_other _ _ _ _ (by simp; omega)⟩, H1.out.other _ _ (by simp), ?_, H3.out.setCell (by simp; omega) _⟩
    have := H2.out.set (.int .i64 ((k : Int) + 1))
    simpa using this
  case hdone =>
    rintro D W' rfl ⟨h1, h2, h3⟩ hD
    obtain ⟨c0, c1, c2⟩ := h1.cell
    obtain ⟨d0, -⟩ := h2.cell
    gi_wp2
    refine leaves_one hD (fun W3 hb => ⟨_, by simp [results, Try.f73, go_sem]; rfl, ?_, h3.trans (hb.below h3.size (fun j hj e => by omega))⟩)
    rw [show ((N : Int) == 256) = decide ((N : Int) = 256) by rw [Bool.eq_iff_iff]; simp]

set_option maxRecDepth 100000 in
set_option maxHeartbeats 2000000 in
theorem mfits_any (f g a x y : Int) (W : World) (hf : I64 f) (hg : I64 g) (ha : I64 a) (hx : I64 x) (hy : I64 y) :
    Calls Try.prog 53 #[spotV f g a, .int .i64 x, .int .i64 y] W fun e W' => e = .returned (.int .i64 (fE f g a x y)) ∧ Below W.heap.size W W' := by
  obtain ⟨W1, hW1⟩ : ∃ W1, W.alloc (.cells #[.int .i64 f, .int .i64 g, .int .i64 a] 37 (0, 0)) = W1 := ⟨_, rfl⟩
  have hb1 : Below W.heap.size W W1 := by rw [← hW1]; exact (Below.refl _ W).alloc (Nat.le_refl _) _
  have B1 := Lib.hid hb1
  have hz1 : W1.heap.size = W.heap.size + 1 := by rw [← hW1]; simp
  have hbx : SpotAt W1 W.heap.size f g a := ⟨_, by rw [← hW1]; exact World.alloc_heap_new W _⟩
  obtain ⟨c0, c1, c2⟩ := hbx.cells
  have HC := Lib.hid (corner13_ans f g a W1)
  have HX := Lib.hid (fun W => mpart_any x W)
  have HY := Lib.hid (fun W => mpart_any y W)
  have HS := Lib.hid (size13_ans f)
  have HBx := Lib.hid hbx
  clear hg ha hb1 hbx hf
  by_cases hc : cE f g a = 0
  · obtain ⟨x0, x1, y0, y1⟩ := cXY_in f g a
    have hf := cE_F hc
    have hw : 0 ≤ sW f ∧ sW f ≤ 352 ∧ 0 ≤ sH f ∧ sH f ≤ 288 := by rcases hf with rfl | rfl <;> decide
    rw [hc] at HC
    have e0 : fE f g a x y = if prt x = true ∧ prt y = true then (if inB f g a x y = true then 0 else 12) else 3 := by unfold fE; rw [if_pos hc]
    rw [e0]
    have hib : inB f g a x y = decide (0 ≤ cX f g a + x ∧ cX f g a + x + 16 ≤ sW f ∧ 0 ≤ cY f g a + y ∧ cY f g a + y + 16 ≤ sH f) := by
      unfold inB
      rw [Bool.eq_iff_iff]
      simp [and_assoc]
    rw [hib]
    clear e0 hc hf hib
    generalize cX f g a = X at *
    generalize cY f g a = Y at *
    generalize sW f = sw at *
    generalize sH f = sh at *
    generalize sN f = sn at *
    generalize sE f = se at *
    by_cases hpx : prt x = true
    · by_cases hpy : prt y = true
      · rw [hpx] at HX
        rw [hpy] at HY
        rw [if_pos ⟨hpx, hpy⟩]
        unfold prt at hpx hpy
        simp at hpx hpy
        have HH := Lib.hid (fun W => mholds_any sw sh (X + x) (Y + y) (by omega) (by omega) (by omega) (by omega) W)
        generalize decide (0 ≤ X + x ∧ X + x + 16 ≤ sw ∧ 0 ≤ Y + y ∧ Y + y + 16 ≤ sh) = ib at *
        go_enter Try.func53, Try.ntmps53
        go_wp2_with fail
        refine HC.out.mono ?_
        rintro e W2 ⟨rfl, hb⟩
        have B2 := Lib.hid (below_chain B1.out (Nat.le_refl _) hb)
        have HBx := Lib.hid (HBx.out.later hb)
        obtain ⟨d0, d1, d2⟩ := HBx.out.cells
        clear hb c0 c1 c2
        go_wp2_with (first | (go_at_call 72; first | (refine (HX.out _).mono ?_; rintro e w' ⟨rfl, rfl⟩) | (refine (HY.out _).mono ?_; rintro e w' ⟨rfl, rfl⟩)) | (go_at_call 48; refine (HS.out _).mono ?_; rintro e w' ⟨rfl, rfl⟩))
        have B3 := Lib.hid (B2.out.alloc B2.out.size (Obj.cells #[Value.int IntKind.i64 sw, Value.int IntKind.i64 sh] 80))
        refine (HH.out _).mono ?_
        rintro e W4 ⟨rfl, hb⟩
        have B4 := Lib.hid (below_chain B3.out (Nat.le_refl _) hb)
        clear hb
        cases ib with
        | true =>
          go_wp2
          go_ret
          exact ⟨rfl, B4.out⟩
        | false =>
          go_wp2
          go_ret
          exact ⟨rfl, B4.out⟩
      · rw [if_neg (by simp [hpy])]
        rw [hpx] at HX
        have hpy' : prt y = false := by simpa using hpy
        rw [hpy'] at HY
        clear hpx hpy hpy'
        go_enter Try.func53, Try.ntmps53
        go_wp2_with fail
        refine HC.out.mono ?_
        rintro e W2 ⟨rfl, hb⟩
        have B2 := Lib.hid (below_chain B1.out (Nat.le_refl _) hb)
        have HBx := Lib.hid (HBx.out.later hb)
        obtain ⟨d0, d1, d2⟩ := HBx.out.cells
        clear hb c0 c1 c2
        go_wp2_with (first | (go_at_call 72; first | (refine (HX.out _).mono ?_; rintro e w' ⟨rfl, rfl⟩) | (refine (HY.out _).mono ?_; rintro e w' ⟨rfl, rfl⟩)) | (go_at_call 48; refine (HS.out _).mono ?_; rintro e w' ⟨rfl, rfl⟩))
        go_ret
        exact ⟨rfl, B2.out⟩
    · rw [if_neg (by simp [hpx])]
      have hpx' : prt x = false := by simpa using hpx
      rw [hpx'] at HX
      clear hpx hpx'
      go_enter Try.func53, Try.ntmps53
      go_wp2_with fail
      refine HC.out.mono ?_
      rintro e W2 ⟨rfl, hb⟩
      have B2 := Lib.hid (below_chain B1.out (Nat.le_refl _) hb)
      have HBx := Lib.hid (HBx.out.later hb)
      obtain ⟨d0, d1, d2⟩ := HBx.out.cells
      clear hb c0 c1 c2
      go_wp2_with (first | (go_at_call 72; first | (refine (HX.out _).mono ?_; rintro e w' ⟨rfl, rfl⟩) | (refine (HY.out _).mono ?_; rintro e w' ⟨rfl, rfl⟩)) | (go_at_call 48; refine (HS.out _).mono ?_; rintro e w' ⟨rfl, rfl⟩))
      go_ret
      exact ⟨rfl, B2.out⟩
  · have e0 : fE f g a x y = cE f g a := by unfold fE; rw [if_neg hc]
    rw [e0]
    have t1 : (cE f g a != 0) = true := by simpa using hc
    clear e0 hc
    generalize cE f g a = ce at *
    go_enter Try.func53, Try.ntmps53
    go_wp2_with fail
    refine HC.out.mono ?_
    rintro e W2 ⟨rfl, hb⟩
    have B2 := Lib.hid (below_chain B1.out (Nat.le_refl _) hb)
    clear hb c0 c1 c2
    go_wp2
    go_ret
    exact ⟨rfl, B2.out⟩

end Go.Proofs.Ytenplmmongphoaa
