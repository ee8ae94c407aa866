/- motion: the reference's (praxinoscoperef14). -/
import Derived.Test.YthoklmhaljjjdaaMPlain
import Derived.Test.YthoklmhaljjjdaaQTail
namespace Go.Proofs.Ythoklmhaljjjdaa
open Go.RowKit Go.Shelf Go.Sort
set_option linter.unusedVariables false

theorem rhalf14_any (n : Int) (h1 : -9223372036854775808 ≤ n) (h2 : n ≤ 9223372036854775807) (W : World) : Calls Try.prog 21 #[.int .i64 n] W fun e W' => e = .returned (.int .i64 (hv n)) ∧ W = W' := by
  have hq : Int.tdiv n 2 = hv n := hv_tdiv n
  have HW := Lib.hid hq
  clear hq
  go_enter Try.func21, Try.ntmps21
  go_wp2
  go_ret
  exact ⟨ret_int HW.out, rfl⟩
theorem rpart14_any (n : Int) (W : World) : Calls Try.prog 39 #[.int .i64 n] W fun e W' => e = .returned (.bool (prt n)) ∧ W = W' := by
  by_cases h1 : -15 ≤ n
  · by_cases h2 : n ≤ 15
    · rw [show prt n = true by unfold prt; simp; omega]
      go_enter Try.func39, Try.ntmps39
      go_wp2
      go_ret
      exact ⟨rfl, rfl⟩
    · rw [show prt n = false by unfold prt; simp; omega]
      go_enter Try.func39, Try.ntmps39
      go_wp2
      go_ret
      exact ⟨rfl, rfl⟩
  · rw [show prt n = false by unfold prt; simp; omega]
    go_enter Try.func39, Try.ntmps39
    go_wp2
    go_ret
    exact ⟨rfl, rfl⟩


/-- a spot's box -/
def SpotAt (W : World) (b : Nat) (f g a : Int) : Prop := ∃ t, W.heap[b]? = some (.cells #[.int .i64 f, .int .i64 g, .int .i64 a] t (0, 0))
theorem SpotAt.later {W W' : World} {b : Nat} {f g a : Int} (h : SpotAt W b f g a) (hb : Below W.heap.size W W') : SpotAt W' b f g a := by
  obtain ⟨t, h⟩ := h
  exact ⟨t, (hb.block _ (Array.getElem?_eq_some_iff.1 h).1).trans h⟩
theorem SpotAt.cells {W : World} {b : Nat} {f g a : Int} (h : SpotAt W b f g a) : W.cell? ⟨b, 0, none⟩ = some (.int .i64 f) ∧ W.cell? ⟨b, 1, none⟩ = some (.int .i64 g) ∧ W.cell? ⟨b, 2, none⟩ = some (.int .i64 a) := by
  obtain ⟨t, h⟩ := h; simp [World.cell?, h]

set_option maxRecDepth 100000 in
set_option maxHeartbeats 2000000 in
theorem rfits14_any (f g a x y : Int) (W : World) (hg : -9223372036854775808 ≤ g ∧ g ≤ 9223372036854775807) (ha : -9223372036854775808 ≤ a ∧ a ≤ 9223372036854775807) :
    Calls Try.prog 16 #[.agg #[.int .i64 f, .int .i64 g, .int .i64 a], .int .i64 x, .int .i64 y] W fun e W' => e = .returned (.int .i64 (fE f g a x y)) ∧ Below W.heap.size W W' := by
  obtain ⟨W1, hW1⟩ : ∃ W1, W.alloc (.cells #[.int .i64 f, .int .i64 g, .int .i64 a] 23 (0, 0)) = W1 := ⟨_, rfl⟩
  have hb1 : Below W.heap.size W W1 := by rw [← hW1]; exact (Below.refl _ W).alloc (Nat.le_refl _) _
  have B1 := Lib.hid hb1
  have hz1 : W1.heap.size = W.heap.size + 1 := by rw [← hW1]; simp
  have hbx : SpotAt W1 W.heap.size f g a := ⟨_, by rw [← hW1]; exact World.alloc_heap_new W _⟩
  obtain ⟨c0, c1, c2⟩ := hbx.cells
  have HC := Lib.hid (rcorner13_any f g a W1 hg ha)
  have HX := Lib.hid (rpart14_any x)
  have HY := Lib.hid (rpart14_any y)
  have HS := Lib.hid (rsize13_any f)
  have HBx := Lib.hid hbx
  clear hg ha hb1 hbx
  by_cases hc : cE f g a = 0
  · obtain ⟨x0, x1, y0, y1⟩ := cXY_in f g a
    have hf := cE_F hc
    have hw : 0 ≤ sW f ∧ sW f ≤ 352 ∧ 0 ≤ sH f ∧ sH f ≤ 288 := by rcases hf with rfl | rfl <;> decide
    rw [hc] at HC
    have e0 : fE f g a x y = if prt x = true ∧ prt y = true then (if inB f g a x y = true then 0 else 12) else 3 := by unfold fE; rw [if_pos hc]
    rw [e0]
    clear e0 hc hf
    unfold inB
    generalize cX f g a = X at *
    generalize cY f g a = Y at *
    generalize sW f = sw at *
    generalize sH f = sh at *
    generalize sN f = sn at *
    generalize sE f = se at *
    by_cases hpx : prt x = true
    · have hx2 : -15 ≤ x ∧ x ≤ 15 := by unfold prt at hpx; simpa using hpx
      rw [hpx] at HX
      by_cases hpy : prt y = true
      · have hy2 : -15 ≤ y ∧ y ≤ 15 := by unfold prt at hpy; simpa using hpy
        rw [hpy] at HY
        rw [if_pos ⟨hpx, hpy⟩]
        clear hpx hpy
        obtain ⟨R, hR⟩ : ∃ R : Int, R = if (decide (0 ≤ X + x) && decide (X + x + 16 ≤ sw) && decide (0 ≤ Y + y) && decide (Y + y + 16 ≤ sh)) = true then 0 else 12 := ⟨_, rfl⟩
        rw [← hR]
        by_cases q1 : X + x < 0
        · have hR1 : R = 12 := by rw [hR, if_neg (by simp; omega)]
          subst hR1
          clear hR
          go_enter Try.func16, Try.ntmps16
          go_wp2_with fail
          refine HC.out.mono ?_
          rintro e W2 ⟨rfl, hb⟩
          have B2 := Lib.hid (below_chain B1.out (Nat.le_refl _) hb)
          obtain ⟨d0, d1, d2⟩ := (HBx.out.later hb).cells
          clear hb c0 c1 c2
          go_wp2_with fail
          refine (HX.out _).mono ?_
          rintro e w' ⟨rfl, rfl⟩
          go_wp2_with fail
          refine (HY.out _).mono ?_
          rintro e w' ⟨rfl, rfl⟩
          go_wp2_with (go_at_call 35; refine (HS.out _).mono ?_; rintro e w' ⟨rfl, rfl⟩)
          go_ret
          exact ⟨rfl, B2.out⟩
        · by_cases q2 : sw < X + x + 16
          · have hR1 : R = 12 := by rw [hR, if_neg (by simp; omega)]
            subst hR1
            clear hR
            go_enter Try.func16, Try.ntmps16
            go_wp2_with fail
            refine HC.out.mono ?_
            rintro e W2 ⟨rfl, hb⟩
            have B2 := Lib.hid (below_chain B1.out (Nat.le_refl _) hb)
            obtain ⟨d0, d1, d2⟩ := (HBx.out.later hb).cells
            clear hb c0 c1 c2
            go_wp2_with fail
            refine (HX.out _).mono ?_
            rintro e w' ⟨rfl, rfl⟩
            go_wp2_with fail
            refine (HY.out _).mono ?_
            rintro e w' ⟨rfl, rfl⟩
            go_wp2_with (go_at_call 35; refine (HS.out _).mono ?_; rintro e w' ⟨rfl, rfl⟩)
            go_ret
            exact ⟨rfl, B2.out⟩
          · by_cases q3 : Y + y < 0
            · have hR1 : R = 12 := by rw [hR, if_neg (by simp; omega)]
              subst hR1
              clear hR
              go_enter Try.func16, Try.ntmps16
              go_wp2_with fail
              refine HC.out.mono ?_
              rintro e W2 ⟨rfl, hb⟩
              have B2 := Lib.hid (below_chain B1.out (Nat.le_refl _) hb)
              obtain ⟨d0, d1, d2⟩ := (HBx.out.later hb).cells
              clear hb c0 c1 c2
              go_wp2_with fail
              refine (HX.out _).mono ?_
              rintro e w' ⟨rfl, rfl⟩
              go_wp2_with fail
              refine (HY.out _).mono ?_
              rintro e w' ⟨rfl, rfl⟩
              go_wp2_with (go_at_call 35; refine (HS.out _).mono ?_; rintro e w' ⟨rfl, rfl⟩)
              go_ret
              exact ⟨rfl, B2.out⟩
            · by_cases q4 : sh < Y + y + 16
              · have hR1 : R = 12 := by rw [hR, if_neg (by simp; omega)]
                subst hR1
                clear hR
                go_enter Try.func16, Try.ntmps16
                go_wp2_with fail
                refine HC.out.mono ?_
                rintro e W2 ⟨rfl, hb⟩
                have B2 := Lib.hid (below_chain B1.out (Nat.le_refl _) hb)
                obtain ⟨d0, d1, d2⟩ := (HBx.out.later hb).cells
                clear hb c0 c1 c2
                go_wp2_with fail
                refine (HX.out _).mono ?_
                rintro e w' ⟨rfl, rfl⟩
                go_wp2_with fail
                refine (HY.out _).mono ?_
                rintro e w' ⟨rfl, rfl⟩
                go_wp2_with (go_at_call 35; refine (HS.out _).mono ?_; rintro e w' ⟨rfl, rfl⟩)
                go_ret
                exact ⟨rfl, B2.out⟩
              · have hR1 : R = 0 := by rw [hR, if_pos (by simp; omega)]
                subst hR1
                clear hR
                go_enter Try.func16, Try.ntmps16
                go_wp2_with fail
                refine HC.out.mono ?_
                rintro e W2 ⟨rfl, hb⟩
                have B2 := Lib.hid (below_chain B1.out (Nat.le_refl _) hb)
                obtain ⟨d0, d1, d2⟩ := (HBx.out.later hb).cells
                clear hb c0 c1 c2
                go_wp2_with fail
                refine (HX.out _).mono ?_
                rintro e w' ⟨rfl, rfl⟩
                go_wp2_with fail
                refine (HY.out _).mono ?_
                rintro e w' ⟨rfl, rfl⟩
                go_wp2_with (go_at_call 35; refine (HS.out _).mono ?_; rintro e w' ⟨rfl, rfl⟩)
                go_ret
                exact ⟨rfl, B2.out⟩
      · have hpy2 : prt y = false := by simpa using hpy
        rw [hpy2] at HY
        rw [if_neg (fun h => hpy h.2)]
        clear hpx hpy hpy2 hx2
        go_enter Try.func16, Try.ntmps16
        go_wp2_with fail
        refine HC.out.mono ?_
        rintro e W2 ⟨rfl, hb⟩
        have B2 := Lib.hid (below_chain B1.out (Nat.le_refl _) hb)
        obtain ⟨d0, d1, d2⟩ := (HBx.out.later hb).cells
        clear hb c0 c1 c2
        go_wp2_with fail
        refine (HX.out _).mono ?_
        rintro e w' ⟨rfl, rfl⟩
        go_wp2_with fail
        refine (HY.out _).mono ?_
        rintro e w' ⟨rfl, rfl⟩
        go_wp2
        go_ret
        exact ⟨rfl, B2.out⟩
    · have hpx2 : prt x = false := by simpa using hpx
      rw [hpx2] at HX
      rw [if_neg (fun h => hpx h.1)]
      clear hpx hpx2
      go_enter Try.func16, Try.ntmps16
      go_wp2_with fail
      refine HC.out.mono ?_
      rintro e W2 ⟨rfl, hb⟩
      have B2 := Lib.hid (below_chain B1.out (Nat.le_refl _) hb)
      obtain ⟨d0, d1, d2⟩ := (HBx.out.later hb).cells
      clear hb c0 c1 c2
      go_wp2_with fail
      refine (HX.out _).mono ?_
      rintro e w' ⟨rfl, rfl⟩
      go_wp2
      go_ret
      exact ⟨rfl, B2.out⟩
  · have t0 : (cE f g a != 0) = true := by simpa using hc
    have e0 : fE f g a x y = cE f g a := by unfold fE; rw [if_neg hc]
    rw [e0]
    clear e0 hc
    generalize cX f g a = X at *
    generalize cY f g a = Y at *
    generalize cE f g a = ce at *
    go_enter Try.func16, Try.ntmps16
    go_wp2_with fail
    refine HC.out.mono ?_
    rintro e W2 ⟨rfl, hb⟩
    have B2 := Lib.hid (below_chain B1.out (Nat.le_refl _) hb)
    clear hb c0 c1 c2
    go_wp2
    go_ret
    exact ⟨rfl, B2.out⟩

end Go.Proofs.Ythoklmhaljjjdaa
