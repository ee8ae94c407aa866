/- The walk of BlockAgain (praxinoscopelaw12). -/
import Derived.Test.YtbcfiafgolcbpaaGreatDoorYBack
namespace Go.Proofs.YtbcfiafgolcbpaaGreatDoor
open Go.RowKit Go.Shelf
set_option linter.unusedVariables false

theorem pairsY_bad (zs : List UInt8) (A : Nat) (dc : Int) : ∀ (f bits : Nat) (first : Bool) (place : Nat) (ps : List (Int × Int)), (pairsY zs A dc f bits first place ps).err ≠ 0 → pairsY zs A dc f bits first place ps = badY (pairsY zs A dc f bits first place ps).err
  | 0, _, _, _, _, _ => rfl
  | f + 1, bits, first, place, ps, h => by
    unfold pairsY at h ⊢
    split at h <;> rename_i h1
    · rw [if_pos h1]; rfl
    · rw [if_neg h1]
      split at h <;> rename_i h2
      · exact absurd rfl h
      · rw [if_neg h2]
        split at h <;> rename_i h3
        · rw [if_pos h3]; rfl
        · rw [if_neg h3]
          exact pairsY_bad zs A dc f _ _ _ _ h
/-- what is told with an error is nothing -/
theorem gotY_bad {zs : List UInt8} {x : Int} {intra : Bool} (h : (gotY zs x intra).err ≠ 0) : gotY zs x intra = badY (gotY zs x intra).err := by
  unfold gotY at h ⊢
  split at h <;> rename_i h1
  · rw [if_pos h1]; rfl
  · rw [if_neg h1]
    cases intra with
    | false => exact pairsY_bad _ _ _ _ _ _ _ _ h
    | true =>
      simp only [if_true] at h ⊢
      split at h <;> rename_i h2
      · rw [if_pos h2]; rfl
      · rw [if_neg h2]
        split at h <;> rename_i h3
        · rw [if_pos h3]; rfl
        · rw [if_neg h3]
          exact pairsY_bad _ _ _ _ _ _ _ _ h

set_option maxRecDepth 100000 in
set_option maxHeartbeats 4000000 in
theorem blockAgain_walk (I : BlockI) {w : World} (hT : Lay8 w) {sa : Option Addr} {sl sc : Nat} {zs : List UInt8} (hR : Row8 w.heap.size w sa sl sc zs) (intra : Bool) :
    Calls Tryz.prog 8 #[.slice sa sl sc, .bool intra] w fun e w' => e = .returned (.bool true) ∧ Below w.heap.size w w' := by
  have HK := Lib.hid (awake12_any I w hT)
  have HT := Lib.hid (fun w' (hb : Below w.heap.size w w') => hT.below hb)
  obtain rfl : zs.length = sl := hR.1
  by_cases hlen : 200 < zs.length
  · have q1 : decide ((200 : Int) < (zs.length : Int)) = true := by simp; omega
    go_enter Tryz.func8, Tryz.ntmps8
    go_wp2_with fail
    refine HK.out.mono ?_
    rintro e w1 ⟨rfl, b1⟩
    have B1 := Lib.hid b1
    go_wp2_with fail
    go_ret
    exact ⟨rfl, B1.out⟩
  have q1 : decide ((200 : Int) < (zs.length : Int)) = false := by simp; omega
  have HB := Lib.hid (hR.whole (Nat.le_refl _) (by omega))
  have HBB := Lib.hid (fun w' (hb : Below w.heap.size w w') => HB.out.below hb)
  have HG := Lib.hid (fun w1 hb => I.get (HBB.out w1 hb) hb.size (by omega) (HT.out w1 hb) 0 intra (by omega))
  by_cases he : (gotY zs 0 intra).err = 0
  · obtain ⟨g1, g2, g3⟩ := got_mayY (A := 0) he
    rw [show ((0 : Nat) : Int) = 0 from rfl] at g1 g2 g3
    obtain ⟨c1, c2, c3⟩ := chkY_ok g1
    have hlp := okPs_len _ _ c3
    rw [he] at HG
    generalize (gotY zs 0 intra).dc = dc at *
    generalize (gotY zs 0 intra).ps = ps at *
    generalize (gotY zs 0 intra).many = many at *
    have hsz := putTY_size dc ps intra
    have HAB := Lib.hid (allB_bits (putTY_bits dc ps intra))
    obtain ⟨tn, htn, ht2, ht3⟩ : ∃ tn : Nat, (putTY dc ps intra).size = tn ∧ 2 ≤ tn ∧ tn ≤ 1290 := ⟨_, rfl, by omega, by omega⟩
    have HGP := Lib.hid (fun zs hs => @got_putY zs 0 dc ps intra g1 hs)
    have HP := Lib.hid (fun n₀ w1 av len cap (hR : RowP n₀ w1 av len cap ps) hn hlen hT => I.put (w := w1) hR hn hlen hT dc intra)
    have HC := Lib.hid (fun n₀ w1 av len cap (hR : RowP n₀ w1 av len cap ps) hn hlen hT => I.check (w := w1) hR hn hlen hT dc intra)
    rw [if_pos g1, g1] at HP
    rw [g1] at HC
    rw [htn] at g2 HGP
    clear hsz c1 c2 c3 g1 he
    generalize putTY dc ps intra = T at *
    go_enter Tryz.func8, Tryz.ntmps8
    go_wp2_with fail
    refine HK.out.mono ?_
    rintro e w1 ⟨rfl, b1⟩
    have B1 := Lib.hid b1
    clear b1
    go_wp2_with fail
    refine (HG.out w1 B1.out).mono ?_
    rintro e w2 ⟨v, rfl, ho, b2⟩
    obtain ⟨pl, hpl, hpl2⟩ : ∃ pl : Nat, ps.length = pl ∧ pl ≤ 64 := ⟨_, rfl, by omega⟩
    rw [hpl] at ho
    subst hpl
    obtain ⟨av, cv, rfl, hr⟩ := rowP_own ho
    have B2 := B1.out.trans (b2.mono B1.out.size)
    have hbA : Below w2.heap.size w2 (w2.alloc (.cells #[.int .i64 dc, .slice av ps.length cv] 27 (0, 0))) := (Below.refl _ w2).alloc (Nat.le_refl _) _
    have BA := Lib.hid (B2.trans (hbA.mono B2.size))
    obtain ⟨x0, x1⟩ := two_cells w2 (.int .i64 dc) (.slice av ps.length cv) 27
    have hsA : w2.heap.size < (w2.alloc (.cells #[.int .i64 dc, .slice av ps.length cv] 27 (0, 0))).heap.size := by simp
    have HRA := Lib.hid (hr.below hbA)
    clear ho b2 hr hbA B2
    go_wp2_with fail
    generalize w2.alloc (.cells #[.int .i64 dc, .slice av ps.length cv] 27 (0, 0)) = wA at *
    refine (HP.out _ wA _ _ _ HRA.out (by omega) (by omega) (HT.out _ BA.out)).mono ?_
    rintro e w3 ⟨rfl, b3⟩
    have y0 := (b3.cell (p := ⟨w2.heap.size, 0, none⟩) (by simp; omega)).trans x0
    have y1 := (b3.cell (p := ⟨w2.heap.size, 1, none⟩) (by simp; omega)).trans x1
    have hlt3 : w2.heap.size < w3.heap.size := by have := b3.size; omega
    have B3 := Lib.hid (BA.out.trans (b3.mono BA.out.size))
    have HR3 := Lib.hid (HRA.out.below (b3.mono (by omega)))
    have H0 : Hid (YS w3 w3.drew w2.heap.size dc (.slice av ps.length cv)) := ⟨below_undrew (Below.refl _ w3.drew), y0, y1⟩
    clear b3 x0 x1
    have HKeep : ∀ {wx wy : World}, YS w3 wx w2.heap.size dc (.slice av ps.length cv) → Below wx.heap.size wx wy → YS w3 wy w2.heap.size dc (.slice av ps.length cv) := fun {wx wy} h hb => by
      have hsz := h.1.size
      exact ⟨h.1.trans (hb.mono hsz), (hb.cell (p := ⟨w2.heap.size, 0, none⟩) (by simp; omega)).trans h.2.1, (hb.cell (p := ⟨w2.heap.size, 1, none⟩) (by simp; omega)).trans h.2.2⟩
    have CB : Hid (∀ W, YS w3 W w2.heap.size dc (.slice av ps.length cv) → Calls Tryz.prog 32 #[.string T] W fun e W' => e = .returned (.bool true) ∧ YS w3 W' w2.heap.size dc (.slice av ps.length cv)) := fun W hW => by
      refine (bits12_any T HAB.out tn htn (by omega) W).mono ?_
      rintro e W' ⟨rfl, rfl⟩
      exact ⟨rfl, hW⟩
    have CC : Hid (∀ W, YS w3 W w2.heap.size dc (.slice av ps.length cv) → Calls Tryz.prog 23 #[blkV dc (.slice av ps.length cv), .bool intra] W fun e W' => e = .returned (.int .i64 0) ∧ YS w3 W' w2.heap.size dc (.slice av ps.length cv)) := fun W hW => by
      have hbW := B3.out.trans (hW.1.mono B3.out.size)
      have hsW := hW.1.size
      refine (HC.out _ W _ _ _ (HR3.out.below (hW.1.mono (by omega))) (by omega) (by omega) (HT.out W hbW)).mono ?_
      rintro e W' ⟨rfl, hb⟩
      exact ⟨rfl, HKeep hW hb⟩
    have CY : Hid (∀ W, YS w3 W w2.heap.size dc (.slice av ps.length cv) → Calls Tryz.prog 33 #[.string T, .slice none 0 0] W fun e W' => ∃ v, e = .returned v ∧ YS w3 W' w2.heap.size dc (.slice av ps.length cv) ∧ Hid (∀ n : Int, n = (tn : Int) → Calls Tryz.prog 30 #[.bool intra, blkV dc (.slice av ps.length cv), .int .i64 n, .int .i64 0, v] W' fun e W'' => e = .returned (.bool true) ∧ YS w3 W'' w2.heap.size dc (.slice av ps.length cv))) := fun W hW => by
      have hbW := B3.out.trans (hW.1.mono B3.out.size)
      refine (bytes12_any (n₀ := 0) (w := W) (a := none) (len := 0) (cap := 0) (ys := []) ⟨rfl, Nat.le_refl _, by omega, .inl rfl⟩ (Nat.zero_le _) (by omega) T HAB.out tn htn (by omega)).mono ?_
      rintro e W' ⟨zs', v, rfl, hzl, ho, hd, hb⟩
      have hS' := HKeep hW hb
      have hbW' := B3.out.trans (hS'.1.mono B3.out.size)
      have hsW := hS'.1.size
      refine ⟨v, rfl, hS', ?_⟩
      rintro n rfl
      refine (gets12_any I (byt_own ho (by omega) (Nat.le_refl _)) (Nat.le_refl _) (by omega) (HT.out _ hbW') intra (HR3.out.below (hS'.1.mono (by omega))).cellsP (by omega) dc tn 0 (HGP.out zs' (stands_of (by omega) hd))).mono ?_
      rintro e W'' ⟨rfl, hb2⟩
      exact ⟨rfl, HKeep hS' hb2⟩
    have v1 : decide ((tn : Int) ≤ many) = true := by simp; omega
    have v2 : decide (many ≤ IntKind.i64.wrap (8 * (zs.length : Int))) = true := by
      rw [IntWalk.i64_in _ (by omega)]; simp; omega
    clear HKeep HGP
    go_wp2_with fail
    go_region_held3 (fun w' => YS w3 w' w2.heap.size dc (.slice av ps.length cv))
      (first | exact H0.out | assumption | exact hSl)
      (first
       | (go_at_call 32; refine (CB.out _ (by assumption)).mono ?_; rintro e wl ⟨rfl, hSl⟩)
       | (go_at_call 23; refine (CC.out _ (by assumption)).mono ?_; rintro e wl ⟨rfl, hSl⟩)
       | (go_at_call 33; refine (CY.out _ (by assumption)).mono ?_; rintro e wl ⟨vl, rfl, hSl, HGl⟩)
       | (go_at_call 30; refine (HGl.out _ (by omega)).mono ?_; rintro e wl ⟨rfl, hSl⟩))
    rename_i hHeld
    go_wp2
    go_ret
    exact ⟨rfl, B3.out.trans (hHeld.1.mono B3.out.size)⟩
  · have hbad := gotY_bad he
    rw [hbad] at HG
    generalize (gotY zs 0 intra).err = er at *
    simp only [badY] at HG
    go_enter Tryz.func8, Tryz.ntmps8
    go_wp2_with fail
    refine HK.out.mono ?_
    rintro e w1 ⟨rfl, b1⟩
    have B1 := Lib.hid b1
    clear b1
    go_wp2_with fail
    refine (HG.out w1 B1.out).mono ?_
    rintro e w2 ⟨v, rfl, ho, b2⟩
    obtain ⟨av, cv, rfl, hr⟩ := rowP_own (ps := []) ho
    have B2 := Lib.hid (B1.out.trans (b2.mono B1.out.size))
    clear ho b2
    go_wp2_with fail
    have hbA : Below w2.heap.size w2 (w2.alloc (.cells #[.int .i64 0, .slice av 0 cv] 27 (0, 0))) := (Below.refl _ w2).alloc (Nat.le_refl _) _
    have BA := Lib.hid (B2.out.trans (hbA.mono B2.out.size))
    have hsb := sameBlock_any (hr.below hbA).cellsP (w := w2.alloc (.cells #[.int .i64 0, .slice av 0 cv] 27 (0, 0))) (v := .slice none 0 0) (ys := []) ⟨none, 0, rfl, .inl rfl⟩ (by simp) (by simp) 0 0
    refine hsb.mono ?_
    rintro e w3 ⟨rfl, b3⟩
    have B3 := Lib.hid (BA.out.trans (b3.mono BA.out.size))
    clear b3 hsb
    go_wp2_with fail
    go_ret
    exact ⟨rfl, B3.out⟩

end Go.Proofs.YtbcfiafgolcbpaaGreatDoor
