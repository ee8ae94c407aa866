/- motion: MotionAlone (praxinoscopelaw14), over the record. -/
import Derived.Test.YthoklmhaljjjdaaMLaw5
import Derived.BigQuiet
namespace Go.Proofs.Ythoklmhaljjjdaa
open Go.RowKit Go.Shelf Go.Sort
set_option linter.unusedVariables false

theorem pW_or {f g a b : Int} (hp : pE f g a b = 0) : pW f g a b = 88 ∨ pW f g a b = 176 ∨ pW f g a b = 352 := by
  have e2 : pW f g a b = if b ≤ 4 then sW f else sW f / 2 := by unfold pW; rw [if_pos hp]
  rw [e2]
  rcases sWH_or (cE_F (pE_zero hp).1) with ⟨h, -⟩ | ⟨h, -⟩ <;> rw [h] <;> split <;> decide
theorem mN_inj {f g a b x y : Int} (hp : pE f g a b = 0) {k j : Nat} (hk : k < 64) (hj : j < 64) (h : mN f g a b x y k = mN f g a b x y j) : k = j := by
  have hw := pW_or hp
  unfold mN at h
  generalize pA f g a b = at_ at *
  generalize mX b y = Y at *
  generalize mX b x = X at *
  rcases hw with e | e | e <;> rw [e] at h <;> omega
/-- another sample there: one that is fetched is one more, at most -/
theorem alone_plain {f g a b x y : Int} {zs : List UInt8} {m : Nat} (hm : m < zs.length) (z : UInt8) (hz : zs[m]?.getD 0 = z) :
    mE f g a b x y (zs.set m (z + 1)).length = mE f g a b x y zs.length ∧ (mL f g a b x y (zs.set m (z + 1))).length = (mL f g a b x y zs).length ∧
    ∃ k0 : Nat, (∀ k, k < (mL f g a b x y zs).length → k ≠ k0 → (mL f g a b x y (zs.set m (z + 1)))[k]?.getD 0 = (mL f g a b x y zs)[k]?.getD 0) ∧
      (k0 < (mL f g a b x y zs).length → (mL f g a b x y (zs.set m (z + 1)))[k0]?.getD 0 = (mL f g a b x y zs)[k0]?.getD 0 + 1) := by
  have hl : (zs.set m (z + 1)).length = zs.length := by simp
  refine ⟨by rw [hl], by rw [mL_length, mL_length, hl], ?_⟩
  by_cases hE : mE f g a b x y zs.length = 0
  · have hE' : mE f g a b x y (zs.set m (z + 1)).length = 0 := by rw [hl]; exact hE
    have h64 : (mL f g a b x y zs).length = 64 := by rw [mL_length, if_pos hE]
    obtain ⟨hc, hln, hp, hf⟩ := mE_zero hE
    rw [h64]
    by_cases hk : ∃ k0, k0 < 64 ∧ (mN f g a b x y k0).toNat = m
    · obtain ⟨k0, h0, h1⟩ := hk
      refine ⟨k0, fun k hk hne => ?_, fun _ => ?_⟩
      · rw [mL_at hE' k hk, mL_at hE k hk]
        have hne2 : m ≠ (mN f g a b x y k).toNat := fun e => hne (mN_inj hp (x := x) (y := y) hk h0 (by
          obtain ⟨p1, -⟩ := mN_in hp hf hk
          obtain ⟨p2, -⟩ := mN_in hp hf h0
          omega))
        rw [List.getElem?_set_ne hne2]
      · rw [mL_at hE' k0 h0, mL_at hE k0 h0, h1, hz]
        simp [hm]
    · refine ⟨64, fun k hk2 _ => ?_, fun h => absurd h (by omega)⟩
      rw [mL_at hE' k hk2, mL_at hE k hk2]
      have hne2 : m ≠ (mN f g a b x y k).toNat := fun e => hk ⟨k, hk2, e.symm⟩
      rw [List.getElem?_set_ne hne2]
  · rw [mL_no hE]
    exact ⟨0, fun k hk => absurd hk (by simp), fun h => absurd h (by simp)⟩

set_option maxRecDepth 100000 in
set_option maxHeartbeats 4000000 in
theorem alone14_any (I : MotionI) (f g a b x y p q : Int) (hp : I64 p) (W : World) :
    Calls Try.prog 8 #[.int .i64 f, .int .i64 g, .int .i64 a, .int .i64 b, .int .i64 x, .int .i64 y, .int .i64 p, .int .i64 q] W fun e W' => e = .returned (.bool true) ∧ Below W.heap.size W W' := by
  have HK := Lib.hid (fun W => awake14_any I W)
  have HSp := Lib.hid (fun W => kspot_any f g a W)
  have HPb := Lib.hid (fun W => pick_any b 6 W (by omega) (by omega))
  have HPx := Lib.hid (fun W => pick_any x 31 W (by omega) (by omega))
  have HPy := Lib.hid (fun W => pick_any y 31 W (by omega) (by omega))
  have HSc := Lib.hid (fun F W => scene14_any F p 5 hp (by decide) W)
  obtain ⟨bm, hbm, hb0, hb5⟩ : ∃ bm : Int, b % 6 = bm ∧ 0 ≤ bm ∧ bm ≤ 5 := ⟨_, rfl, by omega, by omega⟩
  obtain ⟨xm, hxm, hx0, hx3⟩ : ∃ xm : Int, x % 31 = xm ∧ 0 ≤ xm ∧ xm ≤ 30 := ⟨_, rfl, by omega, by omega⟩
  obtain ⟨ym, hym, hy0, hy3⟩ : ∃ ym : Int, y % 31 = ym ∧ 0 ≤ ym ∧ ym ≤ 30 := ⟨_, rfl, by omega, by omega⟩
  rw [hbm] at HPb
  rw [hxm] at HPx
  rw [hym] at HPy
  clear hbm hxm hym hp
  have B0 := Lib.hid (Below.refl W.heap.size W)
  go_enter Try.func8, Try.ntmps8
  go_wp2_with fail
  refine (HK.out _).mono ?_
  rintro e W1 ⟨rfl, hb⟩
  have B1 := Lib.hid (below_chain B0.out (Nat.le_refl _) hb)
  clear hb
  go_wp2_with fail
  refine (HSp.out _).mono ?_
  rintro e W2 ⟨F, G, A, hc, hG, hA, rfl, hb⟩
  have B2 := Lib.hid (below_chain B1.out (Nat.le_refl _) hb)
  clear hb HSp HK
  obtain ⟨B, hB⟩ : ∃ B, 1 + bm = B := ⟨_, rfl⟩
  obtain ⟨X, hX⟩ : ∃ X, xm - 15 = X := ⟨_, rfl⟩
  obtain ⟨Y, hY⟩ : ∃ Y, ym - 15 = Y := ⟨_, rfl⟩
  have hB1 : 1 ≤ B ∧ B ≤ 6 := by omega
  have hX1 : -15 ≤ X ∧ X ≤ 15 := by omega
  have hY1 : -15 ≤ Y ∧ Y ≤ 15 := by omega
  obtain ⟨W3, hW3⟩ : ∃ W3, W2.alloc (.cells #[.int .i64 F, .int .i64 G, .int .i64 A] 23 (0, 0)) = W3 := ⟨_, rfl⟩
  have hb3 : Below W2.heap.size W2 W3 := by rw [← hW3]; exact (Below.refl _ W2).alloc (Nat.le_refl _) _
  have hz3 : W3.heap.size = W2.heap.size + 1 := by rw [← hW3]; simp
  have hbx : SpotAt W3 W2.heap.size F G A := ⟨_, by rw [← hW3]; exact World.alloc_heap_new W2 _⟩
  have B3 := Lib.hid (below_chain B2.out (Nat.le_refl _) hb3)
  have HBx := Lib.hid hbx
  clear hb3 hbx
  go_wp2_with fail
  clear hW3
  have hWb : W.heap.size ≤ W2.heap.size := B2.out.size
  generalize W2.heap.size = bs at *
  refine (HPb.out _).mono ?_
  rintro e w' ⟨rfl, rfl⟩
  go_wp2_with fail
  refine (HPx.out _).mono ?_
  rintro e w' ⟨rfl, rfl⟩
  go_wp2_with fail
  refine (HPy.out _).mono ?_
  rintro e w' ⟨rfl, rfl⟩
  obtain ⟨c0, c1, c2⟩ := HBx.out.cells
  go_wp2_with fail
  clear hB hX hY hb0 hb5 hx0 hx3 hy0 hy3 HPb HPx HPy
  refine (HSc.out _ _).mono ?_
  rintro e W4 ⟨zs, hzl, rfl, hzs, hb⟩
  have B4 := Lib.hid (below_chain B3.out (Nat.le_refl _) hb)
  have HBx := Lib.hid (HBx.out.later hb)
  have HZ := Lib.hid hzs
  have hg4 := (Array.getElem?_eq_some_iff.1 hzs).1
  have hbg : bs < W3.heap.size := by omega
  clear hz3
  generalize W3.heap.size = gs at *
  have hF := cE_F hc
  have hzl2 : zs.length ≤ 152064 ∧ 1 ≤ zs.length := by rcases hF with rfl | rfl <;> (simp [sN] at hzl; omega)
  clear hb hzs hzl c0 c1 c2 HSc
  have HFe : Hid (∀ (ys : List UInt8) (W : World), ys.length ≤ 152064 → W.heap[gs]? = some (.cells (u8s ys).toArray 5 (0, 0)) → _) := Lib.hid (fun ys W hy h => I.fetch (W := W) F G A B X Y (scene_byt h (n₀ := gs + 1) (by omega) ys.length ys.length (Nat.le_refl _) (by omega)) (by have := (Array.getElem?_eq_some_iff.1 h).1; omega) ⟨_, _, _, rfl, Nat.le_refl _⟩ (by rcases hF with rfl | rfl <;> decide) ⟨by omega, by omega⟩ ⟨by omega, by omega⟩ ⟨by omega, by omega⟩ ⟨by omega, by omega⟩ ⟨by omega, by omega⟩)
  simp only [List.take_length] at HFe
  obtain ⟨c0, c1, c2⟩ := HBx.out.cells
  go_wp2_with fail
  refine (HFe.out zs _ hzl2.1 HZ.out).mono ?_
  rintro e W5 ⟨lv, rfl, ho, hb⟩
  have B5 := Lib.hid (below_chain B4.out (Nat.le_refl _) hb)
  have HBx := Lib.hid (HBx.out.later hb)
  have HZ := Lib.hid ((hb.block gs hg4).trans HZ.out)
  have HO := Lib.hid ho
  have hs5 := hb.size
  have HPw := Lib.hid (fun W => pick_any q zs.length W (by omega) (by omega))
  obtain ⟨m, hm, hm2⟩ : ∃ m : Nat, q % (zs.length : Int) = (m : Int) ∧ m < zs.length := ⟨(q % (zs.length : Int)).toNat, by have := Int.emod_nonneg q (show (zs.length : Int) ≠ 0 by omega); omega, by have := Int.emod_lt_of_pos q (show (0 : Int) < zs.length by omega); have := Int.emod_nonneg q (show (zs.length : Int) ≠ 0 by omega); omega⟩
  rw [hm] at HPw
  obtain ⟨z, hz⟩ : ∃ z, zs[m]?.getD 0 = z := ⟨_, rfl⟩
  have HAl := Lib.hid (alone_plain (f := F) (g := G) (a := A) (b := B) (x := X) (y := Y) hm2 z hz)
  have cz : W5.cell? ⟨gs, m, none⟩ = some (.int .u8 (z.toNat)) := by
    unfold World.cell?
    simp only
    rw [HZ.out, ← hz]
    simp [u8s, hm2]
  have fz : W5.frozen? ⟨gs, m, none⟩ = false := by
    unfold World.frozen?
    simp only
    rw [HZ.out]
    simp
  obtain ⟨la, lc, rfl, -, -⟩ := byt_own ho (by rw [mL_length]; split <;> omega) (Nat.le_refl _)
  clear hb ho c0 c1 c2 hF hm
  go_wp2_with fail
  refine (HPw.out _).mono ?_
  rintro e w' ⟨rfl, rfl⟩
  have hm3 : (m : Int) < (zs.length : Int) := by omega
  obtain ⟨W6, hW6⟩ : ∃ W6, W5.setCell ⟨gs, m, none⟩ (.int .u8 (((z.toNat : Int) + 1) % 256)) = W6 := ⟨_, rfl⟩
  have hbar : Bar (fun k => k = gs) W5 W6 := by rw [← hW6]; exact Bar.setCell (S := fun k => k = gs) (Bar.refl _ _) (p := ⟨gs, m, none⟩) (fun _ => rfl) _
  have hgs5 : gs < W5.heap.size := by omega
  have hz6 : W6.heap[gs]? = some (.cells (u8s (zs.set m (z + 1))).toArray 5 (0, 0)) := by
    have e1 : (W5.setCell ⟨gs, m, none⟩ (.int .u8 (((z.toNat : Int) + 1) % 256))).heap[gs]? = _ := heap_setCell_same W5 gs m _ _ _ HZ.out
    rw [hW6] at e1
    rw [e1, show ((z.toNat : Int) + 1) % 256 = (((z + 1).toNat : Nat) : Int) by simp [UInt8.toNat_add]]
    simp [u8s, List.map_set]
  have HBx6 : Hid (SpotAt W6 bs F G A) := Lib.hid (by
    obtain ⟨t, h⟩ := HBx.out
    exact ⟨t, (hbar.block bs (by omega) (by omega)).trans h⟩)
  have B6 := Lib.hid (B5.out.trans (hbar.below (by omega) (fun k hk e => by have := hWb; omega)))
  have HO6 := Lib.hid (ownsRow_bar HO.out hbar (fun k e e' => by have := (HO.out.lt k e).1; omega))
  have hs6 := hbar.size
  clear hbar HO HBx HZ
  obtain ⟨c0, c1, c2⟩ := HBx6.out.cells
  go_wp2_with fail
  clear hW6 cz fz
  have hl' : (zs.set m (z + 1)).length = zs.length := by simp
  have HF2 := Lib.hid (HFe.out (zs.set m (z + 1)) W6 (by omega) hz6)
  rw [hl'] at HF2
  have hal := HAl.out
  rw [hl'] at hal
  obtain ⟨-, hml, k0, hk1, hk2⟩ := hal
  refine HF2.out.mono ?_
  rintro e W7 ⟨mv, rfl, ho, hb⟩
  have B7 := Lib.hid (below_chain B6.out (Nat.le_refl _) hb)
  have HO7 := Lib.hid (ownsRow_bar HO6.out (bar_of_below (S := fun _ => False) hb) (fun _ _ e => e))
  have hL64 : (mL F G A B X Y zs).length ≤ 64 := by rw [mL_length]; split <;> omega
  generalize mL F G A B X Y (zs.set m (z + 1)) = M at *
  generalize mL F G A B X Y zs = L at *
  generalize mE F G A B X Y zs.length = E at *
  have HM7 := Lib.hid ho
  obtain ⟨ma, mc, rfl, -, -⟩ := byt_own ho (by omega) (Nat.le_refl _)
  rw [hml]
  obtain ⟨n, hn⟩ : ∃ n, L.length = n := ⟨_, rfl⟩
  rw [hn]
  rw [hn] at hL64 hk1 hk2
  have HCL : Hid (∀ i, i < n → ∃ lb lo, la = some ⟨lb, lo, none⟩ ∧ W7.cell? ⟨lb, lo + i, none⟩ = some (.int .u8 ((L[i]?.getD 0).toNat))) := Lib.hid (fun i hi => by
    obtain ⟨a', c', e, -, h⟩ := byt_own HO7.out (by omega) (Nat.le_refl _)
    cases e
    rcases h with h | ⟨b', o', rfl, -, h⟩
    · rw [h] at hn; simp at hn; omega
    · exact ⟨b', o', rfl, h i (by omega)⟩)
  have HCM : Hid (∀ i, i < n → ∃ lb lo, ma = some ⟨lb, lo, none⟩ ∧ W7.cell? ⟨lb, lo + i, none⟩ = some (.int .u8 ((M[i]?.getD 0).toNat))) := Lib.hid (fun i hi => by
    obtain ⟨a', c', e, -, h⟩ := byt_own HM7.out (by omega) (Nat.le_refl _)
    cases e
    rcases h with h | ⟨b', o', rfl, -, h⟩
    · rw [h] at hml; simp at hml; omega
    · exact ⟨b', o', rfl, h i (by omega)⟩)
  have HK1 := Lib.hid hk1
  have HK2 := Lib.hid hk2
  clear hk1 hk2 ho hb HO6 HO7 HM7 HF2 HFe HAl c0 c1 c2 hz hml hn hz6
  go_wp2_with fail
  go_loopw [24, 25] (fun fv iv wr => ∃ i nq : Nat, fv = .int .i64 (if k0 < i then 1 else 0) ∧ iv = .int .i64 (i : Int) ∧ i ≤ n ∧ wr = W7.drewN nq) (fun _ iv _ => n - (intOf iv).toNat)
  case atStart => exact ⟨0, 0, by simp, rfl, by omega, rfl⟩
  case round =>
    obtain ⟨i, nr, rfl, rfl, hi, rfl⟩ := hrel
    by_cases hi2 : i < n
    · have hi3 : (i : Int) < (n : Int) := by omega
      have hn3 : (n : Int) ≤ 64 := by omega
      obtain ⟨lb, lo, rfl, cl⟩ := HCL.out i hi2
      obtain ⟨mb, mo, rfl, cm⟩ := HCM.out i hi2
      by_cases e : i = k0
      · subst e
        rw [HK2.out hi2] at cm
        generalize L[i]?.getD 0 = u at *
        have hu : u.toNat < 256 := u.toNat_lt
        rw [show (((u + 1).toNat : Nat) : Int) = ((u.toNat : Int) + 1) % 256 by simp [UInt8.toNat_add]] at cm
        have hu3 : (u.toNat : Int) < 256 := by omega
        have t1 : ((u.toNat : Int) != ((u.toNat : Int) + 1) % 256) = true := by simp; omega
        rw [if_neg (Nat.lt_irrefl i)]
        clear hu
        go_wp2_with fail
        go_quiet (fail)
        go_wp2_with fail
        go_quiet (fail)
        go_wp2_with fail
        go_roundw
        case rel => exact ⟨i + 1, _, by rw [if_pos (by omega)], by go_num, by omega, rfl⟩
        case measure => simp [intOf]; omega
      · rw [HK1.out i hi2 e] at cm
        generalize L[i]?.getD 0 = u at *
        have hφ : (if k0 < i then (1 : Int) else 0) = if k0 < i + 1 then (1 : Int) else 0 := by
          by_cases q : k0 < i
          · rw [if_pos q, if_pos (by omega)]
          · rw [if_neg q, if_neg (by omega)]
        rw [hφ]
        clear hφ
        generalize hφ : (if k0 < i + 1 then (1 : Int) else 0) = φ
        go_wp2_with fail
        go_quiet (fail)
        go_wp2_with fail
        go_roundw
        case rel => exact ⟨i + 1, _, by rw [hφ], by go_num, by omega, rfl⟩
        case measure => simp [intOf]; omega
    · obtain rfl : i = n := by omega
      obtain ⟨φ, hφ⟩ : ∃ φ : Int, (if k0 < i then (1 : Int) else 0) = φ := ⟨_, rfl⟩
      have hφ1 : φ ≤ 1 := by rw [← hφ]; split <;> omega
      rw [hφ]
      clear hφ
      have B8 := Lib.hid (B7.out.trans (below_drewN W.heap.size W7 nr))
      go_wp2
      go_ret
      exact ⟨rfl, B8.out⟩

end Go.Proofs.Ythoklmhaljjjdaa
