/- motion: MotionThere (praxinoscopelaw14), over the record. -/
import Derived.Test.YthoklmhaljjjdaaMLaw3
import Derived.BigQuiet
namespace Go.Proofs.Ythoklmhaljjjdaa
open Go.RowKit Go.Shelf Go.Sort
set_option linter.unusedVariables false

theorem pE_ok {f g a b : Int} (hc : cE f g a = 0) (h1 : 1 ≤ b) (h6 : b ≤ 6) : pE f g a b = 0 := by
  unfold pE
  rw [if_pos hc, if_pos ⟨h1, h6⟩]
theorem mE_ok {f g a b x y : Int} {n : Nat} (hc : cE f g a = 0) (h1 : 1 ≤ b) (h6 : b ≤ 6) (hn : (n : Int) = sN f) : mE f g a b x y n = fE f g a x y := by
  unfold mE
  rw [if_pos hc, if_pos hn, if_pos (pE_ok hc h1 h6)]
theorem fE_num {f g a x y : Int} (hc : cE f g a = 0) (hx : -15 ≤ x ∧ x ≤ 15) (hy : -15 ≤ y ∧ y ≤ 15) : fE f g a x y = if inB f g a x y = true then 0 else 12 := by
  unfold fE
  rw [if_pos hc, if_pos]
  unfold prt
  simp
  omega

theorem fE_in {f g a x y : Int} (hc : cE f g a = 0) (hx : -15 ≤ x ∧ x ≤ 15) (hy : -15 ≤ y ∧ y ≤ 15) : fE f g a x y = if 0 ≤ cX f g a + x ∧ cX f g a + x + 16 ≤ sW f ∧ 0 ≤ cY f g a + y ∧ cY f g a + y + 16 ≤ sH f then 0 else 12 := by
  rw [fE_num hc hx hy]
  unfold inB
  simp only [Bool.and_eq_true, decide_eq_true_eq, and_assoc]
theorem mL_no {f g a b x y : Int} {zs : List UInt8} (h : mE f g a b x y zs.length ≠ 0) : mL f g a b x y zs = [] := by unfold mL; rw [if_neg h]
theorem mL_at {f g a b x y : Int} {zs : List UInt8} (h : mE f g a b x y zs.length = 0) (k : Nat) (hk : k < 64) : (mL f g a b x y zs)[k]?.getD 0 = zs[(mN f g a b x y k).toNat]?.getD 0 := by
  unfold mL
  rw [if_pos h]
  simp [hk]
theorem mX_in {b x : Int} (h : -15 ≤ x ∧ x ≤ 15) : -15 ≤ mX b x ∧ mX b x ≤ 15 := by
  unfold mX hv
  split
  · split <;> omega
  · exact h
theorem sN_le {f : Int} (h : f = 0 ∨ f = 1) : sN f ≤ 152064 := by rcases h with rfl | rfl <;> decide
theorem sWH_or {f : Int} (h : f = 0 ∨ f = 1) : (sW f = 176 ∧ sH f = 144) ∨ (sW f = 352 ∧ sH f = 288) := by rcases h with rfl | rfl <;> decide
theorem sE_ok {f : Int} (h : f = 0 ∨ f = 1) : sE f = 0 := by rcases h with rfl | rfl <;> decide
theorem pW_pos {f g a b : Int} (hp : pE f g a b = 0) : 1 ≤ pW f g a b ∧ pW f g a b ≤ 352 ∧ 0 ≤ pA f g a b ∧ pA f g a b ≤ 152064 := by
  obtain ⟨h1, h2, h3, h4, h5⟩ := pA_in hp
  refine ⟨?_, h4, h1, by omega⟩
  have e2 : pW f g a b = if b ≤ 4 then sW f else sW f / 2 := by unfold pW; rw [if_pos hp]
  rw [e2]
  rcases sWH_or (cE_F (pE_zero hp).1) with ⟨h, -⟩ | ⟨h, -⟩ <;> rw [h] <;> split <;> decide

/-- between two samples -/
structure ThereW (W : World) (lb lo gs : Nat) (L zs : List UInt8) (wr : World) : Prop where
  below : Below W.heap.size W wr
  lc : ∀ j, j < 64 → wr.cell? ⟨lb, lo + j, none⟩ = some (.int .u8 ((L[j]?.getD 0).toNat))
  zc : ∀ j, j < zs.length → wr.cell? ⟨gs, j, none⟩ = some (.int .u8 ((zs[j]?.getD 0).toNat))
theorem ThereW.drewN {W : World} {lb lo gs : Nat} {L zs : List UInt8} {wr : World} (h : ThereW W lb lo gs L zs wr) (n : Nat) : ThereW W lb lo gs L zs (wr.drewN n) := ⟨⟨h.below.os, h.below.tape, h.below.output, h.below.size, h.below.block⟩, h.lc, h.zc⟩

set_option maxRecDepth 100000 in
set_option maxHeartbeats 4000000 in
theorem there14_any (I : MotionI) (f g a b x y p q : Int) (hp : I64 p) (hq : I64 q) (W : World) :
    Calls Try.prog 6 #[.int .i64 f, .int .i64 g, .int .i64 a, .int .i64 b, .int .i64 x, .int .i64 y, .int .i64 p, .int .i64 q] W fun e W' => e = .returned (.bool true) ∧ Below W.heap.size W W' := by
  have HK := Lib.hid (fun W => known14_any I W)
  have HSp := Lib.hid (fun W => kspot_any f g a W)
  have HPb := Lib.hid (fun W => pick_any b 6 W (by omega) (by omega))
  have HPx := Lib.hid (fun W => pick_any x 31 W (by omega) (by omega))
  have HPy := Lib.hid (fun W => pick_any y 31 W (by omega) (by omega))
  have HSc := Lib.hid (fun F W => scene14_any F p q hp hq W)
  obtain ⟨bm, hbm, hb0, hb5⟩ : ∃ bm : Int, b % 6 = bm ∧ 0 ≤ bm ∧ bm ≤ 5 := ⟨_, rfl, by omega, by omega⟩
  obtain ⟨xm, hxm, hx0, hx3⟩ : ∃ xm : Int, x % 31 = xm ∧ 0 ≤ xm ∧ xm ≤ 30 := ⟨_, rfl, by omega, by omega⟩
  obtain ⟨ym, hym, hy0, hy3⟩ : ∃ ym : Int, y % 31 = ym ∧ 0 ≤ ym ∧ ym ≤ 30 := ⟨_, rfl, by omega, by omega⟩
  rw [hbm] at HPb
  rw [hxm] at HPx
  rw [hym] at HPy
  clear hbm hxm hym hp hq
  have B0 := Lib.hid (Below.refl W.heap.size W)
  go_enter Try.func6, Try.ntmps6
  go_wp2_with fail
  refine (HK.out _).mono ?_
  rintro e W1 ⟨rfl, hb⟩
  have B1 := Lib.hid (below_chain B0.out (Nat.le_refl _) hb)
  clear hb
  go_wp2_with fail
  refine (HSp.out _).mono ?_
  rintro e W2 ⟨F, G, A, hc, hG, hA, rfl, hb⟩
  have B2 := Lib.hid (below_chain B1.out (Nat.le_refl _) hb)
  clear hb HSp HK
  obtain ⟨B, hB⟩ : ∃ B, 1 + bm = B := ⟨_, rfl⟩
  obtain ⟨X, hX⟩ : ∃ X, xm - 15 = X := ⟨_, rfl⟩
  obtain ⟨Y, hY⟩ : ∃ Y, ym - 15 = Y := ⟨_, rfl⟩
  have hB1 : 1 ≤ B ∧ B ≤ 6 := by omega
  have hX1 : -15 ≤ X ∧ X ≤ 15 := by omega
  have hY1 : -15 ≤ Y ∧ Y ≤ 15 := by omega
  obtain ⟨W3, hW3⟩ : ∃ W3, W2.alloc (.cells #[.int .i64 F, .int .i64 G, .int .i64 A] 23 (0, 0)) = W3 := ⟨_, rfl⟩
  have hb3 : Below W2.heap.size W2 W3 := by rw [← hW3]; exact (Below.refl _ W2).alloc (Nat.le_refl _) _
  have hbx : SpotAt W3 W2.heap.size F G A := ⟨_, by rw [← hW3]; exact World.alloc_heap_new W2 _⟩
  have B3 := Lib.hid (below_chain B2.out (Nat.le_refl _) hb3)
  have HBx := Lib.hid hbx
  clear hb3 hbx
  go_wp2_with fail
  clear hW3
  generalize W2.heap.size = bs at *
  refine (HPb.out _).mono ?_
  rintro e w' ⟨rfl, rfl⟩
  go_wp2_with fail
  refine (HPx.out _).mono ?_
  rintro e w' ⟨rfl, rfl⟩
  go_wp2_with fail
  refine (HPy.out _).mono ?_
  rintro e w' ⟨rfl, rfl⟩
  obtain ⟨c0, c1, c2⟩ := HBx.out.cells
  go_wp2_with fail
  clear hB hX hY hb0 hb5 hx0 hx3 hy0 hy3 HPb HPx HPy
  refine (HSc.out _ _).mono ?_
  rintro e W4 ⟨zs, hzl, rfl, hzs, hb⟩
  have B4 := Lib.hid (below_chain B3.out (Nat.le_refl _) hb)
  have HBx := Lib.hid (HBx.out.later hb)
  have HZ := Lib.hid hzs
  have HZL := Lib.hid hzl
  have hs4 := hb.size
  have hg4 := (Array.getElem?_eq_some_iff.1 hzs).1
  generalize W3.heap.size = gs at *
  have hF := cE_F hc
  have hzl2 : zs.length ≤ 152064 := by have := sN_le hF; omega
  clear hb hzs hzl c0 c1 c2 HSc
  have hpe := pE_ok hc hB1.1 hB1.2
  have HPl := Lib.hid (fun W => place13_ans F G A B W)
  rw [hpe] at HPl
  have HSz := Lib.hid (fun W => size13_ans F W)
  rw [sE_ok hF] at HSz
  have HCo := Lib.hid (fun W => corner13_ans F G A W)
  rw [hc] at HCo
  obtain ⟨hst1, hst2, hat1, hat2⟩ := pW_pos hpe
  obtain ⟨hx1, hx2, hy1, hy2⟩ := cXY_in F G A
  have hwh := sWH_or hF
  have HEn := Lib.hid (fE_in hc hX1 hY1)
  have HMN := Lib.hid (fun (h : fE F G A X Y = 0) (k : Nat) (hk : k < 64) => mN_in hpe h hk)
  have HFe : Hid (∀ W, Below W4.heap.size W4 W → _) := fun W hb => I.fetch (W := W) F G A B X Y ((scene_byt HZ.out (n₀ := gs + 1) (by omega) zs.length zs.length (Nat.le_refl _) (by omega)).below (hb.mono (by omega))) (by have := hb.size; omega) ⟨_, _, _, rfl, Nat.le_refl _⟩ (by rcases hF with rfl | rfl <;> decide) ⟨by omega, by omega⟩ ⟨by omega, by omega⟩ ⟨by omega, by omega⟩ ⟨by omega, by omega⟩ ⟨by omega, by omega⟩
  have HFi : Hid (∀ W, _) := fun W => I.fits F G A X Y W (by rcases hF with rfl | rfl <;> decide) ⟨by omega, by omega⟩ ⟨by omega, by omega⟩ ⟨by omega, by omega⟩ ⟨by omega, by omega⟩
  rw [List.take_length, mE_ok hc hB1.1 hB1.2 HZL.out] at HFe
  have hlw : sW F ≤ 352 := by omega
  have hlh : sH F ≤ 288 := by omega
  have hlw0 : 0 ≤ sW F := by omega
  have hlh0 : 0 ≤ sH F := by omega
  have HLe := Lib.hid (mL_length F G A B X Y zs)
  rw [mE_ok hc hB1.1 hB1.2 HZL.out] at HLe
  have HLn : Hid (fE F G A X Y ≠ 0 → mL F G A B X Y zs = []) := fun h => mL_no (by rw [mE_ok hc hB1.1 hB1.2 HZL.out]; exact h)
  have HLa : Hid (fE F G A X Y = 0 → ∀ k, k < 64 → (mL F G A B X Y zs)[k]?.getD 0 = zs[(mN F G A B X Y k).toNat]?.getD 0) := fun h k hk => mL_at (by rw [mE_ok hc hB1.1 hB1.2 HZL.out]; exact h) k hk
  unfold mN at HMN HLa
  rw [← HZL.out] at HMN
  have HWH := Lib.hid hwh
  have HPW : Hid (pW F G A B = if B ≤ 4 then sW F else sW F / 2) := Lib.hid (by unfold pW; rw [if_pos hpe])
  clear hwh HZL hpe hc hF
  generalize pA F G A B = at_ at *
  generalize pW F G A B = st at *
  generalize sW F = w at *
  generalize sH F = h at *
  generalize sN F = sn at *
  generalize cX F G A = cx at *
  generalize cY F G A = cy at *
  generalize fE F G A X Y = E at *
  generalize mL F G A B X Y zs = L at *
  obtain ⟨c0, c1, c2⟩ := HBx.out.cells
  go_wp2_with fail
  refine (HPl.out _).mono ?_
  rintro e W5 ⟨rfl, hb⟩
  have B5 := Lib.hid (below_chain B4.out (Nat.le_refl _) hb)
  have HBx := Lib.hid (HBx.out.later hb)
  have B45 := Lib.hid hb
  clear hb c0 c1 c2 HPl
  obtain ⟨c0, c1, c2⟩ := HBx.out.cells
  go_wp2_with fail
  refine (HSz.out _).mono ?_
  rintro e w' ⟨rfl, rfl⟩
  go_wp2_with fail
  refine (HCo.out _).mono ?_
  rintro e W6 ⟨rfl, hb⟩
  have B6 := Lib.hid (below_chain B5.out (Nat.le_refl _) hb)
  have HBx := Lib.hid (HBx.out.later hb)
  have B46 := Lib.hid (below_chain B45.out (Nat.le_refl _) hb)
  have hs6 := B46.out.size
  clear hb c0 c1 c2 HSz HCo
  obtain ⟨c0, c1, c2⟩ := HBx.out.cells
  go_wp2_with fail
  refine (HFe.out _ B46.out).mono ?_
  rintro e W7 ⟨lv, rfl, ho, hb⟩
  have B7 := Lib.hid (below_chain B6.out (Nat.le_refl _) hb)
  have HBx := Lib.hid (HBx.out.later hb)
  have B47 := Lib.hid (below_chain B46.out (Nat.le_refl _) hb)
  clear hb c0 c1 c2 HFe
  obtain ⟨c0, c1, c2⟩ := HBx.out.cells
  have hl64 : L.length ≤ 64 := by rw [HLe.out]; split <;> omega
  obtain ⟨la, lc, rfl, -, hlz⟩ := byt_own ho (by omega) (Nat.le_refl _)
  have HLz := Lib.hid hlz
  clear ho hlz
  rcases (show (0 ≤ cx + X ∧ cx + X + 16 ≤ w ∧ 0 ≤ cy + Y ∧ cy + Y + 16 ≤ h) ∨ (cx + X < 0) ∨ (0 ≤ cx + X ∧ w < cx + X + 16) ∨ (0 ≤ cx + X ∧ cx + X + 16 ≤ w ∧ cy + Y < 0) ∨ (0 ≤ cx + X ∧ cx + X + 16 ≤ w ∧ 0 ≤ cy + Y ∧ h < cy + Y + 16) by omega) with n | n | n | n | n
  · have hE : E = 0 := by rw [HEn.out, if_pos n]
    subst hE
    have hL64 : L.length = 64 := HLe.out
    obtain ⟨lb, lo, rfl, hlb, hlc⟩ : ∃ b off, la = some ⟨b, off, none⟩ ∧ b < W7.heap.size ∧ ∀ j, j < L.length → W7.cell? ⟨b, off + j, none⟩ = some (.int .u8 ((L[j]?.getD 0).toNat)) := by
      rcases HLz.out with h | h
      · rw [h] at hL64; cases hL64
      · exact h
    rw [hL64] at hlc ⊢
    have t : decide (cy + Y + 16 ≤ h) = true := by simp; omega
    have HLc := Lib.hid hlc
    have HM2 := Lib.hid (HMN.out rfl)
    have HA2 := Lib.hid (HLa.out rfl)
    clear hlc HLz HLn HLe HEn hl64 HMN HLa
    go_wp2_with fail
    refine (HFi.out _).mono ?_
    rintro e W8 ⟨rfl, hb⟩
    have B8 := Lib.hid (below_chain B7.out (Nat.le_refl _) hb)
    have B48 := Lib.hid (below_chain B47.out (Nat.le_refl _) hb)
    have HC2 : Hid (∀ j, j < 64 → W8.cell? ⟨lb, lo + j, none⟩ = some (.int .u8 ((L[j]?.getD 0).toNat))) := fun j hj => (hb.cell (p := ⟨lb, lo + j, none⟩) hlb).trans (HLc.out j hj)
    have HZc : Hid (∀ j, j < zs.length → W8.cell? ⟨gs, j, none⟩ = some (.int .u8 ((zs[j]?.getD 0).toNat))) := fun j hj => by
      have hg8 := (B48.out.block gs hg4).trans HZ.out
      unfold World.cell?
      simp only
      rw [hg8]
      simp [u8s, hj]
    have HT := Lib.hid (⟨B8.out, HC2.out, HZc.out⟩ : ThereW W lb lo gs L zs W8)
    clear hb HFi HZ HLc B47 B46 B45 c0 c1 c2 t n hlb HC2 HZc B48 B8
    have HCb : Hid ((B ≤ 4 ∧ X = mX B X ∧ Y = mX B Y) ∨ ((B = 5 ∨ B = 6) ∧ Int.tdiv X 2 = mX B X ∧ Int.tdiv Y 2 = mX B Y)) := Lib.hid (by
      by_cases hb4 : B ≤ 4
      · exact .inl ⟨hb4, by unfold mX; rw [if_neg (by omega)], by unfold mX; rw [if_neg (by omega)]⟩
      · exact .inr ⟨by omega, by unfold mX; rw [if_pos (by omega)]; exact hv_tdiv X, by unfold mX; rw [if_pos (by omega)]; exact hv_tdiv Y⟩)
    have hxx : -15 ≤ mX B X ∧ mX B X ≤ 15 := mX_in hX1
    have hyy : -15 ≤ mX B Y ∧ mX B Y ≤ 15 := mX_in hY1
    generalize mX B X = XX at *
    generalize mX B Y = YY at *
    have hwb : (B ≤ 4 ∧ X = XX ∧ Y = YY) ∨ (B = 5 ∧ Int.tdiv X 2 = XX ∧ Int.tdiv Y 2 = YY) ∨ (B = 6 ∧ Int.tdiv X 2 = XX ∧ Int.tdiv Y 2 = YY) := by
      rcases HCb.out with h | ⟨h | h, h'⟩
      · exact .inl h
      · exact .inr (.inl ⟨h, h'⟩)
      · exact .inr (.inr ⟨h, h'⟩)
    clear HCb
    obtain ⟨wh, hwh⟩ : ∃ wh, w * h = wh := ⟨_, rfl⟩
    rw [hwh] at HM2
    have hwh1 : 25344 ≤ wh ∧ wh ≤ 101376 := by rcases HWH.out with ⟨rfl, rfl⟩ | ⟨rfl, rfl⟩ <;> omega
    have HST : Hid (st = 176 ∨ st = 88 ∨ st = 352) := Lib.hid (by
      have := HPW.out
      rcases HWH.out with ⟨rfl, rfl⟩ | ⟨rfl, rfl⟩ <;> (by_cases q : B ≤ 4 <;> simp [q] at this <;> omega))
    obtain ⟨wq, hwq⟩ : ∃ wq, wh / 4 = wq := ⟨_, rfl⟩
    rw [hwq] at HM2
    have hwq1 : 0 ≤ wq ∧ wq ≤ 25344 := by omega
    have hwq2 : Int.tdiv wh 4 = wq := by rw [Int.tdiv_eq_ediv_of_nonneg (by omega)]; exact hwq
    have hwh0 : 0 ≤ wh := by omega
    clear HWH HPW hlw hlh hlw0 hlh0
    rcases hwb with ⟨hb4, q1, q2⟩ | ⟨rfl, q1, q2⟩ | ⟨rfl, q1, q2⟩
    all_goals
      go_wp2_with fail
      go_loopw [33] (fun i wr => ∃ k : Nat, i = .int .i64 (k : Int) ∧ k ≤ 64 ∧ ThereW W lb lo gs L zs wr) (fun i _ => 64 - (intOf i).toNat)
      case atStart => exact ⟨0, rfl, by omega, HT.out⟩
      case round =>
        obtain ⟨k, rfl, hk, hI⟩ := hrel
        have HI := Lib.hid hI
        clear hI
        by_cases hk2 : k < 64
        · have hk3 : (k : Int) < 64 := by omega
          obtain ⟨h1, h2, h3, h4, h5⟩ := HM2.out k hk2
          have hlk := HA2.out k hk2
          obtain ⟨M, hM⟩ := Int.eq_ofNat_of_zero_le h1
          rw [hM] at h2 h3 h4 h5 hlk
          rw [Int.toNat_natCast] at hlk
          have h2' : M < zs.length := by omega
          clear h1
          push_cast at hM
          obtain ⟨T, hT⟩ : ∃ T, ((k : Int) / 8 + YY) * st = T := ⟨_, rfl⟩
          rw [hT] at hM
          have hT1 : -8000 ≤ T ∧ T ≤ 8000 := by rcases HST.out with q | q | q <;> rw [q] at hT <;> omega
          have hML : (M : Int) ≤ 152064 := by omega
          have HH3 := Lib.hid h3
          have HH4 := Lib.hid h4
          have HH5 := Lib.hid h5
          clear h3 h4 h5
          go_wp2_with fail
          clear hM hT
          have cz := HI.out.zc M h2'
          have cl := HI.out.lc k hk2
          rw [hlk] at cl
          clear hlk
          generalize zs[M]?.getD 0 = z at *
          have HT3 := Lib.hid HI.out
          have d1 : ¬ ((M : Int) < 0) := by omega
          have d2 : ¬ ((zs.length : Int) ≤ (M : Int)) := by omega
          have q3 := HH3.out
          have q4 := HH4.out
          have q5 := HH5.out
          try simp only [forall_const] at q4
          try simp only [forall_const] at q5
          try have d3 : ¬ (wh ≤ (M : Int)) := (by omega)
          try have d5 : ¬ ((M : Int) < wh) := (by omega)
          try have d6 : ¬ (wh + wq ≤ (M : Int)) := (by omega)
          try have d9 : ¬ ((M : Int) < wh + wq) := (by omega)
          try have d11 : (B == 5) = false := (by simp; omega)
          try have d12 : (B == 6) = false := (by simp; omega)
          clear q3 q4 q5
          clear HI HM2 HA2 HH3 HH4 HH5
          simp only [List.append_eq, List.cons_append, List.nil_append]
          go_big_quiet (fail)
          go_wp2_with fail
          go_roundw
          case rel => exact ⟨k + 1, by go_num, by omega, HT3.out.drewN nq⟩
          case measure => simp [intOf]; omega
        · obtain rfl : k = 64 := by omega
          go_wp2
          go_ret
          exact ⟨rfl, HI.out.below⟩
  all_goals
    have hE : E = 12 := by rw [HEn.out, if_neg (by omega)]
    subst hE
    have hL := HLn.out (by decide)
    subst hL
    try have t : decide (cy + Y + 16 ≤ h) = false := (by simp; omega)
    go_wp2_with fail
    refine (HFi.out _).mono ?_
    rintro e W8 ⟨rfl, hb⟩
    have B8 := Lib.hid (below_chain B7.out (Nat.le_refl _) hb)
    clear hb
    go_wp2
    go_ret
    exact ⟨rfl, B8.out⟩

end Go.Proofs.Ythoklmhaljjjdaa
