/- motion: MotionShared (praxinoscopelaw14), over the record. -/
import Derived.Test.YthoklmhaljjjdaaMLaw4
import Derived.BigQuiet
namespace Go.Proofs.Ythoklmhaljjjdaa
open Go.RowKit Go.Shelf Go.Sort
set_option linter.unusedVariables false

/-- eight to the right: what the block beside it fetches -/
theorem mN_right {f g a b x y : Int} (hc : cE f g a = 0) (hb : b = 1 ∨ b = 3) (k : Nat) : mN f g a (b + 1) (x - 8) y k = mN f g a b x y k := by
  have h1 : pA f g a b = atP (sW f) (sH f) (cX f g a) (cY f g a) b := by unfold pA; rw [if_pos (pE_ok hc (by omega) (by omega))]
  have h2 : pA f g a (b + 1) = atP (sW f) (sH f) (cX f g a) (cY f g a) (b + 1) := by unfold pA; rw [if_pos (pE_ok hc (by omega) (by omega))]
  have w1 : pW f g a b = sW f := by unfold pW; rw [if_pos (pE_ok hc (by omega) (by omega)), if_pos (by omega)]
  have w2 : pW f g a (b + 1) = sW f := by unfold pW; rw [if_pos (pE_ok hc (by omega) (by omega)), if_pos (by omega)]
  unfold mN mX
  rw [h1, h2, w1, w2, if_neg (by omega), if_neg (by omega), if_neg (by omega), if_neg (by omega)]
  generalize sW f = w
  generalize sH f = h
  generalize cX f g a = cx
  generalize cY f g a = cy
  clear h1 h2 w1 w2 hc
  rcases hb with rfl | rfl
  · simp [atP]; omega
  · simp [atP]; omega
theorem mN_down {f g a b x y : Int} (hc : cE f g a = 0) (hb : b = 1 ∨ b = 2) (k : Nat) : mN f g a (b + 2) x (y - 8) k = mN f g a b x y k := by
  have h1 : pA f g a b = atP (sW f) (sH f) (cX f g a) (cY f g a) b := by unfold pA; rw [if_pos (pE_ok hc (by omega) (by omega))]
  have h2 : pA f g a (b + 2) = atP (sW f) (sH f) (cX f g a) (cY f g a) (b + 2) := by unfold pA; rw [if_pos (pE_ok hc (by omega) (by omega))]
  have w1 : pW f g a b = sW f := by unfold pW; rw [if_pos (pE_ok hc (by omega) (by omega)), if_pos (by omega)]
  have w2 : pW f g a (b + 2) = sW f := by unfold pW; rw [if_pos (pE_ok hc (by omega) (by omega)), if_pos (by omega)]
  have hF := sWH_or (cE_F hc)
  unfold mN mX
  rw [h1, h2, w1, w2, if_neg (by omega), if_neg (by omega), if_neg (by omega), if_neg (by omega)]
  generalize sW f = w at *
  generalize sH f = h at *
  generalize cX f g a = cx
  generalize cY f g a = cy
  clear h1 h2 w1 w2 hc
  rcases hF with ⟨rfl, rfl⟩ | ⟨rfl, rfl⟩ <;> rcases hb with rfl | rfl
  all_goals simp [atP]; omega
theorem mL_same {f g a b x y b' x' y' : Int} {zs : List UInt8} (h : mE f g a b x y zs.length = 0) (h' : mE f g a b' x' y' zs.length = 0) (hN : ∀ k, mN f g a b' x' y' k = mN f g a b x y k) : mL f g a b x y zs = mL f g a b' x' y' zs := by
  unfold mL
  rw [if_pos h, if_pos h']
  apply List.map_congr_left
  intro k _
  rw [hN k]

/-- bytes, in this world -/
def BytE (w : World) (v : Value) (L : List UInt8) : Prop := ∃ n, n ≤ w.heap.size ∧ Byt n w v L
theorem BytE.later {w w' : World} {v : Value} {L : List UInt8} (h : BytE w v L) (hb : Below w.heap.size w w') : BytE w' v L := by
  obtain ⟨n, hn, h⟩ := h
  exact ⟨n, Nat.le_trans hn hb.size, h.below (hb.mono hn)⟩
structure ShW (W W4 : World) (bs : Nat) (F G A : Int) (wr : World) : Prop where
  below : Below W.heap.size W wr
  b4 : Below W4.heap.size W4 wr
  at_ : SpotAt wr bs F G A
theorem ShW.later {W W4 : World} {bs : Nat} {F G A : Int} {w w' : World} (h : ShW W W4 bs F G A w) (hb : Below w.heap.size w w') : ShW W W4 bs F G A w' :=
  ⟨below_chain h.below (Nat.le_refl _) hb, below_chain h.b4 (Nat.le_refl _) hb, h.at_.later hb⟩

set_option maxRecDepth 100000 in
set_option maxHeartbeats 4000000 in
theorem shared14_any (I : MotionI) (f g a x y p q : Int) (hp : I64 p) (hq : I64 q) (W : World) :
    Calls Try.prog 7 #[.int .i64 f, .int .i64 g, .int .i64 a, .int .i64 x, .int .i64 y, .int .i64 p, .int .i64 q] W fun e W' => e = .returned (.bool true) ∧ Below W.heap.size W W' := by
  have HK := Lib.hid (fun W => awake14_any I W)
  have HSp := Lib.hid (fun W => kspot_any f g a W)
  have HPx := Lib.hid (fun W => pick_any x 31 W (by omega) (by omega))
  have HPy := Lib.hid (fun W => pick_any y 31 W (by omega) (by omega))
  have HSc := Lib.hid (fun F W => scene14_any F p q hp hq W)
  obtain ⟨xm, hxm, hx0, hx3⟩ : ∃ xm : Int, x % 31 = xm ∧ 0 ≤ xm ∧ xm ≤ 30 := ⟨_, rfl, by omega, by omega⟩
  obtain ⟨ym, hym, hy0, hy3⟩ : ∃ ym : Int, y % 31 = ym ∧ 0 ≤ ym ∧ ym ≤ 30 := ⟨_, rfl, by omega, by omega⟩
  rw [hxm] at HPx
  rw [hym] at HPy
  clear hxm hym hp hq
  have B0 := Lib.hid (Below.refl W.heap.size W)
  go_enter Try.func7, Try.ntmps7
  go_wp2_with fail
  refine (HK.out _).mono ?_
  rintro e W1 ⟨rfl, hb⟩
  have B1 := Lib.hid (below_chain B0.out (Nat.le_refl _) hb)
  clear hb
  go_wp2_with fail
  refine (HSp.out _).mono ?_
  rintro e W2 ⟨F, G, A, hc, hG, hA, rfl, hb⟩
  have B2 := Lib.hid (below_chain B1.out (Nat.le_refl _) hb)
  clear hb HSp HK
  obtain ⟨X, hX⟩ : ∃ X, xm - 15 = X := ⟨_, rfl⟩
  obtain ⟨Y, hY⟩ : ∃ Y, ym - 15 = Y := ⟨_, rfl⟩
  have hX1 : -15 ≤ X ∧ X ≤ 15 := by omega
  have hY1 : -15 ≤ Y ∧ Y ≤ 15 := by omega
  obtain ⟨W3, hW3⟩ : ∃ W3, W2.alloc (.cells #[.int .i64 F, .int .i64 G, .int .i64 A] 23 (0, 0)) = W3 := ⟨_, rfl⟩
  have hb3 : Below W2.heap.size W2 W3 := by rw [← hW3]; exact (Below.refl _ W2).alloc (Nat.le_refl _) _
  have hbx : SpotAt W3 W2.heap.size F G A := ⟨_, by rw [← hW3]; exact World.alloc_heap_new W2 _⟩
  have B3 := Lib.hid (below_chain B2.out (Nat.le_refl _) hb3)
  have HBx := Lib.hid hbx
  clear hb3 hbx
  go_wp2_with fail
  clear hW3
  generalize W2.heap.size = bs at *
  refine (HPx.out _).mono ?_
  rintro e w' ⟨rfl, rfl⟩
  go_wp2_with fail
  refine (HPy.out _).mono ?_
  rintro e w' ⟨rfl, rfl⟩
  obtain ⟨c0, c1, c2⟩ := HBx.out.cells
  go_wp2_with fail
  clear hX hY hx0 hx3 hy0 hy3 HPx HPy
  refine (HSc.out _ _).mono ?_
  rintro e W4 ⟨zs, hzl, rfl, hzs, hb⟩
  have B4 := Lib.hid (below_chain B3.out (Nat.le_refl _) hb)
  have HBx := Lib.hid (HBx.out.later hb)
  have HZ := Lib.hid hzs
  have HZL := Lib.hid hzl
  have hs4 := hb.size
  have hg4 := (Array.getElem?_eq_some_iff.1 hzs).1
  generalize W3.heap.size = gs at *
  have hF := cE_F hc
  have hzl2 : zs.length ≤ 152064 := by rcases hF with rfl | rfl <;> (have : sN _ = _ := hzl.symm; simp [sN] at hzl; omega)
  clear hb hzs hzl c0 c1 c2 HSc
  have HFe : Hid (∀ (b x y : Int) (W : World), (1 ≤ b ∧ b ≤ 6) → (-23 ≤ x ∧ x ≤ 15) → (-23 ≤ y ∧ y ≤ 15) → fE F G A x y = 0 → Below W4.heap.size W4 W →
      Calls Try.prog 12 #[.slice (some ⟨gs, 0, none⟩) zs.length zs.length, spotV F G A, .int .i64 b, .int .i64 x, .int .i64 y] W fun e W' => ∃ la lc, e = .returned (.tuple #[.slice la 64 lc, .int .i64 0]) ∧ BytE W' (.slice la 64 lc) (mL F G A b x y zs) ∧ Below W.heap.size W W') := Lib.hid (fun b x y W h1 h2 h3 h4 hb => by
    have hm : mE F G A b x y zs.length = 0 := by rw [mE_ok hc h1.1 h1.2 HZL.out]; exact h4
    have := I.fetch (W := W) F G A b x y ((scene_byt HZ.out (n₀ := gs + 1) (by omega) zs.length zs.length (Nat.le_refl _) (by omega)).below (hb.mono (by omega))) (by have := hb.size; omega) ⟨_, _, _, rfl, Nat.le_refl _⟩ (by rcases hF with rfl | rfl <;> decide) ⟨by omega, by omega⟩ ⟨by omega, by omega⟩ ⟨by omega, by omega⟩ ⟨by omega, by omega⟩ ⟨by omega, by omega⟩
    rw [List.take_length, hm] at this
    refine this.mono ?_
    rintro e W' ⟨v, rfl, ho, hb⟩
    have hl : (mL F G A b x y zs).length = 64 := by rw [mL_length, if_pos hm]
    have hby := byt_own ho (by omega) (Nat.le_refl _)
    obtain ⟨la, lc, rfl, -, -⟩ := id hby
    rw [hl] at hby ⊢
    exact ⟨la, lc, rfl, ⟨_, Nat.le_refl _, hby⟩, hb⟩)
  have HFi : Hid (∀ (x y : Int) (W : World), (-23 ≤ x ∧ x ≤ 15) → (-23 ≤ y ∧ y ≤ 15) → _) := Lib.hid (fun x y W h1 h2 => I.fits F G A x y W (by rcases hF with rfl | rfl <;> decide) ⟨by omega, by omega⟩ ⟨by omega, by omega⟩ ⟨by omega, by omega⟩ ⟨by omega, by omega⟩)
  have HSm : Hid (∀ (w : World) (u v : Value) (L M : List UInt8), BytE w u L → BytE w v M → L = M → Calls Try.prog 14 #[u, v] w fun e w' => e = .returned (.bool true) ∧ w = w') := Lib.hid (fun w u v L M ⟨n, _, h1⟩ ⟨n', _, h2⟩ h => by
    have := same_any h1 h2
    rw [decide_eq_true h] at this
    exact this)
  have HQr : Hid (∀ b, b = 1 ∨ b = 3 → fE F G A X Y = 0 → fE F G A (X - 8) Y = 0 → mL F G A b X Y zs = mL F G A (b + 1) (X - 8) Y zs) := Lib.hid (fun b hb h h' => mL_same (by rw [mE_ok hc (by omega) (by omega) HZL.out]; exact h) (by rw [mE_ok hc (by omega) (by omega) HZL.out]; exact h') (mN_right hc hb))
  have HQd : Hid (∀ b, b = 1 ∨ b = 2 → fE F G A X Y = 0 → fE F G A X (Y - 8) = 0 → mL F G A b X Y zs = mL F G A (b + 2) X (Y - 8) zs) := Lib.hid (fun b hb h h' => mL_same (by rw [mE_ok hc (by omega) (by omega) HZL.out]; exact h) (by rw [mE_ok hc (by omega) (by omega) HZL.out]; exact h') (mN_down hc hb))
  have HS := Lib.hid (⟨B4.out, Below.refl _ _, HBx.out⟩ : ShW W W4 bs F G A W4)
  clear hc hF HZL
  obtain ⟨c0, c1, c2⟩ := HBx.out.cells
  go_wp2_with fail
  refine (HFi.out _ _ _ (by omega) (by omega)).mono ?_
  rintro e W5 ⟨rfl, hb⟩
  have HS := Lib.hid (HS.out.later hb)
  clear hb c0 c1 c2 HBx B4
  by_cases hE : fE F G A X Y = 0
  · rw [hE]
    go_wp2_with fail
    have HE := Lib.hid hE
    go_loopw [18] (fun bv wr => ∃ b : Nat, bv = .int .i64 (b : Int) ∧ 1 ≤ b ∧ b ≤ 5 ∧ ShW W W4 bs F G A wr) (fun bv _ => 5 - (intOf bv).toNat)
    case atStart => exact ⟨1, rfl, by omega, by omega, HS.out⟩
    case round =>
      obtain ⟨b, rfl, hb1, hb5, hI⟩ := hrel
      have HS := Lib.hid hI
      clear hI
      rcases (show b = 5 ∨ b = 1 ∨ b = 2 ∨ b = 3 ∨ b = 4 by omega) with rfl | rfl | rfl | rfl | rfl
      · go_wp2
        go_ret
        exact ⟨rfl, HS.out.below⟩
      all_goals
        have hR : X < -7 ∨ (-7 ≤ X ∧ ¬ fE F G A (X - 8) Y = 0) ∨ (-7 ≤ X ∧ fE F G A (X - 8) Y = 0) := by omega
        have hD : Y < -7 ∨ (-7 ≤ Y ∧ ¬ fE F G A X (Y - 8) = 0) ∨ (-7 ≤ Y ∧ fE F G A X (Y - 8) = 0) := by omega
        first
          | rw [show ((1 : Nat) : Int) = 1 from rfl]
          | rw [show ((2 : Nat) : Int) = 2 from rfl]
          | rw [show ((3 : Nat) : Int) = 3 from rfl]
          | rw [show ((4 : Nat) : Int) = 4 from rfl]
        obtain ⟨c0, c1, c2⟩ := HS.out.at_.cells
        go_wp2_with fail
        refine (HFe.out _ _ _ _ (by omega) (by omega) (by omega) hE HS.out.b4).mono ?_
        rintro e w5 ⟨la, lc, rfl, hl, hb⟩
        have HS := Lib.hid (HS.out.later hb)
        have HL := Lib.hid hl
        clear hl hb c0 c1 c2
        obtain ⟨c0, c1, c2⟩ := HS.out.at_.cells
      · rcases hR with r | ⟨r, r8⟩ | ⟨r, r8⟩ <;> rcases hD with d | ⟨d, d8⟩ | ⟨d, d8⟩
        all_goals
          try have nR : (fE F G A (X - 8) Y == 0) = false := (by simpa using r8)
          try have nD : (fE F G A X (Y - 8) == 0) = false := (by simpa using d8)
          go_wp2_with (first
            | (go_at_call 15; refine (HFi.out _ _ _ (by omega) (by omega)).mono ?_; rintro e wn ⟨rfl, hb⟩; have HS := Lib.hid (HS.out.later hb); have HL := Lib.hid (HL.out.later hb); clear hb c0 c1 c2; obtain ⟨c0, c1, c2⟩ := HS.out.at_.cells)
            | (go_at_call 12; refine (HFe.out _ _ _ _ (by omega) (by omega) (by omega) (by assumption) HS.out.b4).mono ?_; rintro e wn ⟨lb, lc', rfl, hm, hb⟩; have HM := Lib.hid hm; have HS := Lib.hid (HS.out.later hb); have HL := Lib.hid (HL.out.later hb); clear hm hb c0 c1 c2; obtain ⟨c0, c1, c2⟩ := HS.out.at_.cells)
            | (go_at_call 14; refine (HSm.out _ _ _ _ _ HL.out HM.out (by first | exact HQr.out 1 (by omega) hE (by assumption) | exact HQd.out 1 (by omega) hE (by assumption))).mono ?_; rintro e wn ⟨rfl, rfl⟩))
          go_roundw
          case rel => exact ⟨2, rfl, by omega, by omega, HS.out⟩
          case measure => simp [intOf]
      · rcases hD with r | ⟨r, r8⟩ | ⟨r, r8⟩
        all_goals
          try have nD : (fE F G A X (Y - 8) == 0) = false := (by simpa using r8)
          go_wp2_with (first
            | (go_at_call 15; refine (HFi.out _ _ _ (by omega) (by omega)).mono ?_; rintro e wn ⟨rfl, hb⟩; have HS := Lib.hid (HS.out.later hb); have HL := Lib.hid (HL.out.later hb); clear hb c0 c1 c2; obtain ⟨c0, c1, c2⟩ := HS.out.at_.cells)
            | (go_at_call 12; refine (HFe.out _ _ _ _ (by omega) (by omega) (by omega) (by assumption) HS.out.b4).mono ?_; rintro e wn ⟨lb, lc', rfl, hm, hb⟩; have HM := Lib.hid hm; have HS := Lib.hid (HS.out.later hb); have HL := Lib.hid (HL.out.later hb); clear hm hb c0 c1 c2; obtain ⟨c0, c1, c2⟩ := HS.out.at_.cells)
            | (go_at_call 14; refine (HSm.out _ _ _ _ _ HL.out HM.out (by first | exact HQr.out 2 (by omega) hE (by assumption) | exact HQd.out 2 (by omega) hE (by assumption))).mono ?_; rintro e wn ⟨rfl, rfl⟩))
          go_roundw
          case rel => exact ⟨3, rfl, by omega, by omega, HS.out⟩
          case measure => simp [intOf]
      · rcases hR with r | ⟨r, r8⟩ | ⟨r, r8⟩
        all_goals
          try have nR : (fE F G A (X - 8) Y == 0) = false := (by simpa using r8)
          go_wp2_with (first
            | (go_at_call 15; refine (HFi.out _ _ _ (by omega) (by omega)).mono ?_; rintro e wn ⟨rfl, hb⟩; have HS := Lib.hid (HS.out.later hb); have HL := Lib.hid (HL.out.later hb); clear hb c0 c1 c2; obtain ⟨c0, c1, c2⟩ := HS.out.at_.cells)
            | (go_at_call 12; refine (HFe.out _ _ _ _ (by omega) (by omega) (by omega) (by assumption) HS.out.b4).mono ?_; rintro e wn ⟨lb, lc', rfl, hm, hb⟩; have HM := Lib.hid hm; have HS := Lib.hid (HS.out.later hb); have HL := Lib.hid (HL.out.later hb); clear hm hb c0 c1 c2; obtain ⟨c0, c1, c2⟩ := HS.out.at_.cells)
            | (go_at_call 14; refine (HSm.out _ _ _ _ _ HL.out HM.out (by first | exact HQr.out 3 (by omega) hE (by assumption) | exact HQd.out 3 (by omega) hE (by assumption))).mono ?_; rintro e wn ⟨rfl, rfl⟩))
          go_roundw
          case rel => exact ⟨4, rfl, by omega, by omega, HS.out⟩
          case measure => simp [intOf]
      · go_wp2_with (first
          | (go_at_call 15; refine (HFi.out _ _ _ (by omega) (by omega)).mono ?_; rintro e wn ⟨rfl, hb⟩; have HS := Lib.hid (HS.out.later hb); have HL := Lib.hid (HL.out.later hb); clear hb c0 c1 c2; obtain ⟨c0, c1, c2⟩ := HS.out.at_.cells)
          | (go_at_call 12; refine (HFe.out _ _ _ _ (by omega) (by omega) (by omega) (by assumption) HS.out.b4).mono ?_; rintro e wn ⟨lb, lc', rfl, hm, hb⟩; have HM := Lib.hid hm; have HS := Lib.hid (HS.out.later hb); have HL := Lib.hid (HL.out.later hb); clear hm hb c0 c1 c2; obtain ⟨c0, c1, c2⟩ := HS.out.at_.cells)
          | (go_at_call 14; refine (HSm.out _ _ _ _ _ HL.out HM.out (by first | exact HQr.out 4 (by omega) hE (by assumption) | exact HQd.out 4 (by omega) hE (by assumption))).mono ?_; rintro e wn ⟨rfl, rfl⟩))
        go_roundw
        case rel => exact ⟨5, rfl, by omega, by omega, HS.out⟩
        case measure => simp [intOf]
  · have t : (fE F G A X Y != 0) = true := by simpa using hE
    go_wp2
    go_ret
    exact ⟨rfl, HS.out.below⟩

end Go.Proofs.Ythoklmhaljjjdaa
