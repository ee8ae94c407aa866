/- loop: the walk of LoopBetween (praxinoscopelaw15). -/
import Derived.Test.YtdpnmddjhlkbjaaLLaw4
import Derived.BigQuiet
namespace Go.Proofs.Ytdpnmddjhlkbjaa
open Go.RowKit Go.Shelf Go.Sort
set_option linter.unusedVariables false

theorem sof_near {g : Nat → Int} {lo hi : Int} {i : Nat} (hi8 : i < 8) (h : ∀ j, j < 8 → j ≤ i + 1 → i ≤ j + 1 → lo ≤ g j ∧ g j ≤ hi) : 4 * lo ≤ sof g i ∧ sof g i ≤ 4 * hi := by
  unfold sof
  have b1 := h i hi8 (by omega) (by omega)
  by_cases h0 : i = 0
  · rw [if_pos h0]; rw [h0] at b1; omega
  · by_cases h7 : i = 7
    · rw [if_neg h0, if_pos h7]; rw [h7] at b1; omega
    · rw [if_neg h0, if_neg h7]
      have b0 := h (i - 1) (by omega) (by omega) (by omega)
      have b2 := h (i + 1) (by omega) (by omega) (by omega)
      omega
/-- a sample stays between those that touch it -/
theorem sf2_near {b : Nat → Int} {lo hi : Int} {y x : Nat} (hy : y < 8) (hx : x < 8) (h : ∀ v u, v < 8 → u < 8 → v ≤ y + 1 → y ≤ v + 1 → u ≤ x + 1 → x ≤ u + 1 → lo ≤ b (8 * v + u) ∧ b (8 * v + u) ≤ hi) :
    lo ≤ (sf2 b (8 * y + x) + 8) / 16 ∧ (sf2 b (8 * y + x) + 8) / 16 ≤ hi := by
  have e1 : (8 * y + x) / 8 = y := by omega
  have e2 : (8 * y + x) % 8 = x := by omega
  have := sof_near (g := fun v => sof (fun u => b (8 * v + u)) x) (lo := 4 * lo) (hi := 4 * hi) hy (fun v hv h1 h2 => sof_near hx (fun u hu h3 h4 => h v u hv hu h1 h2 h3 h4))
  unfold sf2
  rw [e1, e2]
  omega
theorem fb_corner {zs : List UInt8} (h : zs.length = 64) {k : Nat} (hk : k = 0 ∨ k = 7 ∨ k = 56 ∨ k = 63) : (fbL zs)[k]?.getD 0 = zs[k]?.getD 0 := by
  have h1 := fbL_get h (show k < 64 by omega)
  have h2 : sf2 (bN zs) k = 16 * bN zs k := by
    rcases hk with rfl | rfl | rfl | rfl
    all_goals
      unfold sf2 sof
      simp
      omega
  rw [h2] at h1
  have h3 : bN (fbL zs) k = bN zs k := by omega
  unfold bN at h3
  exact UInt8.toNat_inj.1 (by omega)

set_option maxRecDepth 100000 in
set_option maxHeartbeats 4000000 in
theorem between15_walk (I : LoopI) {w : World} {a : Option Addr} {len cap : Nat} {zs : List UInt8} (hR : Row8 w.heap.size w a len cap zs) :
    Calls Try.prog 6 #[.slice a len cap] w fun e w' => e = .returned (.bool true) ∧ Below w.heap.size w w' := by
  have HK := Lib.hid (fun W => known15_any I W)
  have hl := hR.1
  subst hl
  by_cases hl1 : 64 < zs.length
  · have q1 : (64 : Int) < (zs.length : Int) := by omega
    clear hR
    go_enter Try.func6, Try.ntmps6
    go_wp2_with (go_at_call 4; refine (HK.out _).mono ?_; rintro e w' ⟨rfl, hb⟩)
    go_ret
    exact ⟨rfl, hb⟩
  · have q1 : decide ((64 : Int) < (zs.length : Int)) = false := by simp; omega
    have HB : Hid (∀ w', Below w.heap.size w w' → Byt w.heap.size w' (.slice a zs.length cap) zs) := fun w' hb => by
      have h := hR.byt (Nat.le_refl _) (k := zs.length) (Nat.le_refl _) (by omega)
      rw [List.take_length] at h
      exact h.below hb
    have HMd := Lib.hid (fun w' (hb : Below w.heap.size w w') => made15_any (HB.out w' hb) hb.size (by omega))
    have hBl : (madeS zs).length = 64 := madeS_length (by omega)
    clear hR
    go_enter Try.func6, Try.ntmps6
    go_wp2_with fail
    refine (HK.out _).mono ?_
    rintro e w1 ⟨rfl, b1⟩
    have B1 := Lib.hid b1
    clear b1
    go_wp2_with fail
    refine (HMd.out w1 B1.out).mono ?_
    rintro e w2 ⟨rfl, hN, b2⟩
    have B2 := Lib.hid (below_chain B1.out (Nat.le_refl _) b2)
    have HF := Lib.hid (I.filter (hN.byt hBl (by omega)) (Nat.le_refl _) ⟨_, _, _, rfl, Nat.le_refl _⟩)
    have hfl : (fbL (madeS zs)).length = 64 := by rw [fbL_length, if_pos hBl]
    rw [hBl, hfl, show fbE 64 = 0 from rfl] at HF
    have HN := Lib.hid hN
    have hgb := hN.lt
    have HCo := Lib.hid (fun k hk => @fb_corner (madeS zs) hBl k hk)
    have HNear : Hid (∀ y x lo hi, y < 8 → x < 8 → (∀ v u, v < 8 → u < 8 → v ≤ y + 1 → y ≤ v + 1 → u ≤ x + 1 → x ≤ u + 1 → lo ≤ bN (madeS zs) (8 * v + u) ∧ bN (madeS zs) (8 * v + u) ≤ hi) → lo ≤ bN (fbL (madeS zs)) (8 * y + x) ∧ bN (fbL (madeS zs)) (8 * y + x) ≤ hi) := fun y x lo hi hy hx h => by
      rw [fbL_get hBl (by omega)]
      exact sf2_near hy hx h
    clear b2 hN
    generalize fbL (madeS zs) = Z at *
    generalize madeS zs = M at *
    go_wp2_with fail
    refine HF.out.mono ?_
    rintro e w3 ⟨v3, rfl, ho, b3⟩
    obtain ⟨av, cv, rfl⟩ := row_form ho
    have hby : Byt w3.heap.size w3 (.slice av 64 cv) Z := byt_own (by rw [hfl]; exact ho) (by omega) (Nat.le_refl _)
    obtain ⟨a', c', e, -, hz⟩ := hby
    rw [hfl] at e
    cases e
    rcases hz with e | ⟨b, off, rfl, hbl, hz⟩
    · rw [e] at hfl; cases hfl
    have B3 := Lib.hid (below_chain B2.out (Nat.le_refl _) b3)
    have HC : Hid (∀ Wr, Below w3.heap.size w3 Wr → ∀ k, k < 64 → Wr.cell? ⟨w1.heap.size, k, none⟩ = some (.int .u8 (M[k]?.getD 0).toNat) ∧ Wr.cell? ⟨b, off + k, none⟩ = some (.int .u8 (Z[k]?.getD 0).toNat)) := fun Wr hb k hk => by
      have hs := b3.size
      exact ⟨((HN.out.below b3 hgb).below hb (by omega)).cell (k := k) (by omega), (hb.cell (p := ⟨b, off + k, none⟩) hbl).trans (hz k (by omega))⟩
    obtain ⟨x0, z0⟩ := HC.out w3 (Below.refl _ _) 0 (by omega)
    obtain ⟨x7, z7⟩ := HC.out w3 (Below.refl _ _) 7 (by omega)
    obtain ⟨x56, z56⟩ := HC.out w3 (Below.refl _ _) 56 (by omega)
    obtain ⟨x63, z63⟩ := HC.out w3 (Below.refl _ _) 63 (by omega)
    rw [HCo.out 0 (by omega), Nat.add_zero] at z0
    rw [HCo.out 7 (by omega)] at z7
    rw [HCo.out 56 (by omega)] at z56
    rw [HCo.out 63 (by omega)] at z63
    clear b3 ho hz HF HN HMd
    go_wp2_with fail
    go_quiet (fail)
    clear x0 x7 x56 x63 z0 z7 z56 z63
    go_wp2_with fail
    go_loopw [7] (fun i wr => ∃ y : Nat, i = .int .i64 (y : Int) ∧ y ≤ 8 ∧ Below w3.heap.size w3 wr) (fun i _ => 8 - (intOf i).toNat)
    case atStart => exact ⟨0, rfl, by omega, (Below.refl _ _).trans (below_drewN _ _ _)⟩
    case round =>
      obtain ⟨y, rfl, hy, hb⟩ := hrel
      have HBy := Lib.hid hb
      clear hb
      by_cases hy2 : y < 8
      · have y0 : (y : Int) < 8 := by omega
        have y1 : (0 : Int) ≤ y := by omega
        obtain ⟨Y0, hY0⟩ : ∃ Y0, Y0 = y - 1 := ⟨_, rfl⟩
        obtain ⟨Y1, hY1⟩ : ∃ Y1, Y1 = min (y + 1) 7 := ⟨_, rfl⟩
        have eY0 : max ((y : Int) - 1) 0 = (Y0 : Int) := by omega
        have eY1 : min ((y : Int) + 1) 7 = (Y1 : Int) := by omega
        have HY0 := Lib.hid hY0
        have HY1 := Lib.hid hY1
        have hY0b : Y0 ≤ 7 := by omega
        have hY1b : Y1 ≤ 7 := by omega
        clear hY0 hY1
        go_wp2_with fail
        go_loopw [8] (fun i wr => ∃ x : Nat, i = .int .i64 (x : Int) ∧ x ≤ 8 ∧ Below w3.heap.size w3 wr) (fun i _ => 8 - (intOf i).toNat)
        case atStart => exact ⟨0, rfl, by omega, HBy.out⟩
        case round =>
          obtain ⟨x, rfl, hx, hb⟩ := hrel
          have HBx := Lib.hid hb
          clear hb
          by_cases hx2 : x < 8
          · have x0 : (x : Int) < 8 := by omega
            have x1 : (0 : Int) ≤ x := by omega
            obtain ⟨X0, hX0⟩ : ∃ X0, X0 = x - 1 := ⟨_, rfl⟩
            obtain ⟨X1, hX1⟩ : ∃ X1, X1 = min (x + 1) 7 := ⟨_, rfl⟩
            have eX0 : max ((x : Int) - 1) 0 = (X0 : Int) := by omega
            have eX1 : min ((x : Int) + 1) 7 = (X1 : Int) := by omega
            have HX0 := Lib.hid hX0
            have HX1 := Lib.hid hX1
            have hX0b : X0 ≤ X1 + 1 := by omega
            have hX1b : X1 ≤ 7 := by omega
            clear hX0 hX1
            obtain ⟨c1, c2⟩ := HC.out _ HBx.out (8 * y + x) (by omega)
            go_wp2_with fail
            go_quiet (fail)
            clear c1 c2
            go_wp2_with fail
            go_loopw [9, 10, 11] (fun lo hi r wr => ∃ (l h : Int) (v : Nat), lo = .int .u8 l ∧ hi = .int .u8 h ∧ r = .int .i64 (v : Int) ∧ v ≤ Y1 + 1 ∧ (0 ≤ l ∧ l ≤ 255 ∧ 0 ≤ h ∧ h ≤ 255) ∧ (∀ v' u', Y0 ≤ v' → v' < v → X0 ≤ u' → u' ≤ X1 → l ≤ bN M (8 * v' + u') ∧ bN M (8 * v' + u') ≤ h) ∧ Below w3.heap.size w3 wr) (fun _ _ r _ => Y1 + 1 - (intOf r).toNat)
            case atStart =>
              have hb := bN_in M (8 * y + x)
              exact ⟨bN M (8 * y + x), bN M (8 * y + x), Y0, rfl, rfl, rfl, by have := HY0.out; have := HY1.out; omega, ⟨hb.1, hb.2, hb.1, hb.2⟩, fun v' u' h1 h2 => by omega, HBx.out.trans (below_drewN _ _ _)⟩
            case round =>
              obtain ⟨l, h, v, rfl, rfl, rfl, hv, ⟨l0, l1, h0, h1⟩, hP, hb⟩ := hrel
              have HP := Lib.hid hP
              have HBv := Lib.hid hb
              clear hP hb
              by_cases hv2 : v ≤ Y1
              · have v0 : (v : Int) ≤ (Y1 : Int) := by omega
                have v1 : (0 : Int) ≤ v := by omega
                have v2 : (v : Int) < 8 := by omega
                go_wp2_with fail
                go_loopg [9, 10, 12] (X1 + 1 - X0) (fun gh lo hi r wy => ∃ (l h : Int) (u : Nat), u + gh = X1 + 1 ∧ X0 ≤ u ∧ lo = .int .u8 l ∧ hi = .int .u8 h ∧ r = .int .i64 (u : Int) ∧ (0 ≤ l ∧ l ≤ 255 ∧ 0 ≤ h ∧ h ≤ 255) ∧ (∀ v' u', Y0 ≤ v' → (v' < v ∨ v' = v ∧ u' < u) → X0 ≤ u' → u' ≤ X1 → l ≤ bN M (8 * v' + u') ∧ bN M (8 * v' + u') ≤ h) ∧ Below w3.heap.size w3 wy)
                case atStart => exact ⟨l, h, X0, by omega, Nat.le_refl _, rfl, rfl, rfl, ⟨l0, l1, h0, h1⟩, fun v' u' p1 p2 p3 p4 => HP.out v' u' p1 (by omega) p3 p4, HBv.out⟩
                case round =>
                  obtain ⟨l, h, u, hg, hu, rfl, rfl, rfl, ⟨l0, l1, h0, h1⟩, hP, hb⟩ := hrel
                  have HPu := Lib.hid hP
                  have HBu := Lib.hid hb
                  clear hP hb
                  cases gk with
                  | zero =>
                    have hue : u = X1 + 1 := by omega
                    have u0 : ¬ ((u : Int) ≤ (X1 : Int)) := by omega
                    go_wp2_with fail
                    exact ⟨⟨l, h, v + 1, rfl, rfl, by go_num, by omega, ⟨l0, l1, h0, h1⟩, fun v' u' p1 p2 p3 p4 => HPu.out v' u' p1 (by omega) p3 p4, HBu.out⟩, by simp [intOf]; omega⟩
                  | succ gh =>
                    have u0 : (u : Int) ≤ (X1 : Int) := by omega
                    have u1 : (0 : Int) ≤ u := by omega
                    have u2 : (u : Int) < 8 := by omega
                    have HE := Lib.hid (show u + 1 + gh = X1 + 1 by omega)
                    obtain ⟨c1, c2⟩ := HC.out _ HBu.out (8 * v + u) (by omega)
                    have hz := bN_in M (8 * v + u)
                    have HZ : Hid (bN M (8 * v + u) = (((M[8 * v + u]?.getD 0).toNat : Nat) : Int)) := rfl
                    obtain ⟨z, hz'⟩ : ∃ z : Int, bN M (8 * v + u) = z := ⟨_, rfl⟩
                    have hz2 : (((M[8 * v + u]?.getD 0).toNat : Nat) : Int) = z := hz'
                    rw [hz2] at c1
                    rw [hz'] at hz
                    have HZ' := Lib.hid hz'
                    clear hz' hz2 c2 HZ hg
                    go_wp2_with fail
                    go_roundg gh
                    case measure => omega
                    case rel =>
                      refine ⟨min l z, max h z, u + 1, HE.out, by omega, rfl, rfl, by go_num, by omega, fun v' u' p1 p2 p3 p4 => ?_, HBu.out⟩
                      by_cases e : v' = v ∧ u' = u
                      · rw [e.1, e.2, HZ'.out]; omega
                      · have := HPu.out v' u' p1 (by omega) p3 p4
                        omega
              · obtain rfl : v = Y1 + 1 := by omega
                have v0 : ¬ (((Y1 + 1 : Nat) : Int) ≤ (Y1 : Int)) := by omega
                have hnear := HNear.out y x l h hy2 hx2 (fun v u hv hu p1 p2 p3 p4 => HP.out v u (by have := HY0.out; omega) (by have := HY1.out; omega) (by have := HX0.out; omega) (by have := HX1.out; omega))
                obtain ⟨c1, c2⟩ := HC.out _ HBv.out (8 * y + x) (by omega)
                obtain ⟨z, hz'⟩ : ∃ z : Int, bN Z (8 * y + x) = z := ⟨_, rfl⟩
                have hz2 : (((Z[8 * y + x]?.getD 0).toNat : Nat) : Int) = z := hz'
                rw [hz'] at hnear
                rw [hz2] at c2
                have d1 : decide (z < l) = false := by simp; omega
                have d2 : decide (h < z) = false := by simp; omega
                clear hz' hz2 c1 hnear
                go_wp2_with fail
                exact ⟨⟨x + 1, by go_num, by omega, HBv.out⟩, by simp [intOf]; omega⟩
          · obtain rfl : x = 8 := by omega
            go_wp2_with fail
            go_roundw
            case rel => exact ⟨y + 1, by go_num, by omega, HBx.out⟩
            case measure => simp [intOf]; omega
      · obtain rfl : y = 8 := by omega
        go_wp2_with fail
        go_ret
        exact ⟨rfl, below_chain B3.out (Nat.le_refl _) HBy.out⟩

end Go.Proofs.Ytdpnmddjhlkbjaa
