/- The walk of CosineTurned (praxinoscopelaw11). -/
import Derived.Test.YtpmdeoiajnfabaaCLaw5
import Derived.Lib.MinMax
namespace Go.Proofs.Ytpmdeoiajnfabaa
open Go.RowKit Go.Shelf
set_option linter.unusedVariables false

/-- numbers from -2,047 on, so many of them -/
def mxP (P : List Int) (i : Nat) : List Int := ofC 64 fun j => if j < i then max (nthC P j) (-2047) else nthC P j
theorem mxP_length (P : List Int) (i : Nat) : (mxP P i).length = 64 := ofC_length _ _
theorem mxP_zero {P : List Int} (h : P.length = 64) : mxP P 0 = P := listC_ext (mxP_length _ _) h (fun j hj => by unfold mxP; rw [ofC_get hj, if_neg (by omega)])
theorem mxP_at (P : List Int) {i : Nat} (hi : i < 64) : nthC (mxP P i) i = nthC P i := by unfold mxP; rw [ofC_get hi, if_neg (by omega)]
theorem mxP_step (P : List Int) {i : Nat} (hi : i < 64) : (mxP P i).set i (max (nthC P i) (-2047)) = mxP P (i + 1) := by
  unfold mxP
  rw [ofC_set hi]
  apply ofC_congr
  intro j hj
  by_cases h : j = i
  · rw [if_pos h, if_pos (by omega), h]
  · rw [if_neg h]
    by_cases h2 : j < i
    · rw [if_pos h2, if_pos (by omega)]
    · rw [if_neg h2, if_neg (by omega)]
theorem mxP_in {P : List Int} (h : ∀ j, -2048 ≤ nthC P j ∧ nthC P j ≤ 2047) (j : Nat) : -2047 ≤ nthC (mxP P 64) j ∧ nthC (mxP P 64) j ≤ 2047 := by
  unfold mxP
  by_cases hj : j < 64
  · rw [ofC_get hj, if_pos hj]
    have := h j
    omega
  · rw [ofC_out (by omega)]
    omega
/-- so many places, filled -/
def fillG (f : Nat → Int) (i : Nat) : List Int := ofC 64 fun j => if j < i then f j else 0
theorem fillG_length (f : Nat → Int) (i : Nat) : (fillG f i).length = 64 := ofC_length _ _
theorem fillG_zero (f : Nat → Int) : fillG f 0 = zeros64 := listC_ext (fillG_length _ _) rfl (fun j hj => by unfold fillG; rw [ofC_get hj, if_neg (by omega)]; unfold nthC zeros64; rw [List.getElem?_replicate, if_pos hj]; rfl)
theorem fillG_all (f : Nat → Int) : fillG f 64 = ofC 64 f := by
  unfold fillG
  apply ofC_congr
  intro j hj
  rw [if_pos hj]
theorem fillG_step (f : Nat → Int) {i : Nat} (hi : i < 64) : (fillG f i).set i (f i) = fillG f (i + 1) := by
  unfold fillG
  rw [ofC_set hi]
  apply ofC_congr
  intro j hj
  by_cases h : j = i
  · rw [if_pos h, if_pos (by omega), h]
  · rw [if_neg h]
    by_cases h2 : j < i
    · rw [if_pos h2, if_pos (by omega)]
    · rw [if_neg h2, if_neg (by omega)]

theorem SumW.otherC {w1 W : World} {g1 g2 g3 : Nat} {p q s : List Int} (h : SumW w1 g1 g2 g3 p q s W) {gb : Nat} (hb : w1.heap.size ≤ gb) (h1 : g1 ≠ gb) (h2 : g2 ≠ gb) (h3 : g3 ≠ gb) (k : Nat) (v : Value) : SumW w1 g1 g2 g3 p q s (W.setCell ⟨gb, k, none⟩ v) :=
  ⟨h.below.setCell (p := ⟨gb, k, none⟩) hb _, h.n1.other (p := ⟨gb, k, none⟩) h1 _, h.n2.other (p := ⟨gb, k, none⟩) h2 _, h.n3.other (p := ⟨gb, k, none⟩) h3 _⟩
theorem ixT1 {k : Nat} (hk : k < 64) : IntKind.i64.wrap (IntKind.i64.wrap ((k : Int).tmod 8 * 8) + IntKind.i64.wrap ((k : Int) / 8)) = ((k % 8 * 8 + k / 8 : Nat) : Int) := by
  rw [Int.tmod_eq_emod_of_nonneg (by omega), wrapC (x := (k : Int) % 8 * 8) (by omega) (by omega), wrapC (x := (k : Int) / 8) (by omega) (by omega), wrapC (by omega) (by omega)]
  omega
theorem ixT2 {k : Nat} (hk : k < 64) : IntKind.i64.wrap (IntKind.i64.wrap (IntKind.i64.wrap (IntKind.i64.wrap ((k : Int) / 8) * 8) + 7) - (k : Int).tmod 8) = ((k / 8 * 8 + 7 - k % 8 : Nat) : Int) := by
  rw [Int.tmod_eq_emod_of_nonneg (by omega), wrapC (x := (k : Int) / 8) (by omega) (by omega), wrapC (x := (k : Int) / 8 * 8) (by omega) (by omega), wrapC (x := (k : Int) / 8 * 8 + 7) (by omega) (by omega), wrapC (by omega) (by omega)]
  omega
theorem ixT3 {k : Nat} (hk : k < 64) : IntKind.i64.wrap (IntKind.i64.wrap (IntKind.i64.wrap (7 - IntKind.i64.wrap ((k : Int) / 8)) * 8) + (k : Int).tmod 8) = (((7 - k / 8) * 8 + k % 8 : Nat) : Int) := by
  rw [Int.tmod_eq_emod_of_nonneg (by omega), wrapC (x := (k : Int) / 8) (by omega) (by omega), wrapC (x := 7 - (k : Int) / 8) (by omega) (by omega), wrapC (x := (7 - (k : Int) / 8) * 8) (by omega) (by omega), wrapC (by omega) (by omega)]
  omega
/-- turned, mirrored -/
def trnF (B : List Int) (j : Nat) : Int := nthC B (j % 8 * 8 + j / 8)
def acrF (B : List Int) (j : Nat) : Int := nthC B j * (1 - 2 * ((j % 2 : Nat) : Int))
def dwnF (B : List Int) (j : Nat) : Int := nthC B j * (1 - 2 * ((j / 8 % 2 : Nat) : Int))
theorem acrF_eq (B : List Int) (k : Nat) : acrF B k = nthC B k * (1 - 2 * ((k : Int) % 2)) := by unfold acrF; rw [show ((k % 2 : Nat) : Int) = (k : Int) % 2 by omega]
theorem dwnF_eq (B : List Int) (k : Nat) : dwnF B k = nthC B k * (1 - 2 * ((k : Int) / 8 % 2)) := by unfold dwnF; rw [show ((k / 8 % 2 : Nat) : Int) = (k : Int) / 8 % 2 by omega]
theorem pm_in {x m : Int} (hx : -2047 ≤ x ∧ x ≤ 2047) (hm : m = 0 ∨ m = 1) : -2047 ≤ x * (1 - 2 * m) ∧ x * (1 - 2 * m) ≤ 2047 := by
  rcases hm with rfl | rfl <;> omega
theorem trnF_in {B : List Int} (h : ∀ j, -2047 ≤ nthC B j ∧ nthC B j ≤ 2047) (j : Nat) : -2048 ≤ nthC (ofC 64 (trnF B)) j ∧ nthC (ofC 64 (trnF B)) j ≤ 2047 := by
  by_cases hj : j < 64
  · rw [ofC_get hj]; have := h (j % 8 * 8 + j / 8); unfold trnF; omega
  · rw [ofC_out (by omega)]; omega
theorem acrF_in {B : List Int} (h : ∀ j, -2047 ≤ nthC B j ∧ nthC B j ≤ 2047) (j : Nat) : -2048 ≤ nthC (ofC 64 (acrF B)) j ∧ nthC (ofC 64 (acrF B)) j ≤ 2047 := by
  by_cases hj : j < 64
  · rw [ofC_get hj]; have := pm_in (h j) (m := ((j % 2 : Nat) : Int)) (by omega); unfold acrF; omega
  · rw [ofC_out (by omega)]; omega
theorem dwnF_in {B : List Int} (h : ∀ j, -2047 ≤ nthC B j ∧ nthC B j ≤ 2047) (j : Nat) : -2048 ≤ nthC (ofC 64 (dwnF B)) j ∧ nthC (ofC 64 (dwnF B)) j ≤ 2047 := by
  by_cases hj : j < 64
  · rw [ofC_get hj]; have := pm_in (h j) (m := ((j / 8 % 2 : Nat) : Int)) (by omega); unfold dwnF; omega
  · rw [ofC_out (by omega)]; omega
/-- what has come up of the statement that lays them -/
def TrnI (w2 : World) (a : Option Addr) (len cap g0 : Nat) (L : Nat → Bool) (act : Act) (W : World) : Prop :=
  ∃ x5 x6 x7 x26 x27 x28, act = { tmps := #[.slice a len cap, undef, .bool false, .bool true, .slice (some ⟨g0, 0, none⟩) 64 64, x5, x6, x7, undef, undef, undef, undef, undef, undef, undef, undef, undef, undef, undef, .bool true, .slice a len cap, .int .i64 len, .bool false, undef, .slice a len cap, .slice (some ⟨g0, 0, none⟩) 64 64, x26, x27, x28, undef, undef, undef, undef, undef, undef, undef, undef, undef, undef, undef, undef, undef, undef, undef, undef, undef, undef, undef, undef, undef, undef, undef, undef, undef, undef, undef, undef, undef, undef, undef, undef, undef, undef, undef, undef, undef, undef, undef, undef, undef, undef, undef, undef, undef, undef, undef, undef, undef, undef, undef, undef, undef, undef, undef, undef, undef, undef, undef, undef, undef, undef, undef, undef, undef, undef, undef, undef, undef, undef, undef, undef, undef, undef, undef, undef, undef, undef, undef, undef, undef, undef, undef, undef, undef, undef, undef, undef, undef, undef, undef, undef, undef, undef, undef, undef, undef, undef, undef, undef, undef, undef, undef, undef, undef, undef, undef, undef, undef, undef, undef, undef, undef, undef, undef, undef, undef, undef, undef, undef, undef, undef, undef, undef, undef, undef, undef, undef, undef, undef, undef, undef, undef, undef, undef, undef, undef, undef, undef, undef, undef, undef, undef, undef, undef, undef, undef, undef, undef, undef, undef, undef, undef, undef, undef, undef, undef, undef, undef, undef], defers := [] } ∧
    Mk3 w2 L 0 1 2 x26 x27 x28 zeros64 zeros64 zeros64 W ∧ (L 3 = true → x5 = x26) ∧ (L 4 = true → x6 = x27) ∧ (L 5 = true → x7 = x28)

set_option maxRecDepth 100000 in
set_option maxHeartbeats 4000000 in
theorem cosineTurned_walk {w : World} {a : Option Addr} {len cap : Nat} {xs : List Int} (hR : RowV w.heap.size w a len cap (intV xs)) :
    Calls Try.prog 7 #[.slice a len cap] w fun e w' => e = .returned (.bool true) ∧ Below w.heap.size w w' := by
  have HK := Lib.hid (known11_any w)
  by_cases hlen : 64 < len
  · have q1 : (64 : Int) < (len : Int) := by omega
    clear hR
    go_enter Try.func7, Try.ntmps7
    go_wp2_with fail
    refine HK.out.mono ?_
    rintro e w1 ⟨rfl, b1⟩
    go_wp2_with fail
    go_ret
    exact ⟨rfl, b1⟩
  · have q1 : decide ((64 : Int) < (len : Int)) = false := by simp; omega
    have HRB := Lib.hid (fun w' (hb : Below w.heap.size w w') => hR.below hb)
    clear hR
    go_enter Try.func7, Try.ntmps7
    go_wp2_with fail
    refine HK.out.mono ?_
    rintro e w1 ⟨rfl, b1⟩
    have B1 := Lib.hid b1
    have hs1 := b1.size
    clear b1 HK
    have HMd := Lib.hid (made11_any (HRB.out w1 B1.out) hs1 (by omega))
    have hP := madeC_in xs
    have hPl := madeC_length xs
    generalize madeC xs = P at *
    go_wp2_with fail
    refine HMd.out.mono ?_
    rintro e w2 ⟨rfl, hN, b2⟩
    have HN2 := Lib.hid hN
    have hl2 := hN.lt
    have B2 := Lib.hid b2
    clear hN b2 HMd HRB
    have hmk := made64
    go_wp2_with fail
    refine wp_region_inv (by kernel_rfl) (by kernel_rfl) (by kernel_rfl) (TrnI w2 a len cap w1.heap.size) ?h0 ?st ?hd
    case h0 =>
      intro L hL
      have e : ∀ i, ¬ L i = true := fun i h => by rw [hL i] at h; cases h
      exact ⟨undef, undef, undef, undef, undef, undef, rfl, Mk3.start hL _ _ _, fun h => (e _ h).elim, fun h => (e _ h).elim, fun h => (e _ h).elim⟩
    case st =>
      refine ⟨?o0, ?o1, ?o2, ?o3, ?o4, ?o5, trivial⟩
      case o0 =>
        rintro L act W hL hbe hcl ⟨x5, x6, x7, x26, x27, x28, rfl, hM, h3, h4, h5⟩
        have hk : L 3 = false := by
          rw [Bool.eq_false_iff]; intro h
          have := hcl 3 _ rfl h { on := 0, ground := .data } (by simp) rfl
          rw [hL] at this; cases this
        have HK := Lib.hid hk
        clear hk
        have HM := Lib.hid hM
        have H3 := Lib.hid h3
        have H4 := Lib.hid h4
        have H5 := Lib.hid h5
        clear hM h3 h4 h5 hcl hbe
        go_simp
        exact ⟨x5, x6, x7, _, x27, x28, rfl, HM.out.new1 (by decide) (by decide) (ints64_new W 3 zeros64) (numsAt_new _ _ _), fun h => absurd (show L 3 = true from h) (by simp [HK.out]), H4.out, H5.out⟩
      case o1 =>
        rintro L act W hL hbe hcl ⟨x5, x6, x7, x26, x27, x28, rfl, hM, h3, h4, h5⟩
        have hk : L 4 = false := by
          rw [Bool.eq_false_iff]; intro h
          have := hcl 4 _ rfl h { on := 1, ground := .data } (by simp) rfl
          rw [hL] at this; cases this
        have HK := Lib.hid hk
        clear hk
        have HM := Lib.hid hM
        have H3 := Lib.hid h3
        have H4 := Lib.hid h4
        have H5 := Lib.hid h5
        clear hM h3 h4 h5 hcl hbe
        go_simp
        exact ⟨x5, x6, x7, x26, _, x28, rfl, HM.out.new2 (by decide) (by decide) (ints64_new W 3 zeros64) (numsAt_new _ _ _), H3.out, fun h => absurd (show L 4 = true from h) (by simp [HK.out]), H5.out⟩
      case o2 =>
        rintro L act W hL hbe hcl ⟨x5, x6, x7, x26, x27, x28, rfl, hM, h3, h4, h5⟩
        have hk : L 5 = false := by
          rw [Bool.eq_false_iff]; intro h
          have := hcl 5 _ rfl h { on := 2, ground := .data } (by simp) rfl
          rw [hL] at this; cases this
        have HK := Lib.hid hk
        clear hk
        have HM := Lib.hid hM
        have H3 := Lib.hid h3
        have H4 := Lib.hid h4
        have H5 := Lib.hid h5
        clear hM h3 h4 h5 hcl hbe
        go_simp
        exact ⟨x5, x6, x7, x26, x27, _, rfl, HM.out.new3 (by decide) (by decide) (ints64_new W 3 zeros64) (numsAt_new _ _ _), H3.out, H4.out, fun h => absurd (show L 5 = true from h) (by simp [HK.out])⟩
      case o3 =>
        rintro L act W hL hbe hcl ⟨x5, x6, x7, x26, x27, x28, rfl, hM, h3, h4, h5⟩
        have HM := Lib.hid hM
        have H3 := Lib.hid h3
        have H4 := Lib.hid h4
        have H5 := Lib.hid h5
        clear hM h3 h4 h5 hcl hbe
        go_simp
        exact ⟨_, x6, x7, x26, x27, x28, rfl, HM.out.skip 3 (by decide) (by decide) (by decide), fun _ => rfl, H4.out, H5.out⟩
      case o4 =>
        rintro L act W hL hbe hcl ⟨x5, x6, x7, x26, x27, x28, rfl, hM, h3, h4, h5⟩
        have HM := Lib.hid hM
        have H3 := Lib.hid h3
        have H4 := Lib.hid h4
        have H5 := Lib.hid h5
        clear hM h3 h4 h5 hcl hbe
        go_simp
        exact ⟨x5, _, x7, x26, x27, x28, rfl, HM.out.skip 4 (by decide) (by decide) (by decide), H3.out, fun _ => rfl, H5.out⟩
      case o5 =>
        rintro L act W hL hbe hcl ⟨x5, x6, x7, x26, x27, x28, rfl, hM, h3, h4, h5⟩
        have HM := Lib.hid hM
        have H3 := Lib.hid h3
        have H4 := Lib.hid h4
        have H5 := Lib.hid h5
        clear hM h3 h4 h5 hcl hbe
        go_simp
        exact ⟨x5, x6, _, x26, x27, x28, rfl, HM.out.skip 5 (by decide) (by decide) (by decide), H3.out, H4.out, fun _ => rfl⟩
    case hd =>
      rintro L act W0 hL ⟨x5, x6, x7, x26, x27, x28, rfl, hM, h3, h4, h5⟩
      have hL : ∀ i, i < 6 → L i = true := hL
      obtain ⟨g1, g2, g3, rfl, rfl, rfl, hN1, hN2, hN3, l1, l2, l3, n12, n13, n23⟩ := hM.all (hL 0 (by omega)) (hL 1 (by omega)) (hL 2 (by omega))
      obtain rfl := h3 (hL 3 (by omega))
      obtain rfl := h4 (hL 4 (by omega))
      obtain rfl := h5 (hL 5 (by omega))
      have HNb := Lib.hid (show NumsAt W0 w1.heap.size 3 (mxP P 0) by rw [mxP_zero hPl]; exact HN2.out.below hM.below hl2)
      have HS0 := Lib.hid (show SumW w1 g1 g2 g3 zeros64 zeros64 zeros64 W0 from ⟨B2.out.trans (hM.below.mono B2.out.size), hN1, hN2, hN3⟩)
      have HP := Lib.hid hP
      have l1' : w1.heap.size ≤ g1 := by omega
      have l2' : w1.heap.size ≤ g2 := by omega
      have l3' : w1.heap.size ≤ g3 := by omega
      have m1 : g1 ≠ w1.heap.size := by omega
      have m2 : g2 ≠ w1.heap.size := by omega
      have m3 : g3 ≠ w1.heap.size := by omega
      have n21 := n12.symm
      have n31 := n13.symm
      have n32 := n23.symm
      have m1' := m1.symm
      have m2' := m2.symm
      have m3' := m3.symm
      clear hM hN1 hN2 hN3 h3 h4 h5 hL hmk hP HN2 B2
      generalize hgb : w1.heap.size = gb at *
      have hgb' : w1.heap.size ≤ gb := by omega
      have j1 : w1.heap.size ≤ g1 := by omega
      have j2 : w1.heap.size ≤ g2 := by omega
      have j3 : w1.heap.size ≤ g3 := by omega
      clear hgb l1' l2' l3' l1 l2 l3
      go_wp2_with fail
      go_loopw [8] (fun i wr => ∃ k : Nat, i = .int .i64 k ∧ k ≤ 64 ∧ NumsAt wr gb 3 (mxP P k) ∧ SumW w1 g1 g2 g3 zeros64 zeros64 zeros64 wr) (fun i _ => 64 - (intOf i).toNat)
      case atStart => exact ⟨0, rfl, by omega, HNb.out, HS0.out⟩
      case round =>
        obtain ⟨k, rfl, hk, hN, hS⟩ := hrel
        have HN := Lib.hid hN
        have HS := Lib.hid hS
        clear hN hS
        by_cases hk2 : k < 64
        · have z1 : (k : Int) < 64 := by omega
          have c1 := HN.out.cell (k := k) (by rw [mxP_length]; omega)
          rw [show (mxP P k)[k]?.getD 0 = nthC (mxP P k) k from rfl, mxP_at P hk2] at c1
          have f1 := HN.out.frozen k
          have HSt := Lib.hid (mxP_step P hk2)
          generalize nthC P k = x at *
          go_wp2_with fail
          go_roundw
          case rel => exact ⟨k + 1, by go_num, by omega, by rw [← HSt.out]; exact HN.out.set k _, HS.out.otherC hgb' m1 m2 m3 k _⟩
          case measure => simp [intOf]; omega
        · obtain rfl : k = 64 := by omega
          have hin := mxP_in HP.out
          have hBl := mxP_length P 64
          generalize mxP P 64 = B at *
          have HIn := Lib.hid hin
          have HS1 := Lib.hid (show SumW w1 g1 g2 g3 (fillG (trnF B) 0) (fillG (acrF B) 0) (fillG (dwnF B) 0) wr by rw [fillG_zero, fillG_zero, fillG_zero]; exact HS.out)
          clear hin HS HNb HS0 HP
          go_wp2_with fail
          go_loopw [9] (fun i ws => ∃ k : Nat, i = .int .i64 k ∧ k ≤ 64 ∧ NumsAt ws gb 3 B ∧ SumW w1 g1 g2 g3 (fillG (trnF B) k) (fillG (acrF B) k) (fillG (dwnF B) k) ws) (fun i _ => 64 - (intOf i).toNat)
          case atStart => exact ⟨0, rfl, by omega, HN.out, HS1.out⟩
          case round =>
            obtain ⟨k, rfl, hk3, hN, hS⟩ := hrel
            have HM := Lib.hid hN
            have HS2 := Lib.hid hS
            clear hN hS
            by_cases hk2 : k < 64
            · have z1 : (k : Int) < 64 := by omega
              have z0 : (0 : Int) ≤ k := by omega
              have c1 := HM.out.cell (k := k % 8 * 8 + k / 8) (by omega)
              have c2 := HM.out.cell (k := k) (by omega)
              change wr.cell? _ = some (.int .i64 (trnF B k)) at c1
              change wr.cell? _ = some (.int .i64 (nthC B k)) at c2
              have a1 := HS2.out.n1.cell (k := k) (by rw [fillG_length]; omega)
              have a2 := HS2.out.n2.cell (k := k) (by rw [fillG_length]; omega)
              have a3 := HS2.out.n3.cell (k := k) (by rw [fillG_length]; omega)
              have f1 := HS2.out.n1.frozen k
              have f2 := HS2.out.n2.frozen k
              have f3 := HS2.out.n3.frozen k
              have HT1 := Lib.hid (fillG_step (trnF B) hk2)
              have HT2 := Lib.hid (fillG_step (acrF B) hk2)
              have HT3 := Lib.hid (fillG_step (dwnF B) hk2)
              obtain ⟨p1, p2⟩ := pm_in (HIn.out k) (m := (k : Int) % 2) (by omega)
              obtain ⟨p3, p4⟩ := pm_in (HIn.out k) (m := (k : Int) / 8 % 2) (by omega)
              rw [acrF_eq] at HT2
              rw [dwnF_eq] at HT3
              have l1 : k % 8 * 8 + k / 8 < 64 := by omega
              have l2 : (k : Int) % 8 * 8 + (k : Int) / 8 = ((k % 8 * 8 + k / 8 : Nat) : Int) := by omega
              generalize k % 8 * 8 + k / 8 = J at *
              generalize nthC B k = x at *
              generalize trnF B k = y at *
              go_wp2_with fail
              go_roundw
              case rel => exact ⟨k + 1, by go_num, by omega, ((HM.out.other (p := ⟨g1, k, none⟩) m1' _).other (p := ⟨g2, k, none⟩) m2' _).other (p := ⟨g3, k, none⟩) m3' _, by rw [← HT1.out, ← HT2.out, ← HT3.out]; exact ((HS2.out.set1 j1 n12 n13 k _).set2 j2 n12 n23 k _).set3 j3 n13 n23 k _⟩
              case measure => simp [intOf]; omega
            · obtain rfl : k = 64 := by omega
              have hN1 := HS2.out.n1
              have hN2 := HS2.out.n2
              have hN3 := HS2.out.n3
              rw [fillG_all] at hN1 hN2 hN3
              have hi1 := trnF_in HIn.out
              have hi2 := acrF_in HIn.out
              have hi3 := dwnF_in HIn.out
              have k0 := HM.out.lt
              have k1 := hN1.lt
              have k2 := hN2.lt
              have k3 := hN3.lt
              have HBw := Lib.hid HS2.out.below
              have hsw := HS2.out.below.size
              have HI0 := Lib.hid (invC HM.out hBl (fun j => by have := HIn.out j; omega))
              have HI1 : Hid (∀ w', Below wr.heap.size wr w' → _) := Lib.hid (fun w' hb => invC (hN1.below hb k1) (ofC_length _ _) hi1)
              have HI2 : Hid (∀ w', Below wr.heap.size wr w' → _) := Lib.hid (fun w' hb => invC (hN2.below hb k2) (ofC_length _ _) hi2)
              have HI3 : Hid (∀ w', Below wr.heap.size wr w' → _) := Lib.hid (fun w' hb => invC (hN3.below hb k3) (ofC_length _ _) hi3)
              have HQ1 : Hid (∀ k, k < 64 → invS (ofC 64 (trnF B)) k = invS B (k % 8 * 8 + k / 8)) := fun k hk => invS_turned B hk
              have HQ2 : Hid (∀ k, k < 64 → invS (ofC 64 (acrF B)) k = invS B (k / 8 * 8 + 7 - k % 8)) := fun k hk => invS_across B hk
              have HQ3 : Hid (∀ k, k < 64 → invS (ofC 64 (dwnF B)) k = invS B ((7 - k / 8) * 8 + k % 8)) := fun k hk => invS_down B hk
              clear hN1 hN2 hN3 hi1 hi2 hi3 HM HS2 HS1 HN HIn
              generalize ofC 64 (trnF B) = BL1 at *
              generalize ofC 64 (acrF B) = BL2 at *
              generalize ofC 64 (dwnF B) = BL3 at *
              go_wp2_with fail
              refine HI0.out.mono ?_
              rintro e w3 ⟨r0, e0, rfl, a0, b0, hc0, hb3⟩
              have HC0 := Lib.hid hc0
              have HB3 := Lib.hid hb3
              have hs3 := hb3.size
              clear hc0 hb3
              go_wp2_with fail
              refine (HI1.out w3 HB3.out).mono ?_
              rintro e w4 ⟨r1, e1, rfl, a1, b1, hc1, hb4⟩
              have HC1 := Lib.hid hc1
              have HC0b := Lib.hid (cells_below hb4 b0 HC0.out)
              have HB4 := Lib.hid (HB3.out.trans (hb4.mono hs3))
              have hs4 := hb4.size
              clear hc1 hb4 HC0
              go_wp2_with fail
              refine (HI2.out w4 HB4.out).mono ?_
              rintro e w5 ⟨r2, e2, rfl, a2, b2, hc2, hb5⟩
              have HC2 := Lib.hid hc2
              have HC0c := Lib.hid (cells_below hb5 (by omega) HC0b.out)
              have HC1b := Lib.hid (cells_below hb5 b1 HC1.out)
              have HB5 := Lib.hid (HB4.out.trans (hb5.mono (by omega)))
              have hs5 := hb5.size
              clear hc2 hb5 HC0b HC1
              go_wp2_with fail
              refine (HI3.out w5 HB5.out).mono ?_
              rintro e w6 ⟨r3, e3, rfl, a3, b3, hc3, hb6⟩
              have HC3 := Lib.hid hc3
              have HC0d := Lib.hid (cells_below hb6 (by omega) HC0c.out)
              have HC1c := Lib.hid (cells_below hb6 (by omega) HC1b.out)
              have HC2b := Lib.hid (cells_below hb6 b2 HC2.out)
              have HB6 := Lib.hid (HB5.out.trans (hb6.mono (by omega)))
              have hs6 := hb6.size
              clear hc3 hb6 HC0c HC1b HC2 HI0 HI1 HI2 HI3
              go_wp2_with fail
              go_loopw [18] (fun i wr => ∃ k : Nat, i = .int .i64 k ∧ k ≤ 64 ∧ Below w6.heap.size w6 wr) (fun i _ => 64 - (intOf i).toNat)
              case atStart => exact ⟨0, rfl, by omega, Below.refl _ _⟩
              case round =>
                obtain ⟨k, rfl, hk, hbk⟩ := hrel
                have HBk := Lib.hid hbk
                clear hbk
                by_cases hk2 : k < 64
                · have z1 : (k : Int) < 64 := by omega
                  have z0 : (0 : Int) ≤ k := by omega
                  have x1 := (HBk.out.cell (p := ⟨r1, k, none⟩) (by simp; omega)).trans (HC1c.out k hk2)
                  have x2 := (HBk.out.cell (p := ⟨r2, k, none⟩) (by simp; omega)).trans (HC2b.out k hk2)
                  have x3 := (HBk.out.cell (p := ⟨r3, k, none⟩) (by simp; omega)).trans (HC3.out k hk2)
                  have y1 := (HBk.out.cell (p := ⟨r0, k % 8 * 8 + k / 8, none⟩) (by simp; omega)).trans (HC0d.out (k % 8 * 8 + k / 8) (by omega))
                  have y2 := (HBk.out.cell (p := ⟨r0, k / 8 * 8 + 7 - k % 8, none⟩) (by simp; omega)).trans (HC0d.out (k / 8 * 8 + 7 - k % 8) (by omega))
                  have y3 := (HBk.out.cell (p := ⟨r0, (7 - k / 8) * 8 + k % 8, none⟩) (by simp; omega)).trans (HC0d.out ((7 - k / 8) * 8 + k % 8) (by omega))
                  rw [HQ1.out k hk2] at x1
                  rw [HQ2.out k hk2] at x2
                  rw [HQ3.out k hk2] at x3
                  have E1 := ixT1 hk2
                  have E2 := ixT2 hk2
                  have E3 := ixT3 hk2
                  have u1 : k % 8 * 8 + k / 8 < 64 := by omega
                  have u2 : k / 8 * 8 + 7 - k % 8 < 64 := by omega
                  have u3 : (7 - k / 8) * 8 + k % 8 < 64 := by omega
                  generalize k % 8 * 8 + k / 8 = J1 at *
                  generalize k / 8 * 8 + 7 - k % 8 = J2 at *
                  generalize (7 - k / 8) * 8 + k % 8 = J3 at *
                  have v1 : (0 : Int) ≤ (J1 : Int) := by omega
                  have v2 : (0 : Int) ≤ (J2 : Int) := by omega
                  have v3 : (0 : Int) ≤ (J3 : Int) := by omega
                  have v4 : (J1 : Int) < 64 := by omega
                  have v5 : (J2 : Int) < 64 := by omega
                  have v6 : (J3 : Int) < 64 := by omega
                  generalize rndC (invS B J1) = s1 at *
                  generalize rndC (invS B J2) = s2 at *
                  generalize rndC (invS B J3) = s3 at *
                  have t1 : (s1 != s1) = false := by simp
                  have t2 : (s2 != s2) = false := by simp
                  have t3 : (s3 != s3) = false := by simp
                  clear HQ1 HQ2 HQ3 HC0d HC1c HC2b HC3 HBw HB3 HB4 HB5
                  go_wp2_with fail
                  go_quiet (fail)
                  have HB9 := Lib.hid (belowC_drewN HBk.out nq)
                  generalize wr.drewN nq = w9 at *
                  go_wp2_with fail
                  go_roundw
                  case rel => exact ⟨k + 1, by go_num, by omega, HB9.out⟩
                  case measure => simp [intOf]; omega
                · obtain rfl : k = 64 := by omega
                  go_wp2_with fail
                  go_ret
                  have h1 := HBw.out.trans (HB6.out.mono hsw)
                  have h2 := h1.trans (HBk.out.mono h1.size)
                  exact ⟨rfl, B1.out.trans (h2.mono B1.out.size)⟩

end Go.Proofs.Ytpmdeoiajnfabaa
