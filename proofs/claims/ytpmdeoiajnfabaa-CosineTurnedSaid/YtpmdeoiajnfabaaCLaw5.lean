/- The walk of CosineSums (praxinoscopelaw11). -/
import Derived.Test.YtpmdeoiajnfabaaCMk3
namespace Go.Proofs.Ytpmdeoiajnfabaa
open Go.RowKit Go.Shelf
set_option linter.unusedVariables false

/-- numbers halved, so many of them; sums of halves -/
def hlfP (P : List Int) (i : Nat) : List Int := ofC 64 fun j => if j < i then nthC P j / 2 else nthC P j
def sumP (P Q : List Int) (i : Nat) : List Int := ofC 64 fun j => if j < i then nthC P j / 2 + nthC Q j / 2 else 0
theorem hlfP_length (P : List Int) (i : Nat) : (hlfP P i).length = 64 := ofC_length _ _
theorem sumP_length (P Q : List Int) (i : Nat) : (sumP P Q i).length = 64 := ofC_length _ _
theorem hlfP_zero {P : List Int} (h : P.length = 64) : hlfP P 0 = P := listC_ext (hlfP_length _ _) h (fun j hj => by unfold hlfP; rw [ofC_get hj, if_neg (by omega)])
theorem sumP_zero (P Q : List Int) : sumP P Q 0 = zeros64 := listC_ext (sumP_length _ _ _) rfl (fun j hj => by unfold sumP; rw [ofC_get hj, if_neg (by omega)]; unfold nthC zeros64; rw [List.getElem?_replicate, if_pos hj]; rfl)
theorem hlfP_at (P : List Int) {i : Nat} (hi : i < 64) : nthC (hlfP P i) i = nthC P i := by unfold hlfP; rw [ofC_get hi, if_neg (by omega)]
theorem hlfP_step (P : List Int) {i : Nat} (hi : i < 64) : (hlfP P i).set i (nthC P i / 2) = hlfP P (i + 1) := by
  unfold hlfP
  rw [ofC_set hi]
  apply ofC_congr
  intro j hj
  by_cases h : j = i
  · rw [if_pos h, if_pos (by omega), h]
  · rw [if_neg h]
    by_cases h2 : j < i
    · rw [if_pos h2, if_pos (by omega)]
    · rw [if_neg h2, if_neg (by omega)]
theorem sumP_step (P Q : List Int) {i : Nat} (hi : i < 64) : (sumP P Q i).set i (nthC P i / 2 + nthC Q i / 2) = sumP P Q (i + 1) := by
  unfold sumP
  rw [ofC_set hi]
  apply ofC_congr
  intro j hj
  by_cases h : j = i
  · rw [if_pos h, if_pos (by omega), h]
  · rw [if_neg h]
    by_cases h2 : j < i
    · rw [if_pos h2, if_pos (by omega)]
    · rw [if_neg h2, if_neg (by omega)]
theorem hlfP_in {P : List Int} (h : ∀ j, -2048 ≤ nthC P j ∧ nthC P j ≤ 2047) (j : Nat) : -1024 ≤ nthC (hlfP P 64) j ∧ nthC (hlfP P 64) j ≤ 1023 := by
  unfold hlfP
  by_cases hj : j < 64
  · rw [ofC_get hj, if_pos hj]
    have := h j
    omega
  · rw [ofC_out (by omega)]
    omega
theorem sumP_all (P Q : List Int) : sumP P Q 64 = ofC 64 fun j => nthC (hlfP P 64) j + nthC (hlfP Q 64) j := by
  unfold sumP
  apply ofC_congr
  intro j hj
  unfold hlfP
  rw [if_pos hj, ofC_get hj, ofC_get hj, if_pos hj, if_pos hj]
theorem sumP_in {P Q : List Int} (hP : ∀ j, -2048 ≤ nthC P j ∧ nthC P j ≤ 2047) (hQ : ∀ j, -2048 ≤ nthC Q j ∧ nthC Q j ≤ 2047) (j : Nat) : -2048 ≤ nthC (sumP P Q 64) j ∧ nthC (sumP P Q 64) j ≤ 2047 := by
  unfold sumP
  by_cases hj : j < 64
  · rw [ofC_get hj, if_pos hj]
    have h1 := hP j
    have h2 := hQ j
    omega
  · rw [ofC_out (by omega)]
    omega
theorem hlfP_new (P : List Int) {i : Nat} (hi : i < 64) : nthC (hlfP P (i + 1)) i = nthC P i / 2 := by unfold hlfP; rw [ofC_get hi, if_pos (by omega)]
/-- between two rounds -/
structure SumW (w1 : World) (g1 g2 g3 : Nat) (p q s : List Int) (W : World) : Prop where
  below : Below w1.heap.size w1 W
  n1 : NumsAt W g1 3 p
  n2 : NumsAt W g2 3 q
  n3 : NumsAt W g3 3 s
theorem SumW.set1 {w1 W : World} {g1 g2 g3 : Nat} {p q s : List Int} (h : SumW w1 g1 g2 g3 p q s W) (h1 : w1.heap.size ≤ g1) (h12 : g1 ≠ g2) (h13 : g1 ≠ g3) (k : Nat) (x : Int) : SumW w1 g1 g2 g3 (p.set k x) q s (W.setCell ⟨g1, k, none⟩ (.int .i64 x)) :=
  ⟨h.below.setCell (p := ⟨g1, k, none⟩) h1 _, h.n1.set k x, h.n2.other (p := ⟨g1, k, none⟩) (Ne.symm h12) _, h.n3.other (p := ⟨g1, k, none⟩) (Ne.symm h13) _⟩
theorem SumW.set2 {w1 W : World} {g1 g2 g3 : Nat} {p q s : List Int} (h : SumW w1 g1 g2 g3 p q s W) (h2 : w1.heap.size ≤ g2) (h12 : g1 ≠ g2) (h23 : g2 ≠ g3) (k : Nat) (x : Int) : SumW w1 g1 g2 g3 p (q.set k x) s (W.setCell ⟨g2, k, none⟩ (.int .i64 x)) :=
  ⟨h.below.setCell (p := ⟨g2, k, none⟩) h2 _, h.n1.other (p := ⟨g2, k, none⟩) h12 _, h.n2.set k x, h.n3.other (p := ⟨g2, k, none⟩) (Ne.symm h23) _⟩
theorem SumW.set3 {w1 W : World} {g1 g2 g3 : Nat} {p q s : List Int} (h : SumW w1 g1 g2 g3 p q s W) (h3 : w1.heap.size ≤ g3) (h13 : g1 ≠ g3) (h23 : g2 ≠ g3) (k : Nat) (x : Int) : SumW w1 g1 g2 g3 p q (s.set k x) (W.setCell ⟨g3, k, none⟩ (.int .i64 x)) :=
  ⟨h.below.setCell (p := ⟨g3, k, none⟩) h3 _, h.n1.other (p := ⟨g3, k, none⟩) h13 _, h.n2.other (p := ⟨g3, k, none⟩) h23 _, h.n3.set k x⟩
theorem SumW.drewN {w1 W : World} {g1 g2 g3 : Nat} {p q s : List Int} (h : SumW w1 g1 g2 g3 p q s W) (n : Nat) : SumW w1 g1 g2 g3 p q s (W.drewN n) := ⟨belowC_drewN h.below n, h.n1, h.n2, h.n3⟩
/-- what has come up of the statement that lays them -/
def SumI (w1 : World) (a a' : Option Addr) (len cap len' cap' : Nat) (P Q : List Int) (L : Nat → Bool) (act : Act) (W : World) : Prop :=
  ∃ x6 x7 x8 x28 x29 x30 x31 x32, act = { tmps := #[.slice a len cap, .slice a' len' cap', undef, undef, .bool false, .bool true, x6, x7, x8, undef, undef, undef, undef, undef, undef, undef, undef, undef, .bool true, .slice a len cap, .int .i64 len, .bool false, .bool false, .slice a' len' cap', .int .i64 len', .bool false, .bool false, undef, x28, x29, x30, x31, x32, undef, undef, undef, undef, undef, undef, undef, undef, undef, undef, undef, undef, undef, undef, undef, undef, undef, undef, undef, undef, undef, undef, undef, undef, undef, undef, undef, undef, undef, undef, undef, undef, undef, undef, undef, undef, undef, undef, undef, undef, undef, undef, undef, undef, undef, undef, undef, undef, undef, undef, undef, undef, undef, undef, undef, undef, undef, undef, undef, undef, undef, undef, undef, undef, undef, undef, undef, undef, undef, undef, undef, undef, undef, undef, undef, undef, undef, undef, undef, undef, undef, undef, undef, undef, undef, undef, undef, undef, undef, undef, undef, undef, undef, undef, undef, undef, undef], defers := [] } ∧
    Mk3 w1 L 1 3 4 x29 x31 x32 P Q zeros64 W ∧ (L 0 = true → x28 = .slice a len cap) ∧ (L 2 = true → x30 = .slice a' len' cap') ∧ (L 5 = true → x6 = x29) ∧ (L 6 = true → x7 = x31) ∧ (L 7 = true → x8 = x32)

set_option maxRecDepth 100000 in
set_option maxHeartbeats 4000000 in
theorem cosineSums_walk {w : World} {a : Option Addr} {len cap : Nat} {xs : List Int} (hR : RowV w.heap.size w a len cap (intV xs)) {a' : Option Addr} {len' cap' : Nat} {ys : List Int} (hR' : RowV w.heap.size w a' len' cap' (intV ys)) :
    Calls Try.prog 8 #[.slice a len cap, .slice a' len' cap'] w fun e w' => e = .returned (.bool true) ∧ Below w.heap.size w w' := by
  have HAw := Lib.hid (awake11_any w)
  by_cases hlen : 64 < len
  · have q1 : (64 : Int) < (len : Int) := by omega
    clear hR hR'
    go_enter Try.func8, Try.ntmps8
    go_wp2_with fail
    refine HAw.out.mono ?_
    rintro e w1 ⟨rfl, b1⟩
    go_wp2_with fail
    go_ret
    exact ⟨rfl, b1⟩
  · by_cases hlen' : 64 < len'
    · have q1 : ¬ (64 : Int) < (len : Int) := by omega
      have q2 : (64 : Int) < (len' : Int) := by omega
      clear hR hR'
      go_enter Try.func8, Try.ntmps8
      go_wp2_with fail
      refine HAw.out.mono ?_
      rintro e w1 ⟨rfl, b1⟩
      go_wp2_with fail
      go_ret
      exact ⟨rfl, b1⟩
    · have q1 : decide ((64 : Int) < (len : Int)) = false := by simp; omega
      have q2 : decide ((64 : Int) < (len' : Int)) = false := by simp; omega
      have HRB := Lib.hid (fun w' (hb : Below w.heap.size w w') => hR.below hb)
      have HRB' := Lib.hid (fun w' (hb : Below w.heap.size w w') => hR'.below hb)
      clear hR hR'
      go_enter Try.func8, Try.ntmps8
      go_wp2_with fail
      refine HAw.out.mono ?_
      rintro e w1 ⟨rfl, b1⟩
      have B1 := Lib.hid b1
      have hs1 := b1.size
      clear b1 HAw
      have HMa : Hid (∀ W, Below w1.heap.size w1 W → Calls Try.prog 22 #[.slice a len cap] W fun e w' => e = .returned (.slice (some ⟨W.heap.size, 0, none⟩) 64 64) ∧ NumsAt w' W.heap.size 3 (madeC xs) ∧ Below W.heap.size W w') := fun W hW =>
        made11_any (HRB.out W (B1.out.trans (hW.mono hs1))) (Nat.le_trans hs1 hW.size) (by omega)
      have HMb : Hid (∀ W, Below w1.heap.size w1 W → Calls Try.prog 22 #[.slice a' len' cap'] W fun e w' => e = .returned (.slice (some ⟨W.heap.size, 0, none⟩) 64 64) ∧ NumsAt w' W.heap.size 3 (madeC ys) ∧ Below W.heap.size W w') := fun W hW =>
        made11_any (HRB'.out W (B1.out.trans (hW.mono hs1))) (Nat.le_trans hs1 hW.size) (by omega)
      have hP := madeC_in xs
      have hQ := madeC_in ys
      have hPl := madeC_length xs
      have hQl := madeC_length ys
      generalize madeC xs = P at *
      generalize madeC ys = Q at *
      have hmk := made64
      clear hs1
      go_wp2_with fail
      refine wp_region_inv (by kernel_rfl) (by kernel_rfl) (by kernel_rfl) (SumI w1 a a' len cap len' cap' P Q) ?h0 ?st ?hd
      case h0 =>
        intro L hL
        have e : ∀ i, ¬ L i = true := fun i h => by rw [hL i] at h; cases h
        exact ⟨undef, undef, undef, undef, undef, undef, undef, undef, rfl, Mk3.start hL _ _ _, fun h => (e _ h).elim, fun h => (e _ h).elim, fun h => (e _ h).elim, fun h => (e _ h).elim, fun h => (e _ h).elim⟩
      case st =>
        refine ⟨?o0, ?o1, ?o2, ?o3, ?o4, ?o5, ?o6, ?o7, trivial⟩
        case o0 =>
          rintro L act W hL hbe hcl ⟨x6, x7, x8, x28, x29, x30, x31, x32, rfl, hM, h0, h2, h5, h6, h7⟩
          have HM := Lib.hid hM
          have H0 := Lib.hid h0
          have H2 := Lib.hid h2
          have H5 := Lib.hid h5
          have H6 := Lib.hid h6
          have H7 := Lib.hid h7
          clear hM h0 h2 h5 h6 h7 hcl hbe
          go_simp
          exact ⟨x6, x7, x8, _, x29, x30, x31, x32, rfl, HM.out.skip 0 (by decide) (by decide) (by decide), fun _ => rfl, H2.out, H5.out, H6.out, H7.out⟩
        case o1 =>
          rintro L act W hL hbe hcl ⟨x6, x7, x8, x28, x29, x30, x31, x32, rfl, hM, h0, h2, h5, h6, h7⟩
          have hk : L 5 = false := by
            rw [Bool.eq_false_iff]; intro h
            have := hcl 5 _ rfl h { on := 1, ground := .data } (by simp) rfl
            rw [hL] at this; cases this
          have HK := Lib.hid hk
          clear hk
          obtain rfl := h0 (hbe { on := 0, ground := .data } (by simp) rfl)
          have HM := Lib.hid hM
          have H0 := Lib.hid h0
          have H2 := Lib.hid h2
          have H5 := Lib.hid h5
          have H6 := Lib.hid h6
          have H7 := Lib.hid h7
          clear hM h0 h2 h5 h6 h7 hcl hbe
          have HMk := Lib.hid (HMa.out W HM.out.below)
          go_simp
          refine ⟨trivial, rfl, (callsIn_wide.2 HMk.out).mono ?_⟩
          rintro e w9 ⟨rfl, hN, hb⟩
          exact ⟨x6, x7, x8, _, _, x30, x31, x32, rfl, HM.out.new1 (by decide) (by decide) hb hN, H0.out, H2.out, fun h => absurd (show L 5 = true from h) (by simp [HK.out]), H6.out, H7.out⟩
        case o2 =>
          rintro L act W hL hbe hcl ⟨x6, x7, x8, x28, x29, x30, x31, x32, rfl, hM, h0, h2, h5, h6, h7⟩
          have HM := Lib.hid hM
          have H0 := Lib.hid h0
          have H2 := Lib.hid h2
          have H5 := Lib.hid h5
          have H6 := Lib.hid h6
          have H7 := Lib.hid h7
          clear hM h0 h2 h5 h6 h7 hcl hbe
          go_simp
          exact ⟨x6, x7, x8, x28, x29, _, x31, x32, rfl, HM.out.skip 2 (by decide) (by decide) (by decide), H0.out, fun _ => rfl, H5.out, H6.out, H7.out⟩
        case o3 =>
          rintro L act W hL hbe hcl ⟨x6, x7, x8, x28, x29, x30, x31, x32, rfl, hM, h0, h2, h5, h6, h7⟩
          have hk : L 6 = false := by
            rw [Bool.eq_false_iff]; intro h
            have := hcl 6 _ rfl h { on := 3, ground := .data } (by simp) rfl
            rw [hL] at this; cases this
          have HK := Lib.hid hk
          clear hk
          obtain rfl := h2 (hbe { on := 2, ground := .data } (by simp) rfl)
          have HM := Lib.hid hM
          have H0 := Lib.hid h0
          have H2 := Lib.hid h2
          have H5 := Lib.hid h5
          have H6 := Lib.hid h6
          have H7 := Lib.hid h7
          clear hM h0 h2 h5 h6 h7 hcl hbe
          have HMk := Lib.hid (HMb.out W HM.out.below)
          go_simp
          refine ⟨trivial, rfl, (callsIn_wide.2 HMk.out).mono ?_⟩
          rintro e w9 ⟨rfl, hN, hb⟩
          exact ⟨x6, x7, x8, x28, x29, _, _, x32, rfl, HM.out.new2 (by decide) (by decide) hb hN, H0.out, H2.out, H5.out, fun h => absurd (show L 6 = true from h) (by simp [HK.out]), H7.out⟩
        case o4 =>
          rintro L act W hL hbe hcl ⟨x6, x7, x8, x28, x29, x30, x31, x32, rfl, hM, h0, h2, h5, h6, h7⟩
          have hk : L 7 = false := by
            rw [Bool.eq_false_iff]; intro h
            have := hcl 7 _ rfl h { on := 4, ground := .data } (by simp) rfl
            rw [hL] at this; cases this
          have HK := Lib.hid hk
          clear hk
          have HM := Lib.hid hM
          have H0 := Lib.hid h0
          have H2 := Lib.hid h2
          have H5 := Lib.hid h5
          have H6 := Lib.hid h6
          have H7 := Lib.hid h7
          clear hM h0 h2 h5 h6 h7 hcl hbe
          go_simp
          exact ⟨x6, x7, x8, x28, x29, x30, x31, _, rfl, HM.out.new3 (by decide) (by decide) (ints64_new W 3 zeros64) (numsAt_new _ _ _), H0.out, H2.out, H5.out, H6.out, fun h => absurd (show L 7 = true from h) (by simp [HK.out])⟩
        case o5 =>
          rintro L act W hL hbe hcl ⟨x6, x7, x8, x28, x29, x30, x31, x32, rfl, hM, h0, h2, h5, h6, h7⟩
          have HM := Lib.hid hM
          have H0 := Lib.hid h0
          have H2 := Lib.hid h2
          have H5 := Lib.hid h5
          have H6 := Lib.hid h6
          have H7 := Lib.hid h7
          clear hM h0 h2 h5 h6 h7 hcl hbe
          go_simp
          exact ⟨_, x7, x8, x28, x29, x30, x31, x32, rfl, HM.out.skip 5 (by decide) (by decide) (by decide), H0.out, H2.out, fun _ => rfl, H6.out, H7.out⟩
        case o6 =>
          rintro L act W hL hbe hcl ⟨x6, x7, x8, x28, x29, x30, x31, x32, rfl, hM, h0, h2, h5, h6, h7⟩
          have HM := Lib.hid hM
          have H0 := Lib.hid h0
          have H2 := Lib.hid h2
          have H5 := Lib.hid h5
          have H6 := Lib.hid h6
          have H7 := Lib.hid h7
          clear hM h0 h2 h5 h6 h7 hcl hbe
          go_simp
          exact ⟨x6, _, x8, x28, x29, x30, x31, x32, rfl, HM.out.skip 6 (by decide) (by decide) (by decide), H0.out, H2.out, H5.out, fun _ => rfl, H7.out⟩
        case o7 =>
          rintro L act W hL hbe hcl ⟨x6, x7, x8, x28, x29, x30, x31, x32, rfl, hM, h0, h2, h5, h6, h7⟩
          have HM := Lib.hid hM
          have H0 := Lib.hid h0
          have H2 := Lib.hid h2
          have H5 := Lib.hid h5
          have H6 := Lib.hid h6
          have H7 := Lib.hid h7
          clear hM h0 h2 h5 h6 h7 hcl hbe
          go_simp
          exact ⟨x6, x7, _, x28, x29, x30, x31, x32, rfl, HM.out.skip 7 (by decide) (by decide) (by decide), H0.out, H2.out, H5.out, H6.out, fun _ => rfl⟩
      case hd =>
        rintro L act W0 hL ⟨x6, x7, x8, x28, x29, x30, x31, x32, rfl, hM, h0, h2, h5, h6, h7⟩
        have hL : ∀ i, i < 8 → L i = true := hL
        obtain ⟨g1, g2, g3, rfl, rfl, rfl, hN1, hN2, hN3, l1, l2, l3, n12, n13, n23⟩ := hM.all (hL 1 (by omega)) (hL 3 (by omega)) (hL 4 (by omega))
        obtain rfl := h0 (hL 0 (by omega))
        obtain rfl := h2 (hL 2 (by omega))
        obtain rfl := h5 (hL 5 (by omega))
        obtain rfl := h6 (hL 6 (by omega))
        obtain rfl := h7 (hL 7 (by omega))
        have HM := Lib.hid hM.below
        have HN1 := Lib.hid hN1
        have HN2 := Lib.hid hN2
        have HN3 := Lib.hid hN3
        clear hM hN1 hN2 hN3 h0 h2 h5 h6 h7 hL hmk
        have HS0 := Lib.hid (show SumW w1 g1 g2 g3 (hlfP P 0) (hlfP Q 0) (sumP P Q 0) W0 by rw [hlfP_zero hPl, hlfP_zero hQl, sumP_zero]; exact ⟨HM.out, HN1.out, HN2.out, HN3.out⟩)
        have HP := Lib.hid hP
        have HQ := Lib.hid hQ
        have n21 := n12.symm
        have n31 := n13.symm
        have n32 := n23.symm
        clear HM HN1 HN2 HN3 hP hQ HMa HMb HRB HRB'
        go_wp2_with fail
        go_loopw [9] (fun i wr => ∃ k : Nat, i = .int .i64 k ∧ k ≤ 64 ∧ SumW w1 g1 g2 g3 (hlfP P k) (hlfP Q k) (sumP P Q k) wr) (fun i _ => 64 - (intOf i).toNat)
        case atStart => exact ⟨0, rfl, by omega, HS0.out⟩
        case round =>
          obtain ⟨k, rfl, hk, hS⟩ := hrel
          have HS := Lib.hid hS
          clear hS
          by_cases hk2 : k < 64
          · have z1 : (k : Int) < 64 := by omega
            have c1 := HS.out.n1.cell (k := k) (by rw [hlfP_length]; omega)
            have c2 := HS.out.n2.cell (k := k) (by rw [hlfP_length]; omega)
            rw [show (hlfP P k)[k]?.getD 0 = nthC (hlfP P k) k from rfl, hlfP_at P hk2] at c1
            rw [show (hlfP Q k)[k]?.getD 0 = nthC (hlfP Q k) k from rfl, hlfP_at Q hk2] at c2
            have f1 := HS.out.n1.frozen k
            have f2 := HS.out.n2.frozen k
            have HS2 := Lib.hid ((HS.out.set1 l1 n12 n13 k (nthC P k / 2)).set2 l2 n12 n23 k (nthC Q k / 2))
            rw [hlfP_step P hk2, hlfP_step Q hk2] at HS2
            have d1 := HS2.out.n1.cell (k := k) (by rw [hlfP_length]; omega)
            have d2 := HS2.out.n2.cell (k := k) (by rw [hlfP_length]; omega)
            rw [show (hlfP P (k + 1))[k]?.getD 0 = nthC (hlfP P (k + 1)) k from rfl, hlfP_new P hk2] at d1
            rw [show (hlfP Q (k + 1))[k]?.getD 0 = nthC (hlfP Q (k + 1)) k from rfl, hlfP_new Q hk2] at d2
            have d3 := HS2.out.n3.cell (k := k) (by rw [sumP_length]; omega)
            have f3 := HS2.out.n3.frozen k
            have HSt := Lib.hid (sumP_step P Q hk2)
            have hpi := HP.out k
            have hqi := HQ.out k
            have D1 := Lib.hid d1
            have D2 := Lib.hid d2
            have D3 := Lib.hid d3
            have F3 := Lib.hid f3
            clear d1 d2 d3 f3
            generalize nthC P k = x at *
            generalize nthC Q k = y at *
            go_wp2_with fail
            have d1 := D1.out
            have d2 := D2.out
            have d3 := D3.out
            have f3 := F3.out
            clear D1 D2 D3 F3 c1 c2 f1 f2
            generalize (wr.setCell ⟨g1, k, none⟩ (.int .i64 (x / 2))).setCell ⟨g2, k, none⟩ (.int .i64 (y / 2)) = w5 at *
            have e1 : IntKind.i64.wrap (x / 2 + y / 2) = x / 2 + y / 2 := by exact wrapC (by omega) (by omega)
            refine wp_region_quiet_tail (C := fun w' => ∃ n, w' = w5.drewN n) 12 (by kernel_rfl) (by kernel_rfl) ⟨1, rfl⟩ ?_
            simp only [List.take_succ_cons, List.take_zero, List.drop_succ_cons, List.drop_zero]
            iterate 12 quiet_step (fail)
            refine wpQuiet_nil ?_
            rintro _ ⟨nq, rfl⟩
            have HS3 := Lib.hid (HS2.out.drewN nq)
            go_wp2_with fail
            go_roundw
            case rel => exact ⟨k + 1, by go_num, by omega, by rw [← HSt.out]; exact HS3.out.set3 l3 n13 n23 k _⟩
            case measure => simp [intOf]; omega
          · obtain rfl : k = 64 := by omega
            have hN1 := HS.out.n1
            have hN2 := HS.out.n2
            have hN3 := HS.out.n3
            have hi1 := hlfP_in HP.out
            have hi2 := hlfP_in HQ.out
            have hi3 := sumP_in HP.out HQ.out
            have hSum := sumP_all P Q
            have hl1 := hlfP_length P 64
            have hl2 := hlfP_length Q 64
            have hl3 := sumP_length P Q 64
            have HBw := Lib.hid HS.out.below
            have hsw := HS.out.below.size
            clear HS HP HQ hPl hQl
            generalize hlfP P 64 = PH at *
            generalize hlfP Q 64 = QH at *
            generalize sumP P Q 64 = SH at *
            have k1 := hN1.lt
            have k2 := hN2.lt
            have k3 := hN3.lt
            have HI1 := Lib.hid (invC hN1 hl1 (fun j => by have := hi1 j; omega))
            have HI2 : Hid (∀ w', Below wr.heap.size wr w' → _) := Lib.hid (fun w' hb => invC (hN2.below hb k2) hl2 (fun j => by have := hi2 j; omega))
            have HI3 : Hid (∀ w', Below wr.heap.size wr w' → _) := Lib.hid (fun w' hb => invC (hN3.below hb k3) hl3 hi3)
            have HSm : Hid (∀ j, invS SH j = invS PH j + invS QH j) := by
              show ∀ j, _
              intro j
              rw [hSum]
              exact invS_sum PH QH j
            have HIn1 : Hid (∀ k, k < 64 → -549755813888 ≤ invS PH k ∧ invS PH k ≤ 549755813888) := fun k hk => invP_in (n := 64) (by omega) (fun j => by have := hi1 j; omega) hk
            have HIn2 : Hid (∀ k, k < 64 → -549755813888 ≤ invS QH k ∧ invS QH k ≤ 549755813888) := fun k hk => invP_in (n := 64) (by omega) (fun j => by have := hi2 j; omega) hk
            clear hN1 hN2 hN3 hi1 hi2 hi3 hSum
            go_wp2_with fail
            refine HI1.out.mono ?_
            rintro e w3 ⟨m1, c1, rfl, a1, b1, hc1, hb3⟩
            have HC1 := Lib.hid hc1
            have HB3 := Lib.hid hb3
            have hs3 := hb3.size
            clear hc1 hb3
            go_wp2_with fail
            refine (HI2.out w3 HB3.out).mono ?_
            rintro e w4 ⟨m2, c2, rfl, a2, b2, hc2, hb4⟩
            have HC2 := Lib.hid hc2
            have HC1b := Lib.hid (cells_below hb4 b1 HC1.out)
            have HB4 := Lib.hid (HB3.out.trans (hb4.mono hs3))
            have hs4 := hb4.size
            clear hc2 hb4 HC1
            go_wp2_with fail
            refine (HI3.out w4 HB4.out).mono ?_
            rintro e w5 ⟨m3, c3, rfl, a3, b3, hc3, hb5⟩
            have HC3 := Lib.hid hc3
            have HC1c := Lib.hid (cells_below hb5 (by omega) HC1b.out)
            have HC2b := Lib.hid (cells_below hb5 b2 HC2.out)
            have HB5 := Lib.hid (HB4.out.trans (hb5.mono (by omega)))
            have hs5 := hb5.size
            clear hc3 hb5 HC1b HC2 HI1 HI2 HI3
            go_wp2_with fail
            go_loopw [16] (fun i wr => ∃ k : Nat, i = .int .i64 k ∧ k ≤ 64 ∧ Below w5.heap.size w5 wr) (fun i _ => 64 - (intOf i).toNat)
            case atStart => exact ⟨0, rfl, by omega, Below.refl _ _⟩
            case round =>
              obtain ⟨k, rfl, hk, hbk⟩ := hrel
              have HBk := Lib.hid hbk
              clear hbk
              by_cases hk2 : k < 64
              · have z1 : (k : Int) < 64 := by omega
                have x1 := (HBk.out.cell (p := ⟨m1, k, none⟩) (by simp; omega)).trans (HC1c.out k hk2)
                have x2 := (HBk.out.cell (p := ⟨m2, k, none⟩) (by simp; omega)).trans (HC2b.out k hk2)
                have x3 := (HBk.out.cell (p := ⟨m3, k, none⟩) (by simp; omega)).trans (HC3.out k hk2)
                rw [HSm.out k] at x3
                obtain ⟨s1, s2⟩ := HIn1.out k hk2
                obtain ⟨s3, s4⟩ := HIn2.out k hk2
                have hr := rnd_sum (invS PH k) (invS QH k)
                have i1 : -40000 ≤ rndC (invS PH k) ∧ rndC (invS PH k) ≤ 40000 := by unfold rndC; omega
                have i2 : -40000 ≤ rndC (invS QH k) ∧ rndC (invS QH k) ≤ 40000 := by unfold rndC; omega
                have i3 : -80000 ≤ rndC (invS PH k + invS QH k) ∧ rndC (invS PH k + invS QH k) ≤ 80000 := by unfold rndC; omega
                generalize rndC (invS PH k + invS QH k) = z at *
                generalize rndC (invS PH k) = x at *
                generalize rndC (invS QH k) = y at *
                clear s1 s2 s3 s4 HIn1 HIn2 HSm
                have t1 : ¬ (z - x - y < -1) := by omega
                have t2 : ¬ (1 < z - x - y) := by omega
                have e1 : IntKind.i64.wrap (z - x) = z - x := by exact wrapC (by omega) (by omega)
                have e2 : IntKind.i64.wrap (z - x - y) = z - x - y := by exact wrapC (by omega) (by omega)
                go_wp2_with fail
                go_quiet (fail)
                have HB9 := Lib.hid (belowC_drewN HBk.out nq)
                generalize wr.drewN nq = w9 at *
                go_wp2_with fail
                go_roundw
                case rel => exact ⟨k + 1, by go_num, by omega, HB9.out⟩
                case measure => simp [intOf]; omega
              · obtain rfl : k = 64 := by omega
                go_wp2_with fail
                go_ret
                have h1 := HBw.out.trans (HB5.out.mono hsw)
                have h2 := h1.trans (HBk.out.mono h1.size)
                exact ⟨rfl, B1.out.trans (h2.mono B1.out.size)⟩

end Go.Proofs.Ytpmdeoiajnfabaa
