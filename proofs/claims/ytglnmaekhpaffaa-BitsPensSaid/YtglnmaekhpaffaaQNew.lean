/- The contract of the law QueueNew: it returns true, and nothing that lay is changed. -/
import Derived.Test.YtglnmaekhpaffaaQKnown
import Derived.Test.YtglnmaekhpaffaaPick
namespace Go.Proofs.Ytglnmaekhpaffaa
open Go.RowKit Go.Shelf
set_option linter.unusedVariables false

/-- bytes that came in, with their block -/
def Row8 (n₀ : Nat) (w : World) (a : Option Addr) (len cap : Nat) (zs : List UInt8) : Prop :=
  zs.length = len ∧ len ≤ cap ∧ cap ≤ 9223372036854775807 ∧ (cap = 0 ∨ ∃ b off, a = some ⟨b, off, none⟩ ∧ b < n₀ ∧ ∀ j, j < len → w.cell? ⟨b, off + j, none⟩ = some (.int .u8 ((zs[j]?.getD 0).toNat)))
theorem row8_of_row {w : World} {a : Option Addr} {len cap : Nat} {z : List Int} (h : IsRow .u8 w a len cap z) : ∃ zs, Row8 w.heap.size w a len cap zs := by
  rcases h with ⟨rfl, rfl, rfl, rfl⟩ | ⟨x, rfl, hlc, hm, hz, hc, hw⟩
  · exact ⟨[], rfl, Nat.le_refl _, by omega, .inl rfl⟩
  · have hlen : ((z.take len).map fun n => UInt8.ofNat n.toNat).length = len := by simp; omega
    refine ⟨(z.take len).map fun n => UInt8.ofNat n.toNat, hlen, hlc, by unfold maxLen at hm; omega, ?_⟩
    by_cases h0 : cap = 0
    · exact .inl h0
    · right
      obtain ⟨b, off, spot⟩ := x
      have hc0 := hc 0 (by omega)
      have hspot : spot = none := by simpa [Addr.add] using World.cell?_spot hc0
      subst hspot
      refine ⟨b, off, rfl, by simpa [Addr.add] using cell_lt hc0, fun j hj => ?_⟩
      have hcj := hc j (by omega)
      have hadd : (⟨b, off, none⟩ : Addr).add j = ⟨b, off + j, none⟩ := by unfold Addr.add; split <;> simp_all
      rw [hadd] at hcj
      rw [hcj]
      have hm : z[j]'(by omega) ∈ z := List.getElem_mem _
      have hb := wf_u8 (hw _ hm)
      have e1 : z.getD j 0 = z[j]'(by omega) := by simp [List.getD_eq_getElem?_getD, show j < z.length by omega]
      rw [e1]
      have e2 : (((z.take len).map fun n => UInt8.ofNat n.toNat)[j]?.getD 0) = UInt8.ofNat (z[j]'(by omega)).toNat := by
        simp [hj, show j < z.length by omega]
      rw [e2, UInt8.toNat_ofNat', Nat.mod_eq_of_lt (by simp; omega)]
      congr 2
      omega
theorem Row8.later {n₀ : Nat} {w w' : World} {a : Option Addr} {len cap : Nat} {zs : List UInt8} (h : Row8 n₀ w a len cap zs) (hb : Below n₀ w w') : Row8 n₀ w' a len cap zs := by
  obtain ⟨h1, h2, h3, h4⟩ := h
  refine ⟨h1, h2, h3, h4.imp id fun ⟨b, off, e, hlt, hc⟩ => ⟨b, off, e, hlt, fun j hj => ?_⟩⟩
  exact (hb.cell (p := ⟨b, off + j, none⟩) hlt).trans (hc j hj)
theorem Row8.bytA {n₀ g : Nat} {w : World} {a : Option Addr} {len cap : Nat} {zs : List UInt8} (h : Row8 n₀ w a len cap zs) (hn : n₀ ≤ w.heap.size) (hg : n₀ ≤ g) : BytA w g (.slice a len cap) zs := by
  obtain ⟨rfl, h2, h3, h4⟩ := h
  exact ⟨a, cap, rfl, h2, h3, h4.imp id fun ⟨b, off, e, hlt, hc⟩ => ⟨b, off, e, fun _ => ⟨by omega, by omega⟩, hc⟩⟩
theorem Row8.byt {n₀ k : Nat} {w : World} {a : Option Addr} {len cap : Nat} {zs : List UInt8} (h : Row8 n₀ w a len cap zs) (hn : n₀ ≤ w.heap.size) (hk : k ≤ len) (hl : k ≤ 1152921504606846975) : Byt w.heap.size w (.slice a k cap) (zs.take k) := by
  obtain ⟨rfl, h2, h3, h4⟩ := h
  have e : (zs.take k).length = k := by simp; omega
  refine ⟨a, cap, by rw [e], by rw [e]; exact hl, ?_⟩
  rcases h4 with rfl | ⟨b, off, rfl, hlt, hc⟩
  · left; exact List.eq_nil_of_length_eq_zero (by omega)
  · right
    refine ⟨b, off, rfl, by omega, fun j hj => ?_⟩
    rw [e] at hj
    rw [hc j (by omega), List.getElem?_take, if_pos hj]

theorem qnew_at (x : Int) (m : Nat) (hx : x = m) (w : World) (h1 : 1 ≤ m) (h2 : m ≤ 1048576) :
    Calls Try.prog 21 #[.int .i64 x] w fun e w' => ∃ b g, e = .returned (.tuple #[.pointer (some ⟨b, 0, none⟩), .int .i64 0]) ∧ IsQueue w' b g (newQ m) ∧ w.heap.size ≤ b ∧ w.heap.size ≤ g ∧ Below w.heap.size w w' := by
  subst hx; exact qnew_ok m w h1 h2

theorem qskip_at {w : World} {b g : Nat} {q : Qs} (h : IsQueue w b g q) (x : Int) (n : Nat) (hx : x = n) (hn : n ≤ 8 * q.all.length - q.gone) :
    Calls Try.prog 29 #[.pointer (some ⟨b, 0, none⟩), .int .i64 x] w fun e w' => e = .returned (.int .i64 0) ∧ QDid w w' b g { q with gone := q.gone + n } := by
  subst hx; exact qskip_ok h n hn
theorem new_fed (A ys : List UInt8) (m : Nat) : fedL ⟨m, A, 8 * A.length, false⟩ ys = ys.take m := by
  simp only [fedL, Bool.false_eq_true, if_false]
  congr 1
  omega
theorem new_feedQ (A ys : List UInt8) (m : Nat) : feedQ ⟨m, A, 8 * A.length, false⟩ ys = ⟨m, A ++ ys.take m, 8 * A.length, false⟩ := by
  rw [feedQ, new_fed]
theorem new_drop (A ys : List UInt8) (m n : Nat) (h : n = min m ys.length) : ys.take n = (A ++ ys.take m).drop (8 * A.length / 8) := by
  rw [show 8 * A.length / 8 = A.length by omega, List.drop_left, h]
  apply List.ext_getElem?
  intro i
  simp only [List.getElem?_take]
  by_cases h1 : i < m
  · by_cases h2 : i < ys.length
    · rw [if_pos (by omega), if_pos h1]
    · rw [if_neg (by omega), if_pos h1, List.getElem?_eq_none (by omega)]
  · rw [if_neg (by omega), if_neg h1]

/-- what the law's loop keeps -/
def NewLoop (w wr : World) (b g m : Nat) (A : List UInt8) (j G : Nat) : Prop := j ≤ G ∧ G ≤ 8 * A.length ∧ IsQueue wr b g ⟨m, A, G, false⟩ ∧ Below w.heap.size w wr

set_option maxRecDepth 100000 in
set_option maxHeartbeats 4000000 in
theorem queueNew_walk (most : Int) (a1 : Option Addr) (len1 cap1 : Nat) (z1 : List Int) (a2 : Option Addr) (len2 cap2 : Nat) (z2 : List Int) (step : Int) (w : World)
    (hm : (Lit.int .i64 most).wf = true) (h1 : IsRow .u8 w a1 len1 cap1 z1) (h2 : IsRow .u8 w a2 len2 cap2 z2) (hs : (Lit.int .i64 step).wf = true) :
    Calls Try.prog 8 #[.int .i64 most, .slice a1 len1 cap1, .slice a2 len2 cap2, .int .i64 step] w fun e w' => e = .returned (.bool true) ∧ Below w.heap.size w w' := by
  obtain ⟨xs, hx⟩ := row8_of_row h1
  obtain ⟨ys, hy⟩ := row8_of_row h2
  have HX := Lib.hid hx
  have HY := Lib.hid hy
  have hl1 : len1 ≤ 9223372036854775807 := Nat.le_trans hx.2.1 hx.2.2.1
  have hl2 : len2 ≤ 9223372036854775807 := Nat.le_trans hy.2.1 hy.2.2.1
  have hlc2 : len2 ≤ cap2 := hy.2.1
  have hc2 : cap2 ≤ 9223372036854775807 := hy.2.2.1
  clear hm h1 h2 hs hx hy
  have HP1 := Lib.hid (fun w' => pick_any most 40 w' (by omega) (by omega))
  have HP2 := Lib.hid (fun w' => pick_any step 20 w' (by omega) (by omega))
  obtain ⟨m, hm⟩ : ∃ m : Nat, most % 40 = (m : Int) := ⟨(most % 40).toNat, by omega⟩
  obtain ⟨s, hs⟩ : ∃ s : Nat, step % 20 = (s : Int) := ⟨(step % 20).toNat, by omega⟩
  rw [hm] at HP1
  rw [hs] at HP2
  have hm2 : m < 40 := by omega
  have hs2 : s < 20 := by omega
  clear hm hs
  go_enter Try.func8, Try.ntmps8
  go_wp2_with fail
  refine (awake2_any _).mono ?_
  rintro e w1 ⟨rfl, b1⟩
  go_wp2_with fail
  refine (HP1.out _).mono ?_
  rintro e w2 ⟨rfl, rfl⟩
  go_wp2_with fail
  refine (HP2.out _).mono ?_
  rintro e w2 ⟨rfl, rfl⟩
  go_wp2_with fail
  refine (qnew_at (1 + (m : Int)) (1 + m) (by omega) _ (by omega) (by omega)).mono ?_
  rintro e w3 ⟨b, g, rfl, hq, hb, hg, d3⟩
  have b3 := below_chain b1 (Nat.le_refl _) d3
  have hs1 := b1.size
  replace hb : w.heap.size ≤ b := by omega
  replace hg : w.heap.size ≤ g := by omega
  have HQ := Lib.hid hq
  clear hq b1 d3 hs1
  by_cases hlong : 40 < len1 ∨ 80 < len2
  · by_cases hl40 : 40 < len1
    · go_wp2
      go_ret
      exact ⟨rfl, b3⟩
    · have hl80 : 80 < len2 := by omega
      go_wp2
      go_ret
      exact ⟨rfl, b3⟩
  have hl40 : ¬ (40 < len1) := by omega
  have hl80 : ¬ (80 < len2) := by omega
  clear hlong
  have HA := Lib.hid ((HX.out.later b3).bytA (g := g) b3.size hg)
  have hxl := HX.out.1
  go_wp2_with fail
  refine (qfeed_any HQ.out HA.out (by simp [newQ]; omega)).mono ?_
  rintro e w4 ⟨rfl, hd⟩
  have b4 := b3.trans (hd.below b3.size hb hg)
  have hqe : feedQ (newQ (1 + m)) xs = ⟨1 + m, xs.take (1 + m), 0, false⟩ := by simp [feedQ, newQ, fedL]
  rw [hqe] at hd
  have HQ4 := Lib.hid hd.1
  have hAl : (xs.take (1 + m)).length ≤ 40 := by simp; omega
  generalize xs.take (1 + m) = A at *
  clear hd hqe HQ HA b3 HX hxl
  go_wp2_with fail
  go_loopw [12] (fun i wr => ∃ j G : Nat, i = .int .i64 j ∧ NewLoop w wr b g (1 + m) A j G) (fun i _ => 400 - (intOf i).toNat)
  case atStart => exact ⟨0, 0, rfl, Nat.le_refl _, by omega, HQ4.out, b4⟩
  case round =>
    obtain ⟨j, G, rfl, hjG, hGA, hq, hB⟩ := hrel
    have HQ5 := Lib.hid hq
    have HB5 := Lib.hid hB
    obtain ⟨L, hL⟩ : ∃ L, L = 8 * A.length - G := ⟨_, rfl⟩
    have HL5 : Hid (∀ w', Below wr.heap.size wr w' → Calls Try.prog 35 #[.pointer (some ⟨b, 0, none⟩)] w' fun e w'' => e = .returned (.int .i64 (L : Int)) ∧ Below w'.heap.size w' w'') := fun w' hb => by
      rw [hL]; exact qleft_any (hq.later hb)
    clear hq hB
    have hj : j < 400 := by omega
    by_cases hG : G < 8 * A.length
    · have hL0 : 0 < L := by omega
      have hL1 : L ≤ 320 := by omega
      have HL := Lib.hid hL
      clear hL
      go_wp2_with fail
      refine (HL5.out _ (Below.refl _ _)).mono ?_
      rintro e w6 ⟨rfl, b6⟩
      go_wp2_with fail
      refine (HL5.out _ b6).mono ?_
      rintro e w7 ⟨rfl, d7⟩
      have b7 := below_chain b6 (Nat.le_refl _) d7
      have HQ7 := Lib.hid (HQ5.out.later b7)
      have B7 := below_chain HB5.out (Nat.le_refl _) b7
      clear b6 d7 b7
      by_cases hmin : (L : Int) < 1 + (s : Int)
      · go_wp2_with fail
        refine (qskip_at HQ7.out (L : Int) L rfl (by have := HL.out; simp only; omega)).mono ?_
        rintro e w8 ⟨rfl, hd⟩
        have B8 := B7.trans (hd.below B7.size hb hg)
        have HQ8 := Lib.hid hd.1
        clear hd B7
        go_wp2
        go_roundw
        case rel => exact ⟨j + 1, G + L, by go_num, by omega, by have := HL.out; omega, HQ8.out, B8⟩
        case measure => simp [intOf]; omega
      · go_wp2_with fail
        refine (qskip_at HQ7.out (1 + (s : Int)) (1 + s) (by omega) (by have := HL.out; simp only; omega)).mono ?_
        rintro e w8 ⟨rfl, hd⟩
        have B8 := B7.trans (hd.below B7.size hb hg)
        have HQ8 := Lib.hid hd.1
        clear hd B7
        go_wp2
        go_roundw
        case rel => exact ⟨j + 1, G + (1 + s), by go_num, by omega, by have := HL.out; omega, HQ8.out, B8⟩
        case measure => simp [intOf]; omega
    · obtain rfl : L = 0 := by omega
      obtain rfl : G = 8 * A.length := by omega
      clear hL
      go_wp2_with fail
      refine (HL5.out _ (Below.refl _ _)).mono ?_
      rintro e w6 ⟨rfl, b6⟩
      have HQ6 := Lib.hid (HQ5.out.later b6)
      have B6 := below_chain HB5.out (Nat.le_refl _) b6
      clear b6
      by_cases hmin : (1 + (m : Int)) < (len2 : Int)
      · have hnn : (1 + m : Nat) ≤ cap2 := by omega
        have hnl : (1 + m : Nat) ≤ len2 := by omega
        go_wp2_with fail
        refine (qleft_any HQ6.out).mono ?_
        rintro e w7 ⟨rfl, d7⟩
        have HQ7 := Lib.hid (HQ6.out.later d7)
        have B7 := below_chain B6 (Nat.le_refl _) d7
        clear B6 d7 HQ6
        rw [show ((8 * A.length - 8 * A.length : Nat) : Int) = 0 by omega]
        go_wp2_with fail
        refine (qfree_any HQ7.out).mono ?_
        rintro e w8 ⟨rfl, d8⟩
        have HQ8 := Lib.hid (HQ7.out.later d8)
        have B8 := below_chain B7 (Nat.le_refl _) d8
        clear B7 d8 HQ7
        rw [show ((1 + m - (A.length - 8 * A.length / 8) : Nat) : Int) = 1 + (m : Int) by omega]
        go_wp2_with fail
        refine (feeds_true HQ8.out ((HY.out.later B8).bytA (g := g) B8.size hg) (by have := HY.out.1; simp only; omega) (1 + (m : Int)) 0 (by rw [new_fed, List.length_take, HY.out.1]; omega) (by rfl)).mono ?_
        rintro e w9 ⟨rfl, hd⟩
        have B9 := B8.trans (hd.below B8.size hb hg)
        have hq9 := hd.1
        rw [new_feedQ] at hq9
        have HQ9 := Lib.hid hq9
        clear hd B8 HQ8 hq9
        go_wp2_with fail
        refine (has_true HQ9.out ((HY.out.later B9).byt B9.size (k := 1 + m) (by omega) (by omega)) 0 (by simp only; omega) (new_drop A ys (1 + m) (1 + m) (by have := HY.out.1; omega))).mono ?_
        rintro e w10 ⟨rfl, d10⟩
        have HQ10 := Lib.hid (HQ9.out.later d10)
        have B10 := below_chain B9 (Nat.le_refl _) d10
        clear B9 d10 HQ9
        go_wp2_with fail
        refine (qleft_any HQ10.out).mono ?_
        rintro e w11 ⟨rfl, d11⟩
        have B11 := below_chain B10 (Nat.le_refl _) d11
        clear B10 d11 HQ10
        rw [show ((8 * (A ++ ys.take (1 + m)).length - 8 * A.length : Nat) : Int) = 8 * (1 + (m : Int)) by have := HY.out.1; simp only [List.length_append, List.length_take]; omega]
        go_wp2
        go_ret
        exact ⟨rfl, B11⟩
      · 
        go_wp2_with fail
        refine (qleft_any HQ6.out).mono ?_
        rintro e w7 ⟨rfl, d7⟩
        have HQ7 := Lib.hid (HQ6.out.later d7)
        have B7 := below_chain B6 (Nat.le_refl _) d7
        clear B6 d7 HQ6
        rw [show ((8 * A.length - 8 * A.length : Nat) : Int) = 0 by omega]
        go_wp2_with fail
        refine (qfree_any HQ7.out).mono ?_
        rintro e w8 ⟨rfl, d8⟩
        have HQ8 := Lib.hid (HQ7.out.later d8)
        have B8 := below_chain B7 (Nat.le_refl _) d8
        clear B7 d8 HQ7
        rw [show ((1 + m - (A.length - 8 * A.length / 8) : Nat) : Int) = 1 + (m : Int) by omega]
        go_wp2_with fail
        refine (feeds_true HQ8.out ((HY.out.later B8).bytA (g := g) B8.size hg) (by have := HY.out.1; simp only; omega) ((len2 : Int)) 0 (by rw [new_fed, List.length_take, HY.out.1]; omega) (by rfl)).mono ?_
        rintro e w9 ⟨rfl, hd⟩
        have B9 := B8.trans (hd.below B8.size hb hg)
        have hq9 := hd.1
        rw [new_feedQ] at hq9
        have HQ9 := Lib.hid hq9
        clear hd B8 HQ8 hq9
        go_wp2_with fail
        refine (has_true HQ9.out ((HY.out.later B9).byt B9.size (k := len2) (by omega) (by omega)) 0 (by simp only; omega) (new_drop A ys (1 + m) (len2) (by have := HY.out.1; omega))).mono ?_
        rintro e w10 ⟨rfl, d10⟩
        have HQ10 := Lib.hid (HQ9.out.later d10)
        have B10 := below_chain B9 (Nat.le_refl _) d10
        clear B9 d10 HQ9
        go_wp2_with fail
        refine (qleft_any HQ10.out).mono ?_
        rintro e w11 ⟨rfl, d11⟩
        have B11 := below_chain B10 (Nat.le_refl _) d11
        clear B10 d11 HQ10
        rw [show ((8 * (A ++ ys.take (1 + m)).length - 8 * A.length : Nat) : Int) = 8 * ((len2 : Int)) by have := HY.out.1; simp only [List.length_append, List.length_take]; omega]
        go_wp2
        go_ret
        exact ⟨rfl, B11⟩

end Go.Proofs.Ytglnmaekhpaffaa
