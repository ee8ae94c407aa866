/- The reference's (praxinoscoperef12): code, first, Check, Levels. The reference's (praxinoscoperef12): Put. -/
import Derived.Test.YtbcfiafgolcbpaaGreatDoorYLev
import Derived.Test.YtbcfiafgolcbpaaGreatDoorZRef
import Derived.Test.YtbcfiafgolcbpaaGreatDoorURef
import Derived.Test.YtbcfiafgolcbpaaGreatDoorCRef
import Derived.Deep.RegionWith
/- The reference's (praxinoscoperef12): code, first, Check, Levels. -/
namespace Go.Proofs.YtbcfiafgolcbpaaGreatDoor
open Go.RowKit Go.Shelf
set_option linter.unusedVariables false

theorem r12code_any (n : Int) (w : World) : Calls Tryz.prog 38 #[.int .i64 n] w fun e w' => e = .returned (.bool (dcOk n)) ∧ w = w' := by
  by_cases h1 : 1 ≤ n
  · have q1 : decide ((1 : Int) ≤ n) = true := by simpa using h1
    by_cases h2 : n ≤ 255
    · have q2 : decide (n ≤ (255 : Int)) = true := by simpa using h2
      have e : dcOk n = (n != 128) := by
        unfold dcOk
        by_cases h3 : n = 128 <;> simp [h1, h2, h3]
      rw [e]
      go_enter Tryz.func38, Tryz.ntmps38
      go_wp2_with fail
      go_ret
      exact ⟨rfl, rfl⟩
    · have q2 : decide (n ≤ (255 : Int)) = false := by simp; omega
      have e : dcOk n = false := by unfold dcOk; simp; omega
      rw [e]
      go_enter Tryz.func38, Tryz.ntmps38
      go_wp2_with fail
      go_ret
      exact ⟨rfl, rfl⟩
  · have q1 : decide ((1 : Int) ≤ n) = false := by simp; omega
    have e : dcOk n = false := by unfold dcOk; simp; omega
    rw [e]
    go_enter Tryz.func38, Tryz.ntmps38
    go_wp2_with fail
    go_ret
    exact ⟨rfl, rfl⟩
theorem r12first_any (b : Bool) (w : World) : Calls Tryz.prog 36 #[.bool b] w fun e w' => e = .returned (.int .i64 (fstY b : Nat)) ∧ w = w' := by
  cases b with
  | false =>
    go_enter Tryz.func36, Tryz.ntmps36
    go_wp2_with fail
    go_ret
    exact ⟨rfl, rfl⟩
  | true =>
    go_enter Tryz.func36, Tryz.ntmps36
    go_wp2_with fail
    go_ret
    exact ⟨rfl, rfl⟩
set_option maxRecDepth 100000 in
set_option maxHeartbeats 2000000 in
theorem r12check_any {n₀ : Nat} {w : World} {av : Option Addr} {len cap : Nat} {ps : List (Int × Int)} (hR : RowP n₀ w av len cap ps) (hn : n₀ ≤ w.heap.size) (hlen : len ≤ 1000000) (dc : Int) (intra : Bool) :
    Calls Tryz.prog 24 #[blkV dc (.slice av len cap), .bool intra] w fun e w' => e = .returned (.int .i64 (chkY dc ps intra)) ∧ Below w.heap.size w w' := by
  have hb0 : Below w.heap.size w (w.alloc (.cells #[.int .i64 dc, .slice av len cap] 27 (0, 0))) := (Below.refl _ w).alloc (Nat.le_refl _) _
  obtain ⟨x0, x1⟩ := two_cells w (.int .i64 dc) (.slice av len cap) 27
  have hpl := hR.1
  have HS := Lib.hid (fun (W : World) (hb : Below w.heap.size w W) => r9spread_any (w := W) (hR.below (hb.mono hn)) (Nat.le_trans hn hb.size) hlen (fstY intra : Nat))
  rw [sprR_fst] at HS
  have HB0 := Lib.hid hb0
  have HC := Lib.hid (r12code_any dc)
  have HF := Lib.hid (r12first_any intra)
  clear hR hb0
  have hS5 : chkY dc ps intra = (spr ps (fstY intra) zeros64).1 ∨ chkY dc ps intra ≠ (spr ps (fstY intra) zeros64).1 := Classical.em _
  clear hS5
  cases intra with
  | true =>
    cases hd : dcOk dc with
    | false =>
      rw [hd] at HC
      have e : chkY dc ps true = 10 := by unfold chkY; simp [hd]
      rw [e]
      go_enter Tryz.func24, Tryz.ntmps24
      go_wp2_with fail
      generalize w.alloc (.cells #[.int .i64 dc, .slice av len cap] 27 (0, 0)) = w0 at *
      refine (HC.out w0).mono ?_
      rintro e w1 ⟨rfl, rfl⟩
      go_wp2_with fail
      go_ret
      exact ⟨rfl, HB0.out⟩
    | true =>
      rw [hd] at HC
      have e : chkY dc ps true = (spr ps (fstY true) zeros64).1 := by unfold chkY; simp [hd]
      rw [e]
      go_enter Tryz.func24, Tryz.ntmps24
      go_wp2_with fail
      generalize w.alloc (.cells #[.int .i64 dc, .slice av len cap] 27 (0, 0)) = w0 at *
      refine (HC.out w0).mono ?_
      rintro e w1 ⟨rfl, rfl⟩
      go_wp2_with fail
      go_region_with (first
        | (go_at_call 36; refine (HF.out _).mono ?_; rintro e w' ⟨rfl, rfl⟩)
        | (go_at_call 45; refine (HS.out _ HB0.out.drew).mono ?_; rintro e w2 ⟨v, rfl, ho, b2⟩; have B2 := Lib.hid (HB0.out.drew.trans (b2.mono HB0.out.drew.size))))
      all_goals
        go_wp2_with fail
        go_ret
        exact ⟨rfl, B2.out⟩
  | false =>
    by_cases hd : dc = 0
    · subst hd
      by_cases hp : ps = []
      · have e : chkY 0 ps false = 2 := by unfold chkY; simp [hp]
        obtain rfl : len = 0 := by rw [← hpl, hp]; rfl
        rw [e]
        go_enter Tryz.func24, Tryz.ntmps24
        go_wp2_with fail
        generalize w.alloc (.cells #[.int .i64 0, .slice av 0 cap] 27 (0, 0)) = w0 at *
        go_wp2_with fail
        go_ret
        exact ⟨rfl, HB0.out⟩
      · have e : chkY 0 ps false = (spr ps (fstY false) zeros64).1 := by unfold chkY; simp [hp]
        have q2 : ((len : Int) == 0) = false := by
          have : ps.length ≠ 0 := fun h => hp (List.eq_nil_of_length_eq_zero h)
          simp; omega
        rw [e]
        go_enter Tryz.func24, Tryz.ntmps24
        go_wp2_with fail
        generalize w.alloc (.cells #[.int .i64 0, .slice av len cap] 27 (0, 0)) = w0 at *
        go_wp2_with fail
        go_region_with (first
          | (go_at_call 36; refine (HF.out _).mono ?_; rintro e w' ⟨rfl, rfl⟩)
          | (go_at_call 45; refine (HS.out _ HB0.out.drew).mono ?_; rintro e w2 ⟨v, rfl, ho, b2⟩; have B2 := Lib.hid (HB0.out.drew.trans (b2.mono HB0.out.drew.size))))
        all_goals
          go_wp2_with fail
          go_ret
          exact ⟨rfl, B2.out⟩
    · have e : chkY dc ps false = 2 := by unfold chkY; simp [hd]
      have q2 : (dc != 0) = true := by simpa using hd
      rw [e]
      go_enter Tryz.func24, Tryz.ntmps24
      go_wp2_with fail
      generalize w.alloc (.cells #[.int .i64 dc, .slice av len cap] 27 (0, 0)) = w0 at *
      go_wp2_with fail
      go_ret
      exact ⟨rfl, HB0.out⟩

set_option maxRecDepth 100000 in
set_option maxHeartbeats 2000000 in
theorem r12levels_any {n₀ : Nat} {w : World} {av : Option Addr} {len cap : Nat} {ps : List (Int × Int)} (hR : RowP n₀ w av len cap ps) (hn : n₀ ≤ w.heap.size) (hlen : len ≤ 1000000) (dc : Int) (intra : Bool) :
    Calls Tryz.prog 21 #[blkV dc (.slice av len cap), .bool intra] w fun e w' => ∃ v, e = .returned (.tuple #[v, .int .i64 (levelsY dc ps intra).1]) ∧ OwnI w' w.heap.size v (levelsY dc ps intra).2 ∧ Below w.heap.size w w' := by
  have hb0 : Below w.heap.size w (w.alloc (.cells #[.int .i64 dc, .slice av len cap] 27 (0, 0))) := (Below.refl _ w).alloc (Nat.le_refl _) _
  obtain ⟨x0, x1⟩ := two_cells w (.int .i64 dc) (.slice av len cap) 27
  have hlt : w.heap.size < (w.alloc (.cells #[.int .i64 dc, .slice av len cap] 27 (0, 0))).heap.size := by simp
  have HS := Lib.hid (fun (W : World) (hb : Below w.heap.size w W) => r9spread_any (w := W) (hR.below (hb.mono hn)) (Nat.le_trans hn hb.size) hlen (fstY intra : Nat))
  rw [sprR_fst] at HS
  have HB0 := Lib.hid hb0
  have HC := Lib.hid (r12check_any (hR.below (hb0.mono hn)) (Nat.le_trans hn hb0.size) hlen dc intra)
  have HF := Lib.hid (r12first_any intra)
  clear hR hb0
  by_cases hck : chkY dc ps intra = 0
  · have e1 : (spr ps (fstY intra) zeros64).1 = 0 := (okPs_spr _ _ _ (by unfold fstY; split <;> omega)).2 (chkY_ok hck).2.2
    have e2 : levelsY dc ps intra = (0, (spr ps (fstY intra) zeros64).2) := by unfold levelsY; rw [if_neg (by simp [hck])]
    rw [e2]
    rw [e1] at HS
    rw [hck] at HC
    generalize (spr ps (fstY intra) zeros64).2 = ls at *
    clear e1 e2 hck
    go_enter Tryz.func21, Tryz.ntmps21
    go_wp2_with fail
    generalize w.alloc (.cells #[.int .i64 dc, .slice av len cap] 27 (0, 0)) = w0 at *
    refine HC.out.mono ?_
    rintro e w1 ⟨rfl, b1⟩
    have y1 := (b1.cell (p := ⟨w.heap.size, 1, none⟩) hlt).trans x1
    have B1 := Lib.hid (HB0.out.trans (b1.mono HB0.out.size))
    clear b1 x0 x1 HC
    go_wp2_with fail
    go_region_with (first
      | (go_at_call 36; refine (HF.out _).mono ?_; rintro e w' ⟨rfl, rfl⟩)
      | (go_at_call 45; refine (HS.out _ B1.out.drew).mono ?_; rintro e w2 ⟨v, rfl, ho, b2⟩; have B2 := Lib.hid (B1.out.drew.trans (b2.mono B1.out.drew.size)); have HO := Lib.hid ho))
    all_goals
      go_wp2_with fail
      go_ret2
      exact ⟨v, rfl, ownI_base HO.out (by have := B1.out.size; show w.heap.size ≤ w1.heap.size; omega), B2.out⟩
  · have e2 : levelsY dc ps intra = (chkY dc ps intra, []) := by unfold levelsY; rw [if_pos hck]
    rw [e2]
    generalize chkY dc ps intra = er at *
    have q3 : (er == 0) = false := by simpa using hck
    clear HS e2
    go_enter Tryz.func21, Tryz.ntmps21
    go_wp2_with fail
    generalize w.alloc (.cells #[.int .i64 dc, .slice av len cap] 27 (0, 0)) = w0 at *
    refine HC.out.mono ?_
    rintro e w1 ⟨rfl, b1⟩
    have B1 := Lib.hid (HB0.out.trans (b1.mono HB0.out.size))
    clear b1
    go_wp2_with fail
    go_ret2
    exact ⟨_, rfl, ownI_nil _ _, B1.out⟩

set_option maxRecDepth 100000 in
set_option maxHeartbeats 2000000 in
theorem r12resid_any {n₀ : Nat} {w : World} {av : Option Addr} {len cap : Nat} {ps : List (Int × Int)} (hR : RowP n₀ w av len cap ps) (hn : n₀ ≤ w.heap.size) (hlen : len ≤ 1000000) (dc q : Int) (intra : Bool) :
    Calls Tryz.prog 27 #[blkV dc (.slice av len cap), .int .i64 q, .bool intra] w fun e w' => ∃ v, e = .returned (.tuple #[v, .int .i64 (residY dc ps q intra).1]) ∧ OwnI w' w.heap.size v (residY dc ps q intra).2 ∧ Below w.heap.size w w' := by
  have hb0 : Below w.heap.size w (w.alloc (.cells #[.int .i64 dc, .slice av len cap] 27 (0, 0))) := (Below.refl _ w).alloc (Nat.le_refl _) _
  obtain ⟨x0, x1⟩ := two_cells w (.int .i64 dc) (.slice av len cap) 27
  have hlt : w.heap.size < (w.alloc (.cells #[.int .i64 dc, .slice av len cap] 27 (0, 0))).heap.size := by simp
  have HB0 := Lib.hid hb0
  have HC := Lib.hid (r12levels_any (hR.below (hb0.mono hn)) (Nat.le_trans hn hb0.size) hlen dc intra)
  clear hR hb0
  by_cases hck : chkY dc ps intra = 0
  · have e2 : levelsY dc ps intra = (0, (spr ps (fstY intra) zeros64).2) := by unfold levelsY; rw [if_neg (by simp [hck])]
    have e3 : residY dc ps q intra = if (worthY dc ps q intra).1 ≠ 0 then ((worthY dc ps q intra).1, []) else invR (worthY dc ps q intra).2 := by unfold residY; rw [if_neg (by simp [hck])]
    have e4 : worthY dc ps q intra = if intra then intraU (spr ps (fstY intra) zeros64).2 q dc else interU (spr ps (fstY intra) zeros64).2 q := by unfold worthY; rw [e2]
    have h64 : (spr ps (fstY intra) zeros64).2.length ≤ 64 := spr_len_le ps _ zeros64 (by decide)
    rw [e4] at e3
    obtain ⟨re, rl, hre⟩ : ∃ re rl, residY dc ps q intra = (re, rl) := ⟨_, _, rfl⟩
    rw [hre] at e3 ⊢
    have HI0 := Lib.hid (fun (hi : intra = false) => (by subst hi; simpa only [Bool.false_eq_true, if_false] using e3 : (re, rl) = if (interU (spr ps (fstY intra) zeros64).2 q).1 ≠ 0 then ((interU (spr ps (fstY intra) zeros64).2 q).1, []) else invR (interU (spr ps (fstY intra) zeros64).2 q).2))
    have HI1 := Lib.hid (fun (hi : intra = true) => (by subst hi; simpa only [if_true] using e3 : (re, rl) = if (intraU (spr ps (fstY intra) zeros64).2 q dc).1 ≠ 0 then ((intraU (spr ps (fstY intra) zeros64).2 q dc).1, []) else invR (intraU (spr ps (fstY intra) zeros64).2 q dc).2))
    clear hre
    rw [e2] at HC
    simp only at HC
    generalize (spr ps (fstY intra) zeros64).2 = ls at *
    clear e2 e3 e4 hck
    go_enter Tryz.func27, Tryz.ntmps27
    go_wp2_with fail
    generalize w.alloc (.cells #[.int .i64 dc, .slice av len cap] 27 (0, 0)) = w0 at *
    refine HC.out.mono ?_
    rintro e w1 ⟨lv, rfl, ⟨lt, lo⟩, b1⟩
    have y0 := (b1.cell (p := ⟨w.heap.size, 0, none⟩) hlt).trans x0
    have B1 := Lib.hid (HB0.out.trans (b1.mono HB0.out.size))
    obtain ⟨la, lc, rfl, hr⟩ := rowV_own4 lo
    have hlt1 : w.heap.size < w1.heap.size := by have := b1.size; omega
    clear b1 x0 x1 HC lo
    have HI := Lib.hid (r10inter_any hr (Nat.le_refl _) (by omega) q)
    have HN := Lib.hid (fun W (hb : Below w1.heap.size w1 W) => r10intra_any (w := W) (hr.below hb) hb.size (by omega) q dc)
    clear hr
    go_wp2_with fail
    refine HI.out.mono ?_
    rintro e w2 ⟨v2, rfl, o2, b2⟩
    have z0 := (b2.cell (p := ⟨w.heap.size, 0, none⟩) (by simp; omega)).trans y0
    have hlt2 : w.heap.size < w2.heap.size := by have := b2.size; omega
    obtain ⟨a2, c2, rfl, hr2⟩ := rowV_own4 o2
    have B2 := Lib.hid (B1.out.trans (b2.mono B1.out.size))
    have HN2 := Lib.hid (HN.out w2 b2)
    clear b2 y0 o2
    cases intra with
    | false =>
      clear HN2 HN
      have h64' : (interU ls q).2.length ≤ 64 := Nat.le_trans (interY_len ls q) h64
      have hres := HI0.out rfl
      clear HI0 HI1
      generalize interU ls q = u at *
      obtain ⟨ue, ul⟩ := u
      simp only at hr2 h64' hres ⊢
      have HV := Lib.hid (r11inv_any hr2 (Nat.le_refl _) (by omega))
      clear hr2
      by_cases hu : ue = 0
      · subst hu
        simp only [ne_eq, not_true_eq_false, if_false] at hres
        obtain ⟨hr1, hr2'⟩ := Prod.mk.inj (hres.trans (Prod.eta _).symm)
        go_wp2_with fail
        refine HV.out.mono ?_
        rintro e w3 ⟨v3, rfl, o3, b3⟩
        have B3 := Lib.hid (B2.out.trans (b3.mono B2.out.size))
        have hsz2 := B2.out.size
        go_wp2_with fail
        go_ret2
        exact ⟨_, by first | rfl | (rw [hr1]; rfl), by first | exact ownI_base ⟨_, o3⟩ hsz2 | (rw [hr2']; exact ownI_base ⟨_, o3⟩ hsz2), B3.out⟩
      · have q3 : (ue == 0) = false := by simpa using hu
        rw [if_pos hu] at hres
        obtain ⟨hr1, hr2'⟩ := Prod.mk.inj hres
        go_wp2_with fail
        go_ret2
        exact ⟨_, by first | rfl | (rw [hr1]; rfl), by first | exact ownI_nil _ _ | (rw [hr2']; exact ownI_nil _ _), B2.out⟩
    | true =>
      clear hr2
      have h64' : (intraU ls q dc).2.length ≤ 64 := Nat.le_trans (intraY_len ls q dc) h64
      have hres := HI1.out rfl
      clear HI0 HI1
      go_wp2_with fail
      refine HN2.out.mono ?_
      rintro e w3 ⟨v3, rfl, o3, b3⟩
      obtain ⟨a3, c3, rfl, hr3⟩ := rowV_own4 o3
      have B3 := Lib.hid (B2.out.trans (b3.mono B2.out.size))
      generalize intraU ls q dc = u at *
      obtain ⟨ue, ul⟩ := u
      simp only at hr3 h64' hres ⊢
      have HV := Lib.hid (r11inv_any hr3 (Nat.le_refl _) (by omega))
      clear hr3 b3 o3
      by_cases hu : ue = 0
      · subst hu
        simp only [ne_eq, not_true_eq_false, if_false] at hres
        obtain ⟨hr1, hr2'⟩ := Prod.mk.inj (hres.trans (Prod.eta _).symm)
        go_wp2_with fail
        refine HV.out.mono ?_
        rintro e w4 ⟨v4, rfl, o4, b4⟩
        have B4 := Lib.hid (B3.out.trans (b4.mono B3.out.size))
        have hsz3 := B3.out.size
        go_wp2_with fail
        go_ret2
        exact ⟨_, by first | rfl | (rw [hr1]; rfl), by first | exact ownI_base ⟨_, o4⟩ hsz3 | (rw [hr2']; exact ownI_base ⟨_, o4⟩ hsz3), B4.out⟩
      · have q3 : (ue == 0) = false := by simpa using hu
        rw [if_pos hu] at hres
        obtain ⟨hr1, hr2'⟩ := Prod.mk.inj hres
        go_wp2_with fail
        go_ret2
        exact ⟨_, by first | rfl | (rw [hr1]; rfl), by first | exact ownI_nil _ _ | (rw [hr2']; exact ownI_nil _ _), B3.out⟩
  · have e2 : levelsY dc ps intra = (chkY dc ps intra, []) := by unfold levelsY; rw [if_pos hck]
    have e3 : residY dc ps q intra = (chkY dc ps intra, []) := by unfold residY; rw [if_pos hck]
    rw [e3]
    rw [e2] at HC
    generalize chkY dc ps intra = er at *
    have q3 : (er == 0) = false := by simpa using hck
    clear e2 e3
    go_enter Tryz.func27, Tryz.ntmps27
    go_wp2_with fail
    generalize w.alloc (.cells #[.int .i64 dc, .slice av len cap] 27 (0, 0)) = w0 at *
    refine HC.out.mono ?_
    rintro e w1 ⟨lv, rfl, _, b1⟩
    have B1 := Lib.hid (HB0.out.trans (b1.mono HB0.out.size))
    clear b1
    go_wp2_with fail
    go_ret2
    exact ⟨_, rfl, ownI_nil _ _, B1.out⟩

end Go.Proofs.YtbcfiafgolcbpaaGreatDoor

/- The reference's (praxinoscoperef12): Put. -/
namespace Go.Proofs.YtbcfiafgolcbpaaGreatDoor
open Go.RowKit Go.Shelf
set_option linter.unusedVariables false

/-- the first bits of a code's eight -/
def hd8 (d k : Nat) : ByteArray := ⟨((binL d 8).take k).toArray⟩
theorem hd8_size (d k : Nat) (h : k ≤ 8) : (hd8 d k).size = k := by
  show ((binL d 8).take k).toArray.size = k
  simp [binL_len, h]
theorem hd8_succ (d k : Nat) (h : k < 8) : hd8 d k ++ (⟨#[UInt8.ofNat (48 + d / 2 ^ (7 - k) % 2)]⟩ : ByteArray) = hd8 d (k + 1) := by
  apply ByteArray.ext
  apply Array.toList_inj.1
  unfold hd8
  rw [ByteArray.data_append]
  simp only [Array.toList_append]
  rw [List.take_succ_eq_append_getElem (by rw [binL_len]; exact h)]
  congr 1
  simp [binL, cbit]
theorem hd8_all (d : Nat) : hd8 d 8 = binS d 8 := by
  unfold hd8 binS
  rw [List.take_of_length_le (by rw [binL_len]; omega)]

set_option maxRecDepth 100000 in
set_option maxHeartbeats 4000000 in
theorem r12put_any {n₀ : Nat} {w : World} {av : Option Addr} {len cap : Nat} {ps : List (Int × Int)} (hR : RowP n₀ w av len cap ps) (hn : n₀ ≤ w.heap.size) (hlen : len ≤ 1000000) (dc : Int) (intra : Bool) :
    Calls Tryz.prog 19 #[blkV dc (.slice av len cap), .bool intra] w fun e w' => e = .returned (.tuple #[.string (if chkY dc ps intra = 0 then putTY dc ps intra else ⟨#[]⟩), .int .i64 (chkY dc ps intra)]) ∧ Below w.heap.size w w' := by
  obtain ⟨x0, x1⟩ := two_cells w (.int .i64 dc) (.slice av len cap) 27
  have hb0 : Below w.heap.size w (w.alloc (.cells #[.int .i64 dc, .slice av len cap] 27 (0, 0))) := (Below.refl _ w).alloc (Nat.le_refl _) _
  have hlt : w.heap.size < (w.alloc (.cells #[.int .i64 dc, .slice av len cap] 27 (0, 0))).heap.size := by simp
  have HC := Lib.hid (r12check_any (hR.below (hb0.mono hn)) (Nat.le_trans hn hb0.size) hlen dc intra)
  have HB0 := Lib.hid hb0
  have HR := Lib.hid (hR.mono hn)
  clear hR hb0
  by_cases hck : chkY dc ps intra = 0
  · obtain ⟨c1, c2, c3⟩ := chkY_ok hck
    have hlen64 := okPs_len _ _ c3
    have hpl := HR.out.1
    have hlen : len ≤ 64 := by omega
    rw [hck] at HC ⊢
    simp only [if_true]
    obtain ⟨T, hTd⟩ : ∃ T, putTY dc ps intra = T := ⟨_, rfl⟩
    have htsz : T.size ≤ 2000 := by
      have := (putTY_size dc ps intra).2
      rw [hTd] at this
      omega
    rw [hTd]
    have HTd : Hid ((if intra then binS dc.toNat 8 else (⟨#[]⟩ : ByteArray)) ++ textY ps (!intra) = T) := hTd
    have HOk := Lib.hid c3
    clear hTd c3 c2 hck hpl hlen64
    cases intra with
    | true =>
      have hd := (dcOk_iff dc).1 (c1 rfl)
      obtain ⟨d, rfl⟩ : ∃ d : Nat, dc = d := ⟨dc.toNat, by omega⟩
      simp only [if_true, Int.toNat_natCast, Bool.not_true] at HTd
      clear c1
      go_enter Tryz.func19, Tryz.ntmps19
      go_wp2_with fail
      generalize w.alloc (.cells #[.int .i64 (d : Int), .slice av len cap] 27 (0, 0)) = w0 at *
      refine HC.out.mono ?_
      rintro e w1 ⟨rfl, b1⟩
      have y0 := (b1.cell (p := ⟨w.heap.size, 0, none⟩) hlt).trans x0
      have y1 := (b1.cell (p := ⟨w.heap.size, 1, none⟩) hlt).trans x1
      have hs1 := b1.size
      have B1 := Lib.hid (HB0.out.trans (b1.mono HB0.out.size))
      have Y0 := Lib.hid y0
      have Y1 := Lib.hid y1
      have hlt1 : w.heap.size < w1.heap.size := by omega
      clear b1 x0 x1 y0 y1 HB0 HC
      go_wp2_with fail
      go_loopw [7, 8] (fun s i wr => ∃ k : Nat, k ≤ 8 ∧ i = .int .i64 (7 - (k : Int)) ∧ s = .string (hd8 d k) ∧ Below w1.heap.size w1 wr) (fun _ i _ => (intOf i + 1).toNat)
      case atStart => exact ⟨0, by omega, by simp, rfl, Below.refl _ _⟩
      case round =>
        obtain ⟨k, hk, rfl, rfl, hb⟩ := hrel
        have HB := Lib.hid hb
        have z0 := (hb.cell (p := ⟨w.heap.size, 0, none⟩) hlt1).trans Y0.out
        clear hb
        by_cases hk8 : k < 8
        · obtain ⟨m, hm⟩ : ∃ m : Nat, 7 - (k : Int) = m := ⟨7 - k, by omega⟩
          have hm7 : m ≤ 7 := by omega
          have hsz := hd8_size d k hk
          have HM := Lib.hid hm
          rw [hm]
          have hsucc := hd8_succ d k hk8
          rw [show 7 - k = m by omega] at hsucc
          have HSc := Lib.hid hsucc
          clear hm hsucc
          generalize hd8 d k = s at *
          obtain hbit | hbit : d / 2 ^ m % 2 = 0 ∨ d / 2 ^ m % 2 = 1 := by omega
          · have ht : ((d : Int) / 2 ^ m).tmod 2 = 0 := by
              have : ((d : Int) / 2 ^ m) = ((d / 2 ^ m : Nat) : Int) := by simp
              rw [this, Int.tmod_eq_emod_of_nonneg (Int.natCast_nonneg _)]
              omega
            have hcv : (convert 22 9 (.slice (some ⟨wr.heap.size, 0, none⟩) 1 1)).run Tryz.prog (wr.alloc (.cells #[.int .u8 48] 5 (0, 0))) = .ok (.string ⟨#[48]⟩) (wr.alloc (.cells #[.int .u8 48] 5 (0, 0))) := conv_one wr 48
            have hsum : s.size + (⟨#[48]⟩ : ByteArray).size ≤ 100 := by show s.size + 1 ≤ 100; omega
            rw [hbit] at HSc
            have HBa := Lib.hid (HB.out.alloc HB.out.size (.cells #[.int .u8 48] 5 (0, 0)))
            clear hbit
            go_wp2_with fail
            refine ⟨⟨k + 1, by omega, by congr 1; have := HM.out; omega, congrArg Value.string HSc.out, HBa.out⟩, by simp [intOf] <;> omega⟩
          · have ht : ((d : Int) / 2 ^ m).tmod 2 = 1 := by
              have : ((d : Int) / 2 ^ m) = ((d / 2 ^ m : Nat) : Int) := by simp
              rw [this, Int.tmod_eq_emod_of_nonneg (Int.natCast_nonneg _)]
              omega
            have hcv : (convert 22 9 (.slice (some ⟨wr.heap.size, 0, none⟩) 1 1)).run Tryz.prog (wr.alloc (.cells #[.int .u8 49] 5 (0, 0))) = .ok (.string ⟨#[49]⟩) (wr.alloc (.cells #[.int .u8 49] 5 (0, 0))) := conv_one wr 49
            have hsum : s.size + (⟨#[49]⟩ : ByteArray).size ≤ 100 := by show s.size + 1 ≤ 100; omega
            rw [hbit] at HSc
            have HBa := Lib.hid (HB.out.alloc HB.out.size (.cells #[.int .u8 49] 5 (0, 0)))
            clear hbit
            go_wp2_with fail
            refine ⟨⟨k + 1, by omega, by congr 1; have := HM.out; omega, congrArg Value.string HSc.out, HBa.out⟩, by simp [intOf] <;> omega⟩
        · obtain rfl : k = 8 := by omega
          have HB8 := Lib.hid (hd8_all d)
          rw [hd8_all d]
          generalize binS d 8 = s8 at *
          rw [show (7 - ((8 : Nat) : Int)) = -1 by omega]
          go_wp2_with fail
          clear z0
          go_loopw [7, 9] (fun s i wr => ∃ (j : Nat) (acc : ByteArray) (pl : Nat), i = .int .i64 j ∧ j ≤ len ∧ okPs (ps.drop j) pl ∧ s = .string acc ∧ acc ++ textY (ps.drop j) false = T ∧ Below w1.heap.size w1 wr) (fun _ i _ => len - (intOf i).toNat)
          case atStart => exact ⟨0, s8, _, rfl, by omega, HOk.out, rfl, HTd.out, HB.out⟩
          case round =>
            obtain ⟨j, acc, pl, rfl, hj, hok, rfl, hacc, hb⟩ := hrel
            have HB := Lib.hid hb
            have HA := Lib.hid hacc
            have z1 := (hb.cell (p := ⟨w.heap.size, 1, none⟩) hlt1).trans Y1.out
            have hal : acc.size ≤ 2000 := by
              have := congrArg ByteArray.size hacc
              rw [ByteArray.size_append] at this
              omega
            clear hacc hb
            have hsz := HB.out.size
            by_cases hj2 : j < len
            · have hjp : j < ps.length := by have := HR.out.1; omega
              have hd : ps.drop j = ps[j] :: ps.drop (j + 1) := List.drop_eq_getElem_cons hjp
              rw [hd] at HA hok
              have hpj : ps[j]? = some ps[j] := List.getElem?_eq_getElem hjp
              rcases HR.out.2.2.2 with h0 | ⟨b, off, rfl, hbl, hc⟩
              · have := HR.out.2.1
                omega
              have hb2 : b < w.heap.size := hbl (by omega)
              obtain ⟨x1, x2⟩ := hc.below (B1.out.trans (HB.out.mono (by omega))) hb2 j _ hpj
              clear hd hpj hc hbl
              generalize ps[j] = p at *
              obtain ⟨r, l⟩ := p
              simp only at x1 x2
              have hp := okPs_pair hok
              have HOk2 := Lib.hid hok.2.2.2
              have hpl1 : -127 ≤ l ∧ l ≤ 127 := by
                have := hp
                unfold isP at this
                rw [decide_eq_true_iff] at this
                omega
              have q1 : (j : Int) < (len : Int) := by omega
              have q2 : (0 : Int) ≤ (j : Int) := by omega
              have hb3 : b < wr.heap.size := by omega
              have HPut := Lib.hid (fun fs => r8put_any r l fs wr (by omega) (by omega))
              have hps : ∀ fs, putS8 fs r l = putP fs r l := fun fs => by unfold putS8; rw [hp]; rfl
              have hpe : putE8 r l = 0 := by unfold putE8; rw [hp]; rfl
              clear hok
              have HPf := Lib.hid (HPut.out false)
              rw [hps false, hpe] at HPf
              have HA2 : Hid ((acc ++ putP false r l) ++ textY (ps.drop (j + 1)) false = T) := by
                show _ = _
                have := HA.out
                skip
                rw [ByteArray.append_assoc]
                exact this
              have hpsz := (putP_size false r l).2.1
              clear HPut hps hpe hp
              generalize putP false r l = s at *
              have hsum : acc.size + s.size ≤ 3000 := by omega
              go_wp2_with (go_at_call 42; refine HPf.out.mono ?_; rintro e w3 ⟨rfl, b3⟩; have HB3 := Lib.hid (HB.out.trans (b3.mono hsz)); clear b3)
              go_roundw
              case rel => exact ⟨j + 1, acc ++ s, _, by go_num, by omega, HOk2.out, rfl, HA2.out, HB3.out⟩
              case measure => simp [intOf]; omega
            · obtain rfl : j = len := by omega
              have hnil : ps.drop j = [] := List.drop_eq_nil_of_le (by have := HR.out.1; omega)
              rw [hnil] at HA
              have hsum : acc.size + (⟨#[49, 48]⟩ : ByteArray).size ≤ 3000 := by show acc.size + 2 ≤ 3000; omega
              have HT2 : Hid (acc ++ (⟨#[49, 48]⟩ : ByteArray) = T) := HA.out
              go_wp2_with fail
              go_ret2
              exact ⟨by rw [HT2.out]; rfl, B1.out.trans (HB.out.mono (by omega))⟩
    | false =>
      simp only [Bool.false_eq_true, if_false, Bool.not_false] at HTd
      clear c1
      go_enter Tryz.func19, Tryz.ntmps19
      go_wp2_with fail
      generalize w.alloc (.cells #[.int .i64 dc, .slice av len cap] 27 (0, 0)) = w0 at *
      refine HC.out.mono ?_
      rintro e w1 ⟨rfl, b1⟩
      have y1 := (b1.cell (p := ⟨w.heap.size, 1, none⟩) hlt).trans x1
      have hs1 := b1.size
      have B1 := Lib.hid (HB0.out.trans (b1.mono HB0.out.size))
      have Y1 := Lib.hid y1
      have hlt1 : w.heap.size < w1.heap.size := by omega
      clear b1 x0 x1 y1 HB0 HC
      go_wp2_with fail
      go_loopw [7, 8] (fun s i wr => s = .string ⟨#[]⟩ ∧ i = .int .i64 7 ∧ w1 = wr) (fun _ _ _ => 0)
      case atStart => exact ⟨rfl, rfl, rfl⟩
      case round =>
        obtain ⟨rfl, rfl, rfl⟩ := hrel
        go_wp2_with fail
        go_loopw [7, 9] (fun s i wr => ∃ (j : Nat) (acc : ByteArray) (pl : Nat), i = .int .i64 j ∧ j ≤ len ∧ okPs (ps.drop j) pl ∧ s = .string acc ∧ acc ++ textY (ps.drop j) (j == 0) = T ∧ Below w1.heap.size w1 wr) (fun _ i _ => len - (intOf i).toNat)
        case atStart => exact ⟨0, ⟨#[]⟩, _, rfl, by omega, HOk.out, rfl, HTd.out, Below.refl _ _⟩
        case round =>
          obtain ⟨j, acc, pl, rfl, hj, hok, rfl, hacc, hb⟩ := hrel
          have HB := Lib.hid hb
          have HA := Lib.hid hacc
          have z1 := (hb.cell (p := ⟨w.heap.size, 1, none⟩) hlt1).trans Y1.out
          have hal : acc.size ≤ 2000 := by
            have := congrArg ByteArray.size hacc
            rw [ByteArray.size_append] at this
            omega
          clear hacc hb
          have hsz := HB.out.size
          by_cases hj2 : j < len
          · have hjp : j < ps.length := by have := HR.out.1; omega
            have hd : ps.drop j = ps[j] :: ps.drop (j + 1) := List.drop_eq_getElem_cons hjp
            rw [hd] at HA hok
            have hpj : ps[j]? = some ps[j] := List.getElem?_eq_getElem hjp
            rcases HR.out.2.2.2 with h0 | ⟨b, off, rfl, hbl, hc⟩
            · have := HR.out.2.1
              omega
            have hb2 : b < w.heap.size := hbl (by omega)
            obtain ⟨x1, x2⟩ := hc.below (B1.out.trans (HB.out.mono (by omega))) hb2 j _ hpj
            clear hd hpj hc hbl
            generalize ps[j] = p at *
            obtain ⟨r, l⟩ := p
            simp only at x1 x2
            have hp := okPs_pair hok
            have HOk2 := Lib.hid hok.2.2.2
            have hpl1 : -127 ≤ l ∧ l ≤ 127 := by
              have := hp
              unfold isP at this
              rw [decide_eq_true_iff] at this
              omega
            have q1 : (j : Int) < (len : Int) := by omega
            have q2 : (0 : Int) ≤ (j : Int) := by omega
            have hb3 : b < wr.heap.size := by omega
            have HPut := Lib.hid (fun fs => r8put_any r l fs wr (by omega) (by omega))
            have hps : ∀ fs, putS8 fs r l = putP fs r l := fun fs => by unfold putS8; rw [hp]; rfl
            have hpe : putE8 r l = 0 := by unfold putE8; rw [hp]; rfl
            clear hok
            by_cases hj0 : j = 0
            · have qj : ((j : Int) == 0) = true := by simpa using hj0
              have qn : (j == 0) = true := by simpa using hj0
              clear hj0
              have HPf := Lib.hid (HPut.out true)
              rw [hps true, hpe] at HPf
              have HA2 : Hid ((acc ++ putP true r l) ++ textY (ps.drop (j + 1)) false = T) := by
                show _ = _
                have := HA.out
                rw [qn] at this
                rw [ByteArray.append_assoc]
                exact this
              have hpsz := (putP_size true r l).2.1
              clear HPut hps hpe hp
              generalize putP true r l = s at *
              have hsum : acc.size + s.size ≤ 3000 := by omega
              go_wp2_with (go_at_call 42; refine HPf.out.mono ?_; rintro e w3 ⟨rfl, b3⟩; have HB3 := Lib.hid (HB.out.trans (b3.mono hsz)); clear b3)
              go_roundw
              case rel => exact ⟨j + 1, acc ++ s, _, by go_num, by omega, HOk2.out, rfl, (by rw [show (j + 1 == 0) = false by simp]; exact HA2.out), HB3.out⟩
              case measure => simp [intOf]; omega
            · have qj : ((j : Int) == 0) = false := by simpa using hj0
              have qn : (j == 0) = false := by simpa using hj0
              have HPf := Lib.hid (HPut.out false)
              rw [hps false, hpe] at HPf
              have HA2 : Hid ((acc ++ putP false r l) ++ textY (ps.drop (j + 1)) false = T) := by
                show _ = _
                have := HA.out
                rw [qn] at this
                rw [ByteArray.append_assoc]
                exact this
              have hpsz := (putP_size false r l).2.1
              clear HPut hps hpe hp
              generalize putP false r l = s at *
              have hsum : acc.size + s.size ≤ 3000 := by omega
              go_wp2_with (go_at_call 42; refine HPf.out.mono ?_; rintro e w3 ⟨rfl, b3⟩; have HB3 := Lib.hid (HB.out.trans (b3.mono hsz)); clear b3)
              go_roundw
              case rel => exact ⟨j + 1, acc ++ s, _, by go_num, by omega, HOk2.out, rfl, (by rw [show (j + 1 == 0) = false by simp]; exact HA2.out), HB3.out⟩
              case measure => simp [intOf]; omega
          · obtain rfl : j = len := by omega
            have hnil : ps.drop j = [] := List.drop_eq_nil_of_le (by have := HR.out.1; omega)
            rw [hnil] at HA
            have hsum : acc.size + (⟨#[49, 48]⟩ : ByteArray).size ≤ 3000 := by show acc.size + 2 ≤ 3000; omega
            have HT2 : Hid (acc ++ (⟨#[49, 48]⟩ : ByteArray) = T) := HA.out
            go_wp2_with fail
            go_ret2
            exact ⟨by rw [HT2.out]; rfl, B1.out.trans (HB.out.mono (by omega))⟩
  · rw [if_neg hck]
    generalize chkY dc ps intra = er at *
    have q3 : (er != 0) = true := by simpa using hck
    clear hck
    go_enter Tryz.func19, Tryz.ntmps19
    go_wp2_with fail
    generalize w.alloc (.cells #[.int .i64 dc, .slice av len cap] 27 (0, 0)) = w0 at *
    refine HC.out.mono ?_
    rintro e w1 ⟨rfl, b1⟩
    have B1 := Lib.hid (HB0.out.trans (b1.mono HB0.out.size))
    clear b1
    go_wp2_with fail
    go_ret2
    exact ⟨rfl, B1.out⟩

end Go.Proofs.YtbcfiafgolcbpaaGreatDoor
