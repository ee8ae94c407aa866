/- The contracts of the reference pen's Put and Code. -/
import Derived.Test.YtglnmaekhpaffaaRef
namespace Go.Proofs.Ytglnmaekhpaffaa
open Go.RowKit Go.Shelf
set_option linter.unusedVariables false

set_option maxHeartbeats 400000 in
theorem refPut_range {w : World} {b : Nat} (n k : Int) (hr : k < 0 ∨ 32 < k ∨ n < 0) :
    Calls Try.prog 16 #[.pointer (some ⟨b, 0, none⟩), .int .i64 n, .int .i64 k] w fun e w' => e = .returned (.int .i64 3) ∧ w = w' := by
  by_cases h1 : k < 0
  · go_enter Try.func16, Try.ntmps16
    go_wp2
    go_ret
    exact ⟨rfl, rfl⟩
  · by_cases h2 : 32 < k
    · go_enter Try.func16, Try.ntmps16
      go_wp2
      go_ret
      exact ⟨rfl, rfl⟩
    · have h3 : n < 0 := by omega
      go_enter Try.func16, Try.ntmps16
      go_wp2
      go_ret
      exact ⟨rfl, rfl⟩

theorem pow_le32 {k : Nat} (h : k ≤ 32) : (2 : Int) ^ k ≤ 4294967296 ∧ 0 < (2 : Int) ^ k := by
  have h1 : 2 ^ k ≤ 2 ^ 32 := Nat.pow_le_pow_right (by omega) h
  have h2 : 0 < 2 ^ k := Nat.two_pow_pos k
  have e : ((2 ^ k : Nat) : Int) = (2 : Int) ^ k := by simp
  rw [← e]
  omega

set_option maxHeartbeats 400000 in
theorem refPut_big {w : World} {b : Nat} (n : Int) (k : Nat) (h2 : k ≤ 32) (h3 : 0 ≤ n) (hr : n / 2 ^ k ≠ 0) :
    Calls Try.prog 16 #[.pointer (some ⟨b, 0, none⟩), .int .i64 n, .int .i64 k] w fun e w' => e = .returned (.int .i64 3) ∧ w = w' := by
  obtain ⟨hp1, hp2⟩ := pow_le32 h2
  have hge : (2 : Int) ^ k ≤ n := by
    false_or_by_contra
    exact hr (Int.ediv_eq_zero_of_lt h3 (by omega))
  go_enter Try.func16, Try.ntmps16
  go_wp2
  go_ret
  exact ⟨rfl, rfl⟩

set_option maxHeartbeats 400000 in
theorem refPut_long {w : World} {b : Nat} {g : Option Nat} {L : List Bool} (h : IsRef w b g L) (n : Int) (k : Nat) (h2 : k ≤ 32) (h3 : 0 ≤ n) (hr : n / 2 ^ k = 0) (hl : 16777216 - (L.length : Int) < k) :
    Calls Try.prog 16 #[.pointer (some ⟨b, 0, none⟩), .int .i64 n, .int .i64 k] w fun e w' => e = .returned (.int .i64 4) ∧ w = w' := by
  obtain ⟨hp1, hp2⟩ := pow_le32 h2
  have hlt : n < (2 : Int) ^ k := by
    false_or_by_contra
    have h4 : (1 : Int) ≤ n / 2 ^ k := Int.le_ediv_of_mul_le hp2 (by omega)
    omega
  obtain ⟨v, rfl, hb, hrow, hl24⟩ := h
  obtain ⟨cv, fv⟩ := ref_cell hb
  obtain ⟨av, capv, rfl⟩ : ∃ av capv, v = .slice av L.length capv := by
    rcases hrow.2 with ⟨rfl, e⟩ | ⟨g', cap, cur, rfl, _⟩
    · exact ⟨none, 0, by rw [e]⟩
    · exact ⟨_, cap, rfl⟩
  clear hb hrow hr
  go_enter Try.func16, Try.ntmps16
  go_wp2
  go_ret
  exact ⟨rfl, rfl⟩

set_option maxRecDepth 100000 in
set_option maxHeartbeats 1000000 in
theorem refPut_ok {w : World} {b : Nat} {g : Option Nat} {L : List Bool} (h : IsRef w b g L) (n k : Nat) (h2 : k ≤ 32) (hr : n / 2 ^ k = 0) (hn : n ≤ 9223372036854775807) (hl : L.length + k ≤ 16777216) :
    Calls Try.prog 16 #[.pointer (some ⟨b, 0, none⟩), .int .i64 n, .int .i64 k] w fun e w' => e = .returned (.int .i64 0) ∧ RefWrote w w' b g (L ++ numBits n k) := by
  obtain ⟨hp1, hp2⟩ := pow_le32 h2
  have hlt : (n : Int) < 2 ^ k := by
    have : n < 2 ^ k := by
      false_or_by_contra
      have := Nat.div_pos (show 2 ^ k ≤ n by omega) (Nat.two_pow_pos k)
      omega
    have e : ((2 ^ k : Nat) : Int) = (2 : Int) ^ k := by simp
    rw [← e]; omega
  obtain ⟨i0, hi, hz0, hz1, hz2⟩ := info_parts Try.info3
  have H := Lib.hid h
  obtain ⟨v, rfl, hb, hrow, hl24⟩ := h
  obtain ⟨cv, fv⟩ := ref_cell hb
  have t4 : decide ((16777216 : Int) < (L.length : Int) + k) = false := by simp; omega
  obtain ⟨av, capv, rfl⟩ : ∃ av capv, v = .slice av L.length capv := by
    rcases hrow.2 with ⟨rfl, e⟩ | ⟨g', cap, cur, rfl, _⟩
    · exact ⟨none, 0, by rw [e]⟩
    · exact ⟨_, cap, rfl⟩
  have t1 : decide ((k : Int) < 0) = false := by simp
  have t2 : decide ((32 : Int) < k) = false := by simp; omega
  have t3 : decide ((n : Int) < 0) = false := by simp
  have t5 : decide ((2 : Int) ^ k ≤ (n : Int)) = false := by simp; omega
  clear hb hrow hr
  go_enter Try.func16, Try.ntmps16
  go_wp2_with fail
  go_loopw [7] (fun i wr => ∃ t : Nat, t ≤ k ∧ i = .int .i64 ((k : Int) - 1 - t) ∧ RefWrote w wr b (Value.slice av L.length capv).ownBlock (L ++ (numBits n k).take t)) (fun i _ => (intOf i + 1).toNat)
  case atStart => exact ⟨0, Nat.zero_le _, by simp, by simpa using RefWrote.refl H.out⟩
  case round =>
    obtain ⟨t, ht, rfl, g', hp, hbar, hg'⟩ := hrel
    by_cases hlt2 : t < k
    · have hle : ((numBits n k).take t).length = t := by simp [numBits]; omega
      obtain ⟨u, rfl, hub, hur, hul⟩ := hp
      obtain ⟨cu, fu⟩ := ref_cell hub
      have hy : ((n : Int) / 2 ^ (k - 1 - t)) % 2 = ((decide (n / 2 ^ (k - 1 - t) % 2 = 1)).toNat : Int) := by
        rw [show ((n : Int) / 2 ^ (k - 1 - t)) = ((n / 2 ^ (k - 1 - t) : Nat) : Int) by simp, toNat_decide]
      have HY := Lib.hid hy
      have HUB := Lib.hid hub
      have HUR := Lib.hid hur
      have HBar := Lib.hid hbar
      have HG := Lib.hid hg'
      have hul2 : (L ++ (numBits n k).take t).length < 16777216 := by simp [hle]; omega
      have HT := Lib.hid (numBits_take n k t hlt2)
      generalize hL1 : L ++ (numBits n k).take t = L1 at *
      have HL1 := Lib.hid hL1
      clear hL1
      have hq0 : (0 : Int) ≤ (n : Int) / 2 ^ (k - 1 - t) := Int.ediv_nonneg (by omega) (Int.le_of_lt (pow_le32 (k := k - 1 - t) (by omega)).2)
      have hwz : b < wr.heap.size := (Array.getElem?_eq_some_iff.1 HUB.out).1
      clear hy hub hur hbar hg' hle
      go_wp2_with (at_builtin; refine wpList_append_where _ rfl _ _ 28 rfl 0 3 i0 (.int .i64 0) 1 8 Try.underlying28 hi hz0 hz1 hz2 rfl (by decide) u L1.length (i64s L1) rfl (HUR.out.alloc _) ⟨wr.heap.size, 0, none⟩ 1 1 [.int .i64 ((n : Int) / 2 ^ (k - 1 - t) % 2)] rfl rfl ?c1 ?c2 ?c3 ?c4 ?c5 ?_)
      case c1 => exact cell_one_new _ _ _
      case c2 => simp [Value.oneCell']
      case c3 => unfold maxLen; omega
      case c4 => omega
      case c5 => omega
      intro v' w1 hown' hgrow hwh
      rw [HY.out] at hown'
      obtain ⟨⟨d0, d1⟩, hrw⟩ := ref_append HUB.out HUR.out hul2 hown' hgrow (by simpa using hwh)
      obtain ⟨gr, capr, rfl⟩ := ownsRow_succ hown'
      have HRW := Lib.hid (RefWrote.trans HBar.out HG.out hrw)
      clear hown' hgrow hwh hrw cu fu hq0
      go_wp2
      go_roundw
      case rel => exact ⟨t + 1, by omega, by go_num, by rw [HT.out, ← List.append_assoc, HL1.out]; exact HRW.out⟩
      case measure => simp [intOf]; omega
    · have hte : t = k := by omega
      subst hte
      rw [List.take_of_length_le (by simp [numBits])] at hp
      have HW : Hid (RefWrote w wr b (Value.slice av L.length capv).ownBlock (L ++ numBits n t)) := ⟨g', hp, hbar, hg'⟩
      clear hp hbar hg'
      go_wp2
      go_ret
      exact ⟨rfl, HW.out⟩

theorem refPut_any {w : World} {b : Nat} {g : Option Nat} {L : List Bool} (h : IsRef w b g L) (n k : Int) (hn : n ≤ 9223372036854775807) :
    Calls Try.prog 16 #[.pointer (some ⟨b, 0, none⟩), .int .i64 n, .int .i64 k] w fun e w' => e = .returned (.int .i64 (putE L n k)) ∧ RefWrote w w' b g (putL L n k) := by
  have hL : L.length ≤ 16777216 := by obtain ⟨_, _, _, _, hl⟩ := h; exact hl
  by_cases hr : k < 0 ∨ 32 < k ∨ n < 0
  · have e : putE L n k = 3 := by unfold putE; rw [if_pos (by omega)]
    refine (refPut_range n k hr).mono ?_
    rintro _ w' ⟨rfl, rfl⟩
    refine ⟨by rw [e], ?_⟩
    unfold putL; rw [e, if_neg (by omega)]; exact RefWrote.refl h
  · obtain ⟨k, rfl⟩ := Int.eq_ofNat_of_zero_le (a := k) (by omega)
    by_cases hb : n / 2 ^ k = 0
    · by_cases hl : 16777216 - (L.length : Int) < k
      · have e : putE L n k = 4 := by unfold putE; rw [if_neg (by rw [Int.toNat_natCast]; omega), if_pos hl]
        refine (refPut_long h n k (by omega) (by omega) hb hl).mono ?_
        rintro _ w' ⟨rfl, rfl⟩
        refine ⟨by rw [e], ?_⟩
        unfold putL; rw [e, if_neg (by omega)]; exact RefWrote.refl h
      · have e : putE L n k = 0 := by unfold putE; rw [if_neg (by rw [Int.toNat_natCast]; omega), if_neg hl]
        obtain ⟨n, rfl⟩ := Int.eq_ofNat_of_zero_le (a := n) (by omega)
        refine (refPut_ok h n k (by omega) (by have : ((n : Int) / 2 ^ k) = ((n / 2 ^ k : Nat) : Int) := by simp
                                               omega) (by omega) (by omega)).mono ?_
        rintro _ w' ⟨rfl, hw⟩
        refine ⟨by rw [e], ?_⟩
        unfold putL; rw [e, if_pos rfl]; exact hw
    · have e : putE L n k = 3 := by unfold putE; rw [if_pos (by rw [Int.toNat_natCast]; omega)]
      refine (refPut_big n k (by omega) (by omega) hb).mono ?_
      rintro _ w' ⟨rfl, rfl⟩
      refine ⟨by rw [e], ?_⟩
      unfold putL; rw [e, if_neg (by omega)]; exact RefWrote.refl h

set_option maxRecDepth 100000 in
set_option maxHeartbeats 1000000 in
theorem refCode_form {w : World} {b : Nat} (s : ByteArray) (hs : ¬ AllBits s) (hsz : s.size ≤ 9223372036854775807) :
    Calls Try.prog 14 #[.pointer (some ⟨b, 0, none⟩), .string s] w fun e w' => e = .returned (.int .i64 14) ∧ w = w' := by
  obtain ⟨k, hk, hgd, hbad⟩ := first_bad s hs
  have HG := Lib.hid hgd
  clear hgd hs
  go_enter Try.func14, Try.ntmps14
  go_wp2
  go_loop [5] (fun i => ∃ t : Nat, t ≤ k ∧ i = .int .i64 t) (fun i => s.size - (intOf i).toNat)
  case atStart => exact ⟨0, Nat.zero_le _, rfl⟩
  case round =>
    obtain ⟨t, ht, rfl⟩ := hrel
    by_cases hlt : t < k
    · have hts : t < s.size := by omega
      rcases HG.out t hts hlt with h | h
      · have e1 : ((s[t].toNat : Int) != 48) = false := by rw [h]; rfl
        go_wp2
        go_round
        case rel => exact ⟨t + 1, by omega, by go_num⟩
        case measure => simp [intOf]; omega
      · have e1 : ((s[t].toNat : Int) != 48) = true := by rw [h]; rfl
        have e2 : ((s[t].toNat : Int) != 49) = false := by rw [h]; rfl
        go_wp2
        go_round
        case rel => exact ⟨t + 1, by omega, by go_num⟩
        case measure => simp [intOf]; omega
    · obtain rfl : t = k := by omega
      have e1 : ((s[t].toNat : Int) != 48) = true := by
        simp only [bne_iff_ne]; intro e; apply hbad; left; apply UInt8.toNat_inj.1; show s[t].toNat = 48; omega
      have e2 : ((s[t].toNat : Int) != 49) = true := by
        simp only [bne_iff_ne]; intro e; apply hbad; right; apply UInt8.toNat_inj.1; show s[t].toNat = 49; omega
      clear hbad
      go_wp2
      go_ret
      exact ⟨rfl, rfl⟩

end Go.Proofs.Ytglnmaekhpaffaa
