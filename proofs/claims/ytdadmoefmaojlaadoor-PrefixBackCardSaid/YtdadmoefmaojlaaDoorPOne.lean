/- The contract of the law PrefixOne, over a tree's contracts: it returns true, and nothing that lay is changed. -/
import Derived.Test.YtdadmoefmaojlaaDoorPOne0
namespace Go.Proofs.YtdadmoefmaojlaaDoor
open Go.RowKit Go.Shelf
set_option linter.unusedVariables false

theorem read1_any {n₀ : Nat} {w : World} {sv : Value} {zs : List UInt8} (hB : Byt n₀ w sv zs) (i : Int) (k : Nat) (hi : i = k) (hk : k < 8 * zs.length) (h1 : i ≤ 9223372036854775807) :
    Calls Tryd.prog 29 #[sv, .int .i64 i, .int .i64 1] w fun e w' => e = .returned (.tuple #[.int .i64 (bt zs k), .int .i64 0]) ∧ w = w' := by
  refine (read_any hB i 1 h1).mono ?_
  rintro e w' ⟨rfl, rfl⟩
  refine ⟨?_, rfl⟩
  unfold readV
  rw [if_neg (by omega), if_neg (by omega), hi, Int.toNat_natCast, show (1 : Int).toNat = 1 from rfl]
  simp [num]
theorem str_getD {c : ByteArray} {j : Nat} (h : j < c.size) : c.data.toList.getD j 0 = c[j] := by
  have hl : j < c.data.toList.length := by simpa using h
  rw [List.getD_eq_getElem?_getD, List.getElem?_eq_getElem hl]
  rfl
theorem any_take_succ {K : List ByteArray} {i : Nat} (h : i < K.length) (p : ByteArray → Bool) : (K.take (i + 1)).any p = ((K.take i).any p || p (K[i]?.getD ⟨#[]⟩)) := by
  rw [List.take_add_one, List.any_append, List.getElem?_eq_getElem h]
  simp

set_option maxRecDepth 100000 in
set_option maxHeartbeats 16000000 in
theorem prefixOne_walk (I : TreeI) {w : World} {a : Option Addr} {len cap : Nat} {cs : List ByteArray} {sv : Value} {zs : List UInt8} (hC : RowV w.heap.size w a len cap (strV cs)) (hB : Byt w.heap.size w sv zs) (hsz : ∀ s ∈ cs, s.size ≤ 9223372036854775807) (at_ : Int) :
    Calls Tryd.prog 7 #[.slice a len cap, sv, .int .i64 at_] w fun e w' => e = .returned (.bool true) ∧ Below w.heap.size w w' := by
  have e1 : cs.length = len := by have := hC.1; simpa using this
  subst e1
  have HC := Lib.hid hC
  have HBy := Lib.hid hB
  have HSz := Lib.hid hsz
  have hc1 := hC.2.1
  have hc2 := hC.2.2.1
  obtain ⟨ab, capb, rfl, hzl, _⟩ := hB
  clear hC hsz
  go_enter Tryd.func7, Tryd.ntmps7
  go_wp2_with fail
  refine (prefixKnown_any I w).mono ?_
  rintro e w1 ⟨rfl, b1⟩
  go_wp2_with fail
  refine (long3_any (HC.out.below b1) HSz.out).mono ?_
  rintro e w1' ⟨rfl, rfl⟩
  by_cases hlong : long3B cs = true
  · rw [hlong]
    go_wp2
    go_ret
    exact ⟨rfl, b1⟩
  have hl1 : long3B cs = false := by simpa using hlong
  rw [hl1]
  clear hlong hl1
  by_cases h60 : 60 < cs.length
  · go_wp2
    go_ret
    exact ⟨rfl, b1⟩
  by_cases h12 : 12 < zs.length
  · go_wp2
    go_ret
    exact ⟨rfl, b1⟩
  have hz12 : zs.length ≤ 12 := by omega
  go_wp2_with fail
  refine (made3_any I ((HC.out.below b1).mono b1.size) HSz.out (by omega)).mono ?_
  rintro e w2 ⟨vk, pv, rfl, hrk, b2, hm⟩
  have B2 := below_chain b1 (Nat.le_refl _) b2
  have hG := good_all cs cs.length
  have hK40 := keptAt_len cs cs.length
  rw [show keptAt cs cs.length = keptAll cs from rfl] at hG hK40
  generalize keptAll cs = K at *
  obtain ⟨ak, ck, rfl⟩ := row_form hrk
  have HRk := Lib.hid hrk
  have HG := Lib.hid hG
  clear hrk hG b2
  rcases hm with ⟨h0, rfl⟩ | ⟨h0, n₀, m₁, b, rfl, hp, hn0, hm1⟩
  · subst h0
    go_wp2
    go_ret
    exact ⟨rfl, B2⟩
  have hKn : 0 < K.length := List.length_pos_iff.2 h0
  have t0 : ((K.length : Int) == 0) = false := by rw [beq_eq_false_iff_ne]; omega
  have HP := Lib.hid hp
  clear hp h0 hm1 hn0
  have HPk := Lib.hid (fun w' => pick_any at_ (8 * (zs.length : Int) + 1) w' (by omega) (by omega))
  obtain ⟨A, hA⟩ : ∃ A : Nat, at_ % (8 * (zs.length : Int) + 1) = (A : Int) := ⟨_, (Int.toNat_of_nonneg (Int.emod_nonneg _ (by omega))).symm⟩
  have hA8 : A ≤ 8 * zs.length := by
    have := Int.emod_lt_of_pos at_ (b := 8 * (zs.length : Int) + 1) (by omega)
    omega
  rw [hA] at HPk
  clear hA
  go_wp2_with fail
  refine (HPk.out _).mono ?_
  rintro e w2' ⟨rfl, rfl⟩
  obtain ⟨S, hS⟩ : ∃ S, S = seenB zs A (seenN zs A) := ⟨_, rfl⟩
  have HGet := Lib.hid (I.get HP.out (HBy.out.below B2) B2.size (by omega) (A : Int) (by omega))
  have hgt : getT K (idx K.length) zs (A : Int) = .tuple #[.int .i64 (getX K (idx K.length) S), .int .i64 (getN K S), .int .i64 (getE3 K S)] := by
    unfold getT
    rw [if_neg (by omega), Int.toNat_natCast, hS]
  rw [hgt] at HGet
  have HS := Lib.hid hS
  clear hgt hS
  obtain ⟨gx, hgx⟩ : ∃ gx, gx = getX K (idx K.length) S := ⟨_, rfl⟩
  obtain ⟨gn, hgn⟩ : ∃ gn, gn = getN K S := ⟨_, rfl⟩
  obtain ⟨ge, hge⟩ : ∃ ge, ge = getE3 K S := ⟨_, rfl⟩
  rw [← hgx, ← hgn, ← hge] at HGet
  have HGx := Lib.hid hgx
  have HGn := Lib.hid hgn
  have HGe := Lib.hid hge
  clear hgx hgn hge
  go_wp2_with fail
  refine HGet.out.mono ?_
  rintro e w3 ⟨rfl, b3⟩
  have B3 := below_chain B2 (Nat.le_refl _) b3
  have HR3 := Lib.hid (ownsRow_bar HRk.out (bar_of_below (S := fun _ => False) b3) (fun _ _ e => e))
  have HB3 := Lib.hid (HBy.out.below B3)
  obtain ⟨lf, hlf⟩ : ∃ lf, lf = 8 * zs.length - A := ⟨_, rfl⟩
  have hlf2 : 8 * (zs.length : Int) - (A : Int) = (lf : Int) := by omega
  have HLf := Lib.hid hlf
  clear hlf t0
  go_wp2_with fail
  go_loop [14, 15, 16, 17, 18, 19, 20] (fun wv pt i _ _ _ _ => ∃ (k : Nat) (wi : Int), i = .int .i64 k ∧ k ≤ K.length ∧ wv = .int .i64 wi ∧ pt = .bool ((K.take k).any (partAt zs A lf)) ∧ ((wi = -1 ∧ ∀ j, j < k → wholeAt zs A lf (K[j]?.getD ⟨#[]⟩) = false) ∨ ∃ q : Nat, wi = q ∧ q < k ∧ wholeAt zs A lf (K[q]?.getD ⟨#[]⟩) = true)) (fun _ _ i _ _ _ _ => K.length - (intOf i).toNat)
  case atStart => exact ⟨0, -1, rfl, by omega, rfl, rfl, .inl ⟨rfl, fun j hj => by omega⟩⟩
  case round =>
    obtain ⟨k, wi, rfl, hk, rfl, rfl, hwi⟩ := hrel
    obtain ⟨pb, hpb⟩ : ∃ pb, pb = (K.take k).any (partAt zs A lf) := ⟨_, rfl⟩
    rw [← hpb]
    have HPb := Lib.hid hpb
    have HWi := Lib.hid hwi
    clear hpb hwi
    by_cases hk2 : k < K.length
    · obtain ⟨g1, cp1, e1, hg1, _, hce⟩ := row_cells HR3.out hk2
      cases e1
      have x1 := hce k _ hk2 (show (strV K)[k]? = some (.string (K[k]?.getD ⟨#[]⟩)) by simp [hk2])
      clear hce
      have hc24 : (K[k]?.getD ⟨#[]⟩).size ≤ 24 := by
        have := codeB_size (HG.out.code K[k] (List.getElem_mem _))
        simpa [hk2] using this
      obtain ⟨c, hc⟩ : ∃ c, c = K[k]?.getD ⟨#[]⟩ := ⟨_, rfl⟩
      rw [← hc] at x1 hc24
      have HCc := Lib.hid hc
      have HSu := Lib.hid (any_take_succ hk2 (partAt zs A lf))
      have hlf3 : lf ≤ 96 := by have := HLf.out; omega
      have hAl : A + lf = 8 * zs.length := by have := HLf.out; omega
      clear hc
      go_wp2_with fail
      go_loop [17, 18, 19, 20] (fun sm j _ _ => ∃ t : Nat, j = .int .i64 t ∧ t ≤ min c.size lf ∧ sm = .bool (agree zs A c t)) (fun _ j _ _ => min c.size lf - (intOf j).toNat)
      case atStart => exact ⟨0, rfl, by omega, rfl⟩
      case round =>
        obtain ⟨t, rfl, ht, rfl⟩ := hrel
        by_cases htl : t < min c.size lf
        · have htc : t < c.size := by omega
          have htf : t < lf := by omega
          have HRd := Lib.hid (fun (i : Int) (hi : i = ((A + t : Nat) : Int)) => read1_any HB3.out i (A + t) hi (by omega) (by omega))
          have hsu := agree_succ zs A c t
          rw [str_getD htc] at hsu
          have HSg := Lib.hid hsu
          have hbt := bt_two zs (A + t)
          have hc256 : c[t].toNat < 256 := UInt8.toNat_lt _
          clear hsu
          obtain ⟨v, hv⟩ : ∃ v, v = bt zs (A + t) := ⟨_, rfl⟩
          rw [← hv] at HRd hbt HSg
          clear hv
          by_cases hag : agree zs A c t = true
          · rw [hag]
            rw [hag, Bool.true_and] at HSg
            by_cases heq : ((v : Int) == (c[t].toNat : Int) - 48) = true
            · rw [heq] at HSg
              clear hag
              go_wp2_with fail
              refine (HRd.out _ (by omega)).mono ?_
              rintro e w' ⟨rfl, rfl⟩
              go_wp2
              go_round
              case rel => exact ⟨t + 1, by go_num, by omega, by rw [HSg.out]⟩
              case measure => simp [intOf]; omega
            · have heq' : ((v : Int) == (c[t].toNat : Int) - 48) = false := by simpa using heq
              rw [heq'] at HSg
              clear hag heq
              go_wp2_with fail
              refine (HRd.out _ (by omega)).mono ?_
              rintro e w' ⟨rfl, rfl⟩
              go_wp2
              go_round
              case rel => exact ⟨t + 1, by go_num, by omega, by rw [HSg.out]⟩
              case measure => simp [intOf]; omega
          · have hag' : agree zs A c t = false := by simpa using hag
            rw [hag']
            rw [hag', Bool.false_and] at HSg
            clear hag hag'
            go_wp2_with fail
            refine (HRd.out _ (by omega)).mono ?_
            rintro e w' ⟨rfl, rfl⟩
            go_wp2
            go_round
            case rel => exact ⟨t + 1, by go_num, by omega, by rw [HSg.out]⟩
            case measure => simp [intOf]; omega
        · have htn : t = min c.size lf := by omega
          have hw : wholeAt zs A lf c = (agree zs A c t && decide (c.size ≤ lf)) := by unfold wholeAt; rw [htn]
          have hpt : partAt zs A lf c = (agree zs A c t && decide (lf < c.size)) := by unfold partAt; rw [htn]
          have hex : (t = c.size ∧ t ≤ lf) ∨ (t < c.size ∧ t = lf) := by omega
          have HNw : Hid (∀ (hf : wholeAt zs A lf c = false), (wi = -1 ∧ ∀ j, j < k + 1 → wholeAt zs A lf (K[j]?.getD ⟨#[]⟩) = false) ∨ ∃ q : Nat, wi = q ∧ q < k + 1 ∧ wholeAt zs A lf (K[q]?.getD ⟨#[]⟩) = true) := fun hf => by
            rcases HWi.out with ⟨h1, h2⟩ | ⟨q, h1, h2, h3⟩
            · exact .inl ⟨h1, fun j hj => by
                by_cases e : j = k
                · rw [e, ← HCc.out]; exact hf
                · exact h2 j (by omega)⟩
            · exact .inr ⟨q, h1, by omega, h3⟩
          have HSu2 : Hid ((K.take (k + 1)).any (partAt zs A lf) = (pb || partAt zs A lf c)) := by
            show (K.take (k + 1)).any (partAt zs A lf) = (pb || partAt zs A lf c)
            rw [HSu.out, HPb.out, HCc.out]
          by_cases hag : agree zs A c t = true
          · rw [hag]
            rw [hag, Bool.true_and] at hw hpt
            by_cases hle : c.size ≤ lf
            · rw [decide_eq_true hle] at hw
              rw [decide_eq_false (show ¬ lf < c.size by omega)] at hpt
              have hwi1 : wi = -1 := by
                rcases HWi.out with ⟨h1, _⟩ | ⟨q, _, h2, h3⟩
                · exact h1
                · have hl := HLf.out
                  rw [hl] at h3 hw
                  have := whole_unique HG.out zs A q k (by omega) hk2 h3 (by rw [← HCc.out]; exact hw)
                  omega
              subst hwi1
              have hts : t = c.size := by omega
              have HW := Lib.hid hw
              have HPt := Lib.hid hpt
              rw [HPt.out, Bool.or_false] at HSu2
              have hd1 : decide ((c.size : Int) ≤ (lf : Int)) = true := decide_eq_true (by omega)
              have hd2 : decide ((lf : Int) < (c.size : Int)) = false := decide_eq_false (by omega)
              subst hts
              clear hag hw hpt htn hex htl
              cases pb with
              | true =>
                go_wp2
                go_round
                case rel => exact ⟨k + 1, k, by go_num, by omega, rfl, by rw [HSu2.out], .inr ⟨k, rfl, by omega, by rw [← HCc.out]; exact HW.out⟩⟩
                case measure => simp [intOf]; omega
              | false =>
                go_wp2
                go_round
                case rel => exact ⟨k + 1, k, by go_num, by omega, rfl, by rw [HSu2.out]; exact congrArg Value.bool (decide_eq_false (by omega)), .inr ⟨k, rfl, by omega, by rw [← HCc.out]; exact HW.out⟩⟩
                case measure => simp [intOf]; omega
            · rw [decide_eq_false hle] at hw
              rw [decide_eq_true (show lf < c.size by omega)] at hpt
              have HNw2 := Lib.hid (HNw.out hw)
              have HPt := Lib.hid hpt
              rw [HPt.out, Bool.or_true] at HSu2
              have hts : t = lf := by omega
              have hd1 : decide ((c.size : Int) ≤ (lf : Int)) = false := decide_eq_false (by omega)
              have hd2 : decide ((lf : Int) < (c.size : Int)) = true := decide_eq_true (by omega)
              have hd3 : lf < c.size := by omega
              clear hag hw hpt htn hex htl
              subst t
              cases pb with
              | true =>
                go_wp2
                go_round
                case rel => exact ⟨k + 1, wi, by go_num, by omega, rfl, by rw [HSu2.out], HNw2.out⟩
                case measure => simp [intOf]; omega
              | false =>
                go_wp2
                go_round
                case rel => exact ⟨k + 1, wi, by go_num, by omega, rfl, by rw [HSu2.out], HNw2.out⟩
                case measure => simp [intOf]; omega
          · have hag' : agree zs A c t = false := by simpa using hag
            rw [hag']
            rw [hag', Bool.false_and] at hw hpt
            have HNw2 := Lib.hid (HNw.out hw)
            have HPt := Lib.hid hpt
            rw [HPt.out, Bool.or_false] at HSu2
            clear hag hag' hw hpt htn htl
            rcases hex with ⟨h1, h2⟩ | ⟨h1, h2⟩
            · subst h1
              cases pb with
              | true =>
                go_wp2
                go_round
                case rel => exact ⟨k + 1, wi, by go_num, by omega, rfl, by rw [HSu2.out], HNw2.out⟩
                case measure => simp [intOf]; omega
              | false =>
                go_wp2
                go_round
                case rel => exact ⟨k + 1, wi, by go_num, by omega, rfl, by rw [HSu2.out], HNw2.out⟩
                case measure => simp [intOf]; omega
            · subst t
              cases pb with
              | true =>
                go_wp2
                go_round
                case rel => exact ⟨k + 1, wi, by go_num, by omega, rfl, by rw [HSu2.out], HNw2.out⟩
                case measure => simp [intOf]; omega
              | false =>
                go_wp2
                go_round
                case rel => exact ⟨k + 1, wi, by go_num, by omega, rfl, by rw [HSu2.out], HNw2.out⟩
                case measure => simp [intOf]; omega
    · have hkn : k = K.length := by omega
      subst k
      rw [List.take_length] at HPb
      rcases HWi.out with ⟨h1, h2⟩ | ⟨q, h1, h2, h3⟩
      · subst h1
        have hl := HLf.out
        rw [hl] at h2 HPb
        have hI := getI_no HG.out zs A h2
        have hM := getMore_eq HG.out zs A h2
        rw [← HS.out] at hI hM
        have hE : ge = if pb then 5 else 7 := by
          rw [HGe.out]
          unfold getE3
          rw [hI, hM, HPb.out]
        have HE := Lib.hid hE
        clear hI hM hE h2 hl
        cases pb with
        | true =>
          have he5 : ge = 5 := HE.out
          subst he5
          go_wp2
          go_ret
          exact ⟨rfl, B3⟩
        | false =>
          have he7 : ge = 7 := HE.out
          subst he7
          go_wp2
          go_ret
          exact ⟨rfl, B3⟩
      · subst h1
        obtain ⟨g1, cp1, e1, hg1, _, hce⟩ := row_cells HR3.out h2
        cases e1
        have x1 := hce q _ h2 (show (strV K)[q]? = some (.string (K[q]?.getD ⟨#[]⟩)) by simp [h2])
        clear hce
        have hl := HLf.out
        rw [hl] at h3
        have hI := getI_whole HG.out zs A q h2 h3
        rw [← HS.out] at hI
        have hx : gx = (q : Int) := by
          rw [HGx.out]; unfold getX; rw [hI]
          simp [idx, h2]
        have hn : gn = ((K[q]?.getD ⟨#[]⟩).size : Int) := by rw [HGn.out]; unfold getN; rw [hI]
        have he : ge = 0 := by rw [HGe.out]; unfold getE3; rw [hI]
        subst hx
        subst hn
        subst he
        generalize K[q]?.getD ⟨#[]⟩ = c at *
        clear hI h3 hl
        go_wp2
        go_ret
        exact ⟨rfl, B3⟩

end Go.Proofs.YtdadmoefmaojlaaDoor
