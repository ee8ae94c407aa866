/- The contract of the law PrefixBack, over a tree's contracts: it returns true, and nothing that lay is changed. -/
import Derived.Test.YtdadmoefmaojlaaDoorPOne
namespace Go.Proofs.YtdadmoefmaojlaaDoor
open Go.RowKit Go.Shelf
set_option linter.unusedVariables false

/-- the texts of a list of places, one behind the other -/
def texts (K : List ByteArray) (ps : List Nat) : List Bool := ps.flatMap fun n => textBits (K[n]?.getD ⟨#[]⟩)
theorem texts_append (K : List ByteArray) (ps qs : List Nat) : texts K (ps ++ qs) = texts K ps ++ texts K qs := by simp [texts]
theorem texts_one (K : List ByteArray) (n : Nat) : texts K [n] = textBits (K[n]?.getD ⟨#[]⟩) := by simp [texts]
theorem texts_len (K : List ByteArray) (ps : List Nat) (h : ∀ n : Nat, (K[n]?.getD (⟨#[]⟩ : ByteArray)).size ≤ 24) : (texts K ps).length ≤ 24 * ps.length := by
  induction ps with
  | nil => simp [texts]
  | cons p ps ih =>
    have := h p
    simp only [texts, List.flatMap_cons, List.length_append, List.length_cons, textBits_len] at *
    omega
theorem code_bits {c : ByteArray} (h : codeB c = true) : AllBits c := by
  unfold codeB at h
  rw [Bool.and_eq_true, Bool.and_eq_true] at h
  exact (allB_iff c).1 h.1.1
theorem code_pos {c : ByteArray} (h : codeB c = true) : 1 ≤ c.size := by
  unfold codeB at h
  rw [Bool.and_eq_true, Bool.and_eq_true] at h
  exact of_decide_eq_true h.1.2

/-- bits that were written are read -/
theorem agree_packed {zs : List UInt8} {pre post : List Bool} {c : ByteArray} (hp : Packed zs (pre ++ (textBits c ++ post))) (hc : AllBits c) (m : Nat) (hm : m ≤ c.size) : agree zs pre.length c m = true := by
  unfold agree
  rw [List.all_eq_true]
  intro j hj
  have hj : j < m := by simpa using hj
  have hjc : j < c.size := by omega
  rw [str_getD hjc, one_bit _ _ (bt_two _ _)]
  have hlen : (pre ++ (textBits c ++ post)).length = pre.length + (c.size + post.length) := by simp [textBits_len]
  have h1 := hp.2 (pre.length + j) (by rw [hp.1, hlen]; omega)
  rw [h1, List.getD_eq_getElem?_getD, List.getElem?_append_right (by omega), show pre.length + j - pre.length = j by omega, List.getElem?_append_left (by rw [textBits_len]; exact hjc)]
  have h2 : (textBits c)[j]? = some (c[j] == 49) := by
    unfold textBits
    have hl : j < c.data.toList.length := by simpa using hjc
    rw [List.getElem?_map, List.getElem?_eq_getElem hl]
    rfl
  rw [h2]
  rcases hc j hjc with e | e
  · rw [e]; rfl
  · rw [e]; rfl

theorem bt_take (zs : List UInt8) (e i : Nat) (h : i < 8 * e) : bt (zs.take e) i = bt zs i := by
  unfold bt
  rw [List.getD_eq_getElem?_getD, List.getD_eq_getElem?_getD, List.getElem?_take, if_pos (by omega)]
theorem agree_take (zs : List UInt8) (e A m : Nat) (c : ByteArray) (h : A + m ≤ 8 * e) : agree (zs.take e) A c m = agree zs A c m := by
  unfold agree
  rw [Bool.eq_iff_iff, List.all_eq_true, List.all_eq_true]
  constructor
  · intro hh j hj
    have hj' : j < m := by simpa using hj
    have := hh j hj
    rwa [bt_take zs e (A + j) (by omega)] at this
  · intro hh j hj
    have hj' : j < m := by simpa using hj
    rw [bt_take zs e (A + j) (by omega)]
    exact hh j hj

theorem getT_natO (K : List ByteArray) (ns : List Int) (zs : List UInt8) (A : Nat) : getT K ns zs (A : Int) = .tuple #[.int .i64 (getX K ns (seenB zs A (seenN zs A))), .int .i64 (getN K (seenB zs A (seenN zs A))), .int .i64 (getE3 K (seenB zs A (seenN zs A)))] := by
  unfold getT
  rw [if_neg (by omega), Int.toNat_natCast]
/-- a code that was written is got -/
theorem got_whole {K : List ByteArray} (hG : Good K) {zs : List UInt8} {pre post : List Bool} {n : Nat} (hn : n < K.length) (hp : Packed zs (pre ++ (textBits (K[n]?.getD ⟨#[]⟩) ++ post))) :
    getT K (idx K.length) zs (pre.length : Int) = .tuple #[.int .i64 n, .int .i64 (K[n]?.getD ⟨#[]⟩).size, .int .i64 0] := by
  have hcode : codeB (K[n]?.getD ⟨#[]⟩) = true := by
    have := hG.code K[n] (List.getElem_mem _)
    simpa [hn] using this
  have hlen : (pre ++ (textBits (K[n]?.getD ⟨#[]⟩) ++ post)).length = pre.length + ((K[n]?.getD ⟨#[]⟩).size + post.length) := by simp [textBits_len]
  have hz : pre.length + (K[n]?.getD ⟨#[]⟩).size ≤ 8 * zs.length := by have := hp.1; rw [hlen] at this; omega
  have hw : wholeAt zs pre.length (8 * zs.length - pre.length) (K[n]?.getD ⟨#[]⟩) = true := by
    unfold wholeAt
    rw [Nat.min_eq_left (by omega), agree_packed hp (code_bits hcode) _ (Nat.le_refl _), decide_eq_true (by omega)]
    rfl
  have hI := getI_whole hG zs pre.length n hn hw
  rw [getT_natO]
  have hx : getX K (idx K.length) (seenB zs pre.length (seenN zs pre.length)) = (n : Int) := by
    unfold getX; rw [hI]
    simp [idx, hn]
  have hnn : getN K (seenB zs pre.length (seenN zs pre.length)) = ((K[n]?.getD ⟨#[]⟩).size : Int) := by unfold getN; rw [hI]
  have he : getE3 K (seenB zs pre.length (seenN zs pre.length)) = 0 := by unfold getE3; rw [hI]
  rw [hx, hnn, he]
/-- cut off within a code, more bits are wanted -/
theorem got_part {K : List ByteArray} (hG : Good K) {zs : List UInt8} {pre post : List Bool} {n e : Nat} (hn : n < K.length) (hp : Packed zs (pre ++ (textBits (K[n]?.getD ⟨#[]⟩) ++ post))) (h1 : pre.length ≤ 8 * e) (h2 : 8 * e < pre.length + (K[n]?.getD ⟨#[]⟩).size) :
    e ≤ zs.length ∧ getT K (idx K.length) (zs.take e) (pre.length : Int) = .tuple #[.int .i64 0, .int .i64 0, .int .i64 5] := by
  have hcode : codeB (K[n]?.getD ⟨#[]⟩) = true := by
    have := hG.code K[n] (List.getElem_mem _)
    simpa [hn] using this
  have hlen : (pre ++ (textBits (K[n]?.getD ⟨#[]⟩) ++ post)).length = pre.length + ((K[n]?.getD ⟨#[]⟩).size + post.length) := by simp [textBits_len]
  have hz : pre.length + (K[n]?.getD ⟨#[]⟩).size ≤ 8 * zs.length := by have := hp.1; rw [hlen] at this; omega
  have hel : e ≤ zs.length := by omega
  have htl : (zs.take e).length = e := by simp; omega
  have hlf : 8 * (zs.take e).length - pre.length = 8 * e - pre.length := by rw [htl]
  have hag : agree (zs.take e) pre.length (K[n]?.getD ⟨#[]⟩) (8 * e - pre.length) = true := by
    rw [agree_take zs e pre.length _ _ (by omega)]
    exact agree_packed hp (code_bits hcode) _ (by omega)
  have hpt : partAt (zs.take e) pre.length (8 * (zs.take e).length - pre.length) (K[n]?.getD ⟨#[]⟩) = true := by
    unfold partAt
    rw [hlf, Nat.min_eq_right (by omega), hag, decide_eq_true (by omega)]
    rfl
  have h24 : ∀ j, j < K.length → (K[j]?.getD ⟨#[]⟩).size ≤ 24 := fun j hj => by
    have := codeB_size (hG.code K[j] (List.getElem_mem _))
    simpa [hj] using this
  have hS : seenN (zs.take e) pre.length = 8 * e - pre.length := by unfold seenN; rw [htl]; have := h24 n hn; omega
  have hbn : begins (K[n]?.getD ⟨#[]⟩) (seenB (zs.take e) pre.length (8 * e - pre.length)) = true := by rw [begins_seen2 _ _ _ _ (by omega)]; exact hag
  have hno : ∀ j, j < K.length → wholeAt (zs.take e) pre.length (8 * (zs.take e).length - pre.length) (K[j]?.getD ⟨#[]⟩) = false := by
    intro j hj
    rw [Bool.eq_false_iff]
    intro hw
    rw [whole_begins _ _ _ (h24 j hj), hS] at hw
    have hpre := ((begins_iffM _ _).1 hw).trans ((begins_iffM _ _).1 hbn)
    have hb := (begins_iffM _ _).2 hpre
    by_cases ejn : j = n
    · subst ejn
      have := begins_size hw
      rw [seenB_size] at this
      omega
    · have := hG.clash hj hn ejn
      unfold clashS at this
      rw [hb, Bool.or_true] at this
      cases this
  have hI := getI_no hG (zs.take e) pre.length hno
  have hM := getMore_eq hG (zs.take e) pre.length hno
  have hany : K.any (fun c => partAt (zs.take e) pre.length (8 * (zs.take e).length - pre.length) c) = true := by
    rw [List.any_eq_true]
    exact ⟨K[n], List.getElem_mem _, by simpa [hn] using hpt⟩
  rw [hany] at hM
  refine ⟨hel, ?_⟩
  rw [getT_natO]
  have hx : getX K (idx K.length) (seenB (zs.take e) pre.length (seenN (zs.take e) pre.length)) = 0 := by unfold getX; rw [hI]
  have hnn : getN K (seenB (zs.take e) pre.length (seenN (zs.take e) pre.length)) = 0 := by unfold getN; rw [hI]
  have he : getE3 K (seenB (zs.take e) pre.length (seenN (zs.take e) pre.length)) = 5 := by unfold getE3; rw [hI, hM]; rfl
  rw [hx, hnn, he]
/-- the number of a place has that place's code -/
theorem put_idx {K : List ByteArray} {n : Nat} (hn : n < K.length) : putS K (idx K.length) (n : Int) = K[n]?.getD ⟨#[]⟩ ∧ putE3 (idx K.length) (n : Int) = 0 := by
  have hI : putI (idx K.length) (n : Int) = some n := by
    unfold putI
    rw [List.findIdx?_eq_some_iff_getElem]
    refine ⟨by simpa [idx] using hn, by simp [idx], fun j hj => ?_⟩
    simp [idx]
    omega
  exact ⟨by unfold putS; rw [hI], by unfold putE3; rw [hI]⟩

end Go.Proofs.YtdadmoefmaojlaaDoor

namespace Go.Proofs.YtdadmoefmaojlaaDoor
open Go.RowKit Go.Shelf
set_option linter.unusedVariables false

/-- which code is written, by any number -/
def pickN (ns : List Int) (m : Nat) (k : Nat) : Nat := ((ns[k]?.getD 0) % (m : Int)).toNat
def picks (ns : List Int) (m k : Nat) : List Nat := (List.range k).map (pickN ns m)
theorem picks_succ (ns : List Int) (m k : Nat) : picks ns m (k + 1) = picks ns m k ++ [pickN ns m k] := by simp [picks, List.range_succ]
theorem picks_split (ns : List Int) (m k n : Nat) (h : k < n) : ∃ rest, picks ns m n = picks ns m k ++ ([pickN ns m k] ++ rest) := by
  obtain ⟨d, rfl⟩ : ∃ d, n = k + 1 + d := ⟨n - (k + 1), by omega⟩
  refine ⟨(List.range d).map (fun j => pickN ns m (k + 1 + j)), ?_⟩
  unfold picks
  rw [List.range_add, List.range_succ]
  simp
theorem pickN_lt (ns : List Int) {m : Nat} (k : Nat) (h : 0 < m) : pickN ns m k < m := by
  unfold pickN
  have := Int.emod_lt_of_pos (ns[k]?.getD 0) (b := (m : Int)) (by omega)
  have := Int.emod_nonneg (ns[k]?.getD 0) (b := (m : Int)) (by omega)
  omega
theorem pickN_eq (ns : List Int) {m : Nat} (k : Nat) (h : 0 < m) : (ns[k]?.getD 0) % (m : Int) = (pickN ns m k : Int) := by
  unfold pickN
  have := Int.emod_nonneg (ns[k]?.getD 0) (b := (m : Int)) (by omega)
  omega
theorem byt_take {n₀ : Nat} {w : World} {a : Option Addr} {cap : Nat} {zs : List UInt8} (h : Byt n₀ w (.slice a zs.length cap) zs) (e : Nat) (he : e ≤ zs.length) : Byt n₀ w (.slice a e cap) (zs.take e) := by
  obtain ⟨a', cap', e1, hl, hz⟩ := h
  cases e1
  have hte : (zs.take e).length = e := by simp; omega
  refine ⟨a, cap, by rw [hte], by omega, ?_⟩
  rcases hz with rfl | ⟨b, off, rfl, hb, hc⟩
  · left; simp
  · right
    refine ⟨b, off, rfl, hb, fun j hj => ?_⟩
    rw [hte] at hj
    rw [hc j (by omega), List.getElem?_take, if_pos hj]

set_option maxRecDepth 100000 in
set_option maxHeartbeats 16000000 in
theorem prefixBack_walk (I : TreeI) {w : World} {a a' : Option Addr} {len cap len' cap' : Nat} {cs : List ByteArray} {ns : List Int} (hC : RowV w.heap.size w a len cap (strV cs)) (hN : RowV w.heap.size w a' len' cap' (intV ns)) (hsz : ∀ s ∈ cs, s.size ≤ 9223372036854775807) :
    Calls Tryd.prog 6 #[.slice a len cap, .slice a' len' cap'] w fun e w' => e = .returned (.bool true) ∧ Below w.heap.size w w' := by
  have e1 : cs.length = len := by have := hC.1; simpa using this
  have e2 : ns.length = len' := by have := hN.1; simpa using this
  subst e1
  subst e2
  have HC := Lib.hid hC
  have HN := Lib.hid hN
  have HSz := Lib.hid hsz
  have hc1 := hC.2.1
  have hc2 := hC.2.2.1
  have hn1 := hN.2.1
  have hn2 := hN.2.2.1
  clear hC hN hsz
  go_enter Tryd.func6, Tryd.ntmps6
  go_wp2_with fail
  refine (prefixKnown_any I w).mono ?_
  rintro e w1 ⟨rfl, b1⟩
  go_wp2_with fail
  refine (long3_any (HC.out.below b1) HSz.out).mono ?_
  rintro e w1' ⟨rfl, rfl⟩
  by_cases hlong : long3B cs = true
  · rw [hlong]
    go_wp2
    go_ret
    exact ⟨rfl, b1⟩
  have hl1 : long3B cs = false := by simpa using hlong
  rw [hl1]
  clear hlong hl1
  by_cases h60 : 60 < cs.length
  · go_wp2
    go_ret
    exact ⟨rfl, b1⟩
  by_cases h40 : 40 < ns.length
  · go_wp2
    go_ret
    exact ⟨rfl, b1⟩
  have hn40 : ns.length ≤ 40 := by omega
  go_wp2_with fail
  refine (made3_any I ((HC.out.below b1).mono b1.size) HSz.out (by omega)).mono ?_
  rintro e w2 ⟨vk, pv, rfl, hrk, b2, hm⟩
  have B2 := below_chain b1 (Nat.le_refl _) b2
  have hG := good_all cs cs.length
  have hK40 := keptAt_len cs cs.length
  rw [show keptAt cs cs.length = keptAll cs from rfl] at hG hK40
  generalize keptAll cs = K at *
  obtain ⟨ak, ck, rfl⟩ := row_form hrk
  have HRk := Lib.hid hrk
  have HG := Lib.hid hG
  clear hrk hG b2
  rcases hm with ⟨h0, rfl⟩ | ⟨h0, n₀, m₁, b, rfl, hp, _, _⟩
  · subst h0
    go_wp2
    go_ret
    exact ⟨rfl, B2⟩
  have hKn : 0 < K.length := List.length_pos_iff.2 h0
  have t0 : ((K.length : Int) == 0) = false := by rw [beq_eq_false_iff_ne]; omega
  have HP := Lib.hid hp
  clear hp h0
  have h24 : ∀ n : Nat, (K[n]?.getD (⟨#[]⟩ : ByteArray)).size ≤ 24 := fun n => by
    by_cases hn : n < K.length
    · have := codeB_size (HG.out.code K[n] (List.getElem_mem _))
      simpa [hn] using this
    · rw [List.getElem?_eq_none (by omega)]; decide
  have H24 := Lib.hid h24
  clear h24
  go_wp2_with fail
  refine (newPen_any w2).mono ?_
  rintro e w3 ⟨rfl, hpen, b3⟩
  have HPen := Lib.hid hpen
  have HCo := Lib.hid (I.codes (I.later HP.out b3))
  clear hpen
  go_wp2_with fail
  refine HCo.out.mono ?_
  rintro e w4 ⟨rfl, b4⟩
  have b24 := below_chain b3 (Nat.le_refl _) b4
  have HPen4 := Lib.hid (HPen.out.later b4)
  clear b3 b4 HCo HPen t0
  go_wp2_with fail
  go_loopw [9, 10] (fun i _ wr => ∃ (k : Nat) (g : Option Nat), i = .int .i64 k ∧ k ≤ ns.length ∧ IsPen wr w2.heap.size g (texts K (picks ns K.length k)) ∧ (∀ j, g = some j → w2.heap.size ≤ j) ∧ Below w2.heap.size w2 wr) (fun i _ _ => ns.length - (intOf i).toNat)
  case atStart => exact ⟨0, none, rfl, by omega, HPen4.out, by simp, b24⟩
  case round =>
    obtain ⟨k, g, rfl, hk, hpen, hg, hB⟩ := hrel
    have HPn := Lib.hid hpen
    have HGg := Lib.hid hg
    have HB := Lib.hid hB
    clear hpen hg hB
    by_cases hk2 : k < ns.length
    · obtain ⟨bn, on, rfl, hbn, hcn⟩ := HN.out.cells (by omega)
      have BW := below_chain B2 (Nat.le_refl _) HB.out
      have x1 := (BW.cell (p := ⟨bn, on + k, none⟩) hbn).trans (hcn k _ (intV_get hk2))
      clear hcn
      have HPk := Lib.hid (pick_any (ns[k]?.getD 0) (K.length : Int) wr (by omega) (by omega))
      rw [pickN_eq ns k hKn] at HPk
      have hpl := pickN_lt ns k hKn
      have HSc := Lib.hid (picks_succ ns K.length k)
      obtain ⟨p, hpp⟩ : ∃ p, p = pickN ns K.length k := ⟨_, rfl⟩
      rw [← hpp] at HPk hpl HSc
      generalize ns[k]?.getD 0 = xk at *
      clear hpp
      have hrr := ownsRow_bar HRk.out (bar_of_below (S := fun _ => False) HB.out) (fun _ _ e => e)
      obtain ⟨g1, cp1, e1, hg1, _, hce⟩ := row_cells hrr hpl
      cases e1
      have y1 := hce p _ hpl (show (strV K)[p]? = some (.string (K[p]?.getD ⟨#[]⟩)) by simp [hpl])
      clear hce hrr
      have hcode : codeB (K[p]?.getD ⟨#[]⟩) = true := by
        have := HG.out.code K[p] (List.getElem_mem _)
        simpa [hpl] using this
      obtain ⟨q1, q2⟩ := put_idx hpl
      have HPu := Lib.hid (puts_true I (I.later HP.out HB.out) (p : Int) 0 (K[p]?.getD ⟨#[]⟩) q1 q2 (by omega) (by omega))
      have hLl := texts_len K (picks ns K.length k) H24.out
      have hpkl : (picks ns K.length k).length = k := by simp [picks]
      rw [hpkl] at hLl
      have hc24 := H24.out p
      have HTx := Lib.hid (texts_one K p)
      obtain ⟨c, hc⟩ : ∃ c, c = K[p]?.getD ⟨#[]⟩ := ⟨_, rfl⟩
      rw [← hc] at y1 hcode HPu hc24 HTx
      clear hc q1 q2 hpkl
      have hcE : codeE (texts K (picks ns K.length k)) c = 0 := by
        unfold codeE
        rw [if_pos ((allB_iff c).2 (code_bits hcode)), if_neg (by omega)]
      have hcL : codeL (texts K (picks ns K.length k)) c = texts K (picks ns K.length k) ++ textBits c := by unfold codeL; rw [if_pos hcE]
      have HCe := Lib.hid hcE
      have HCl := Lib.hid hcL
      clear hcE hcL hcode
      go_wp2_with fail
      refine HPk.out.mono ?_
      rintro e w5 ⟨rfl, rfl⟩
      go_wp2_with fail
      refine HPu.out.mono ?_
      rintro e w5 ⟨rfl, b5⟩
      have B5 := below_chain HB.out (Nat.le_refl _) b5
      have y2 := (b5.cell (p := ⟨g1, p, none⟩) hg1).trans y1
      have HPc := Lib.hid (penCode_any (HPn.out.later b5) c (by omega))
      rw [HCe.out, HCl.out] at HPc
      go_wp2_with fail
      refine HPc.out.mono ?_
      rintro e w6 ⟨rfl, hw6⟩
      have B6 := B5.trans (hw6.below B5.size (Nat.le_refl _) HGg.out)
      obtain ⟨g', hp', _, hk'⟩ := hw6
      have HP' := Lib.hid hp'
      have HK' := Lib.hid hk'
      have hs5 := B5.size
      clear hp' hk'
      go_wp2
      go_roundw
      case rel => exact ⟨k + 1, g', by go_num, by omega, by rw [HSc.out, texts_append, HTx.out]; exact HP'.out, fun j e => by
        rcases HK'.out j e with h | h
        · exact HGg.out j h
        · omega, B6⟩
      case measure => simp [intOf]; omega
    · have hkn : k = ns.length := by omega
      subst k
      obtain ⟨L, hL⟩ : ∃ L, L = texts K (picks ns K.length ns.length) := ⟨_, rfl⟩
      have HPnL := Lib.hid (hL ▸ HPn.out)
      go_wp2_with fail
      refine (bytes_any HPnL.out).mono ?_
      rintro e w5 ⟨zs, hpk, va, rfl, hra, b5⟩
      have B5 := below_chain HB.out (Nat.le_refl _) b5
      have BW5 := below_chain B2 (Nat.le_refl _) B5
      have hLl := texts_len K (picks ns K.length ns.length) H24.out
      rw [show (picks ns K.length ns.length).length = ns.length by simp [picks], ← hL] at hLl
      have hzl : zs.length ≤ 200 := by have := hpk.1; omega
      have hby := byt_own hra (by omega) (n₀ := w5.heap.size) (Nat.le_refl _)
      obtain ⟨av, cv, rfl⟩ := row_form hra
      have hcv : zs.length ≤ cv ∧ cv ≤ 9223372036854775807 := by
        rcases hra.2 with ⟨e, h0⟩ | ⟨g3, cap3, cur3, e, _, _, h3, h4, _⟩
        · obtain ⟨_, q1, q2⟩ := Value.slice.inj e
          omega
        · obtain ⟨_, q1, q2⟩ := Value.slice.inj e
          unfold maxLen at h4
          omega
      obtain ⟨hcv1, hcv2⟩ := hcv
      have HPk := Lib.hid hpk
      have HBy := Lib.hid hby
      have HLL := Lib.hid hL
      clear hpk hra hby hL HPn HPnL hLl
      go_wp2_with fail
      go_loopw [12, 13, 14, 15] (fun at_ i _ _ wr => ∃ k : Nat, i = .int .i64 k ∧ k ≤ ns.length ∧ at_ = .int .i64 (texts K (picks ns K.length k)).length ∧ Below w5.heap.size w5 wr) (fun _ i _ _ _ => ns.length - (intOf i).toNat)
      case atStart => exact ⟨0, rfl, by omega, rfl, Below.refl _ _⟩
      case round =>
        obtain ⟨k, rfl, hk', rfl, hB'⟩ := hrel
        have HB' := Lib.hid hB'
        clear hB'
        by_cases hk3 : k < ns.length
        · obtain ⟨bn, on, rfl, hbn, hcn⟩ := HN.out.cells (by omega)
          have BW := below_chain BW5 (Nat.le_refl _) HB'.out
          have x1 := (BW.cell (p := ⟨bn, on + k, none⟩) hbn).trans (hcn k _ (intV_get hk3))
          clear hcn
          have HPi := Lib.hid (pick_any (ns[k]?.getD 0) (K.length : Int) wr (by omega) (by omega))
          rw [pickN_eq ns k hKn] at HPi
          have hpl := pickN_lt ns k hKn
          have HSc := Lib.hid (picks_succ ns K.length k)
          obtain ⟨rest, hrest⟩ := picks_split ns K.length k ns.length hk3
          obtain ⟨p, hpp⟩ : ∃ p, p = pickN ns K.length k := ⟨_, rfl⟩
          rw [← hpp] at HPi hpl HSc hrest
          generalize ns[k]?.getD 0 = xk at *
          clear hpp
          have hPkd : Packed zs (texts K (picks ns K.length k) ++ (textBits (K[p]?.getD ⟨#[]⟩) ++ texts K rest)) := by
            have h := HPk.out
            rw [HLL.out, hrest, texts_append, texts_append, texts_one] at h
            exact h
          have B2r := below_chain B5 (Nat.le_refl _) HB'.out
          have hrr := ownsRow_bar HRk.out (bar_of_below (S := fun _ => False) B2r) (fun _ _ e => e)
          obtain ⟨g1, cp1, e1, hg1, _, hce⟩ := row_cells hrr hpl
          cases e1
          have y1 := hce p _ hpl (show (strV K)[p]? = some (.string (K[p]?.getD ⟨#[]⟩)) by simp [hpl])
          clear hce hrr hrest
          have hgw := got_whole HG.out hpl hPkd
          have hgp := fun e h1 h2 => got_part HG.out (e := e) hpl hPkd h1 h2
          have hc24 := H24.out p
          have hcp : 1 ≤ (K[p]?.getD (⟨#[]⟩ : ByteArray)).size := by
            have := code_pos (HG.out.code K[p] (List.getElem_mem _))
            simpa [hpl] using this
          have HTx := Lib.hid (texts_one K p)
          have hLl := texts_len K (picks ns K.length k) H24.out
          rw [show (picks ns K.length k).length = k by simp [picks]] at hLl
          have hSl : (texts K (picks ns K.length (k + 1))).length = (texts K (picks ns K.length k)).length + (K[p]?.getD (⟨#[]⟩ : ByteArray)).size := by
            rw [HSc.out, texts_append, HTx.out, List.length_append, textBits_len]
          have HSl := Lib.hid hSl
          obtain ⟨c, hc⟩ : ∃ c, c = K[p]?.getD ⟨#[]⟩ := ⟨_, rfl⟩
          obtain ⟨A, hA⟩ : ∃ A, A = (texts K (picks ns K.length k)).length := ⟨_, rfl⟩
          rw [← hc] at y1 hgw hgp hc24 hcp HSl
          rw [← hA] at hgw hgp HSl hLl ⊢
          have HGw := Lib.hid (gets_true I (I.later HP.out B2r) (HBy.out.below HB'.out) HB'.out.size (by omega) (A : Int) p c.size 0 (by omega) hgw)
          have HGp := Lib.hid hgp
          clear hc hA hgw hgp hSl hPkd HTx
          obtain ⟨E, hE⟩ : ∃ E, E = (A + c.size - 1) / 8 := ⟨_, rfl⟩
          have hE2 : ((A : Int) + (c.size : Int) - 1) / 8 = (E : Int) := by omega
          have hE3 : E ≤ 200 := by omega
          have hE4 : 8 * E < A + c.size := by omega
          have HSl' := HSl
          go_wp2_with fail
          refine HPi.out.mono ?_
          rintro e w6 ⟨rfl, rfl⟩
          go_wp2_with fail
          refine HGw.out.mono ?_
          rintro e w6 ⟨rfl, b6⟩
          have y2 := (b6.cell (p := ⟨g1, p, none⟩) hg1).trans y1
          have B6 := below_chain HB'.out (Nat.le_refl _) b6
          clear hE
          by_cases hge : A ≤ 8 * E
          · obtain ⟨hEz, hgE⟩ := HGp.out E hge hE4
            have HGm := Lib.hid (gets_true I (I.later (I.later HP.out B2r) b6) ((byt_take HBy.out E hEz).below B6) B6.size (by simp; omega) (A : Int) 0 0 5 (by omega) hgE)
            have m1 : (if zs.length < E then (zs.length : Int) else (E : Int)) = (E : Int) := by rw [if_neg (by omega)]
            have m2 : (if E < zs.length then (E : Int) else (zs.length : Int)) = (E : Int) := by split <;> omega
            clear hgE
            go_wp2_with fail
            refine HGm.out.mono ?_
            rintro e w7 ⟨rfl, b7⟩
            have y3 := (b7.cell (p := ⟨g1, p, none⟩) (Nat.lt_of_lt_of_le hg1 b6.size)).trans y2
            have B7 := below_chain B6 (Nat.le_refl _) b7
            clear m1 m2
            go_wp2
            go_roundw
            case rel => exact ⟨k + 1, by go_num, by omega, by rw [HSl.out]; go_num, B7⟩
            case measure => simp [intOf]; omega
          · go_wp2
            go_roundw
            case rel => exact ⟨k + 1, by go_num, by omega, by rw [HSl.out]; go_num, B6⟩
            case measure => simp [intOf]; omega
        · have hkn : k = ns.length := by omega
          subst k
          go_wp2
          go_ret
          exact ⟨rfl, below_chain BW5 (Nat.le_refl _) HB'.out⟩

end Go.Proofs.YtdadmoefmaojlaaDoor
