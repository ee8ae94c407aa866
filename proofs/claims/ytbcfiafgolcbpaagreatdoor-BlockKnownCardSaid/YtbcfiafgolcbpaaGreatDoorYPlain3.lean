/- block, plainly: bits that are cut off; levels and samples; a flat block. -/
import Derived.Test.YtbcfiafgolcbpaaGreatDoorYPlain
import Derived.Test.YtbcfiafgolcbpaaGreatDoorCPlain
namespace Go.Proofs.YtbcfiafgolcbpaaGreatDoor
open Go.RowKit Go.Shelf
set_option linter.unusedVariables false

/-! ### bits that end inside of a code -/
/-- a text begins at a place, and the bits end inside of it -/
def Cut (zs : List UInt8) (A : Nat) (c : ByteArray) : Prop := A ≤ 8 * zs.length ∧ 8 * zs.length < A + c.size ∧ ∀ i, A + i < 8 * zs.length → c.data.toList[i]? = some (UInt8.ofNat (48 + bt zs (A + i)))
theorem Cut.split {zs : List UInt8} {A : Nat} {c d : ByteArray} (h : Cut zs A (c ++ d)) : Cut zs A c ∨ (Stands zs A c ∧ Cut zs (A + c.size) d) := by
  obtain ⟨h1, h2, h3⟩ := h
  rw [ByteArray.size_append] at h2
  by_cases hc : 8 * zs.length < A + c.size
  · refine .inl ⟨h1, hc, fun i hi => ?_⟩
    have := h3 i hi
    rwa [list_append, List.getElem?_append_left (by rw [list_size]; omega)] at this
  · refine .inr ⟨⟨by omega, fun i hi => ?_⟩, by omega, by omega, fun i hi => ?_⟩
    · have := h3 i (by omega)
      rwa [list_append, List.getElem?_append_left (by rw [list_size]; exact hi)] at this
    · have := h3 (c.size + i) (by omega)
      rw [list_append, List.getElem?_append_right (by rw [list_size]; omega), list_size, show c.size + i - c.size = i by omega] at this
      rwa [show A + c.size + i = A + (c.size + i) by omega]
theorem Cut.ahead {zs : List UInt8} {A : Nat} {c : ByteArray} (h : Cut zs A c) (h24 : c.size ≤ 24) : begins c (seenB zs A (seenN zs A)) = true ∧ begins (seenB zs A (seenN zs A)) c = false := by
  obtain ⟨h1, h2, h3⟩ := h
  have hn : seenN zs A = 8 * zs.length - A := by unfold seenN; omega
  refine ⟨?_, ?_⟩
  · unfold begins
    rw [decide_eq_true_iff, List.prefix_iff_getElem?]
    intro i hi
    have hi2 : i < seenN zs A := by have := seenB_size zs A (seenN zs A); rw [list_size] at hi; omega
    have e := ((seen_begins_iff zs A (seenN zs A) (seenB zs A (seenN zs A))).1 (by unfold begins; rw [decide_eq_true_iff]; exact List.prefix_refl _)).2 i (by rw [seenB_size]; exact hi2)
    rw [h3 i (by omega), ← e, List.getElem?_eq_getElem hi]
  · rw [Bool.eq_false_iff]
    intro hb
    have := ((seen_begins_iff zs A _ c).1 hb).1
    omega
theorem got_cut_at {first : Bool} {zs : List UInt8} {A k : Nat} {c : ByteArray} (hk : k < (codesF first).length) (hc : (codesF first)[k]?.getD ⟨#[]⟩ = c) (h24 : c.size ≤ 24) (h : Cut zs A c) : got first zs (A : Int) = badG 5 := by
  obtain ⟨h1, h2⟩ := h.ahead h24
  obtain ⟨e1, e2⟩ := codes_cut (clashF first) hk (by rw [hc]; exact h2) (by rw [hc]; exact h1)
  rw [got_nat]
  unfold gotS
  rw [e1, e2]
  rfl
theorem got_cut_end {zs : List UInt8} {A : Nat} (h : Cut zs A end8) : got false zs (A : Int) = badG 5 :=
  got_cut_at (k := 63) (by decide) (by decide +kernel) (by decide) h
theorem got_cut_esc {first : Bool} {zs : List UInt8} {A : Nat} {r l : Int} (h : Cut zs A (escS r l)) : got first zs (A : Int) = badG 5 := by
  have hsz := h.2.1
  rw [escS_size] at hsz
  unfold escS at h
  rw [ByteArray.append_assoc] at h
  rcases h.split with h1 | ⟨h1, h2⟩
  · obtain ⟨k, k1, k2, _⟩ := esc_at first
    exact got_cut_at k1 k2 (by decide) h1
  · rw [got_nat, gotS_esc (h1.begins (by decide))]
    unfold escG
    rw [if_pos hsz]
theorem got_cut {first : Bool} {zs : List UInt8} {A : Nat} {r l : Int} (h : Cut zs A (putP first r l)) : got first zs (A : Int) = badG 5 := by
  cases hT : tabI r l with
  | none =>
    rw [putP_none hT] at h
    exact got_cut_esc h
  | some k =>
    rw [putP_some hT] at h
    obtain ⟨hk, hm⟩ := tabI_lt hT
    obtain ⟨c1, c2, c3⟩ := codeF_in first hk
    have hlen : k < (codesF first).length := by rw [codesF_len]; split <;> omega
    rcases h.split with h1 | ⟨h1, h2⟩
    · exact got_cut_at hlen (codesF_at first hk).1 (by omega) h1
    · have hI := codes_one (clashF first) hlen (by rw [(codesF_at first hk).1]; exact h1.begins (by omega))
      have hs := h2.2.1
      rw [signS_size] at hs
      rw [got_nat]
      unfold gotS
      rw [hI]
      simp only
      rw [if_pos hk]
      unfold tabG
      rw [if_pos (by omega)]
theorem pairs_cut (zs : List UInt8) (A : Nat) (dc : Int) : ∀ (ps : List (Int × Int)) (f bits : Nat) (first : Bool) (place : Nat) (acc : List (Int × Int)), okPs ps place → ps.length < f → (first = true → ps ≠ []) → Cut zs (A + bits) (textY ps first) →
    pairsY zs A dc f bits first place acc = badY 5
  | [], f + 1, bits, first, place, acc, hok, hf, hne, hs => by
    have hfirst : first = false := by cases first; rfl; exact absurd rfl (hne rfl)
    subst hfirst
    unfold pairsY
    rw [got_cut_end hs]
    rfl
  | (r, l) :: rest, f + 1, bits, first, place, acc, hok, hf, hne, hs => by
    have hp := okPs_pair hok
    obtain ⟨h0, h1, h2, h3⟩ := hok
    rcases Cut.split hs with s1 | ⟨s1, s2⟩
    · unfold pairsY
      rw [got_cut s1]
      rfl
    · unfold pairsY
      rw [got_put hp s1]
      simp only [ne_eq, not_true_eq_false, if_false, Bool.false_eq_true]
      rw [if_neg (by omega), Int.toNat_natCast]
      exact pairs_cut zs A dc rest f (bits + (putP first r l).size) false (place + r.toNat + 1) (acc ++ [(r, l)]) h3 (by simp at hf; omega) (fun h => by cases h) (by rw [← Nat.add_assoc]; exact s2)
theorem got_cutY {zs : List UInt8} {A : Nat} {dc : Int} {ps : List (Int × Int)} {intra : Bool} (hc : chkY dc ps intra = 0) (hs : Cut zs A (putTY dc ps intra)) : gotY zs A intra = badY 5 := by
  obtain ⟨c1, c2, c3⟩ := chkY_ok hc
  have hlen := okPs_len _ _ c3
  unfold gotY
  rw [if_neg (by omega), Int.toNat_natCast]
  cases intra with
  | true =>
    have hd := (dcOk_iff dc).1 (c1 rfl)
    unfold putTY at hs
    simp only [if_true] at hs ⊢
    rcases hs.split with s1 | ⟨s1, s2⟩
    · have := s1.2.1
      rw [binS_size] at this
      rw [if_pos this]
    · have hn := stands_num 8 _ _ _ s1
      rw [binS_size] at s2
      have hsz := s1.1
      rw [binS_size] at hsz
      have hnum : ((num zs A 8 : Nat) : Int) = dc := by rw [hn]; omega
      rw [if_neg (by omega), hnum, c1 rfl]
      simp only [Bool.true_eq_false, if_false]
      exact pairs_cut zs A dc ps 65 8 false 1 [] c3 (by omega) (fun h => by cases h) s2
  | false =>
    obtain ⟨rfl, hne⟩ := c2 rfl
    unfold putTY at hs
    simp only [Bool.false_eq_true, if_false] at hs ⊢
    have e : ((⟨#[]⟩ : ByteArray) ++ textY ps (!false)) = textY ps true := ByteArray.empty_append
    rw [e] at hs
    exact pairs_cut zs A 0 ps 65 0 true 0 [] c3 (by have : fstY false = 0 := rfl; omega) (fun _ => hne) hs

/-! ### texts -/
theorem textY_bits : ∀ (ps : List (Int × Int)) (first : Bool), allB (textY ps first) = true
  | [], _ => (by decide : allB end8 = true)
  | (r, l) :: rest, first => allBits_append (putP_bits _ _ _) (textY_bits rest false)
theorem putTY_bits (dc : Int) (ps : List (Int × Int)) (intra : Bool) : allB (putTY dc ps intra) = true := by
  unfold putTY
  refine allBits_append ?_ (textY_bits _ _)
  split
  · exact binS_bits _ _
  · decide
theorem textY_size : ∀ (ps : List (Int × Int)) (first : Bool), 2 ≤ (textY ps first).size ∧ (textY ps first).size ≤ 20 * ps.length + 2
  | [], _ => (by decide : 2 ≤ end8.size ∧ end8.size ≤ 20 * 0 + 2)
  | (r, l) :: rest, first => by
    have h1 := putP_size first r l
    have h2 := textY_size rest false
    show 2 ≤ (putP first r l ++ textY rest false).size ∧ (putP first r l ++ textY rest false).size ≤ _
    rw [ByteArray.size_append, List.length_cons]
    omega
theorem putTY_size (dc : Int) (ps : List (Int × Int)) (intra : Bool) : 2 ≤ (putTY dc ps intra).size ∧ (putTY dc ps intra).size ≤ 20 * ps.length + 10 := by
  have h := textY_size ps (!intra)
  unfold putTY
  rw [ByteArray.size_append]
  split
  · rw [binS_size]; omega
  · have : (⟨#[]⟩ : ByteArray).size = 0 := rfl
    omega

/-! ### levels and samples -/
def levelsY (dc : Int) (ps : List (Int × Int)) (intra : Bool) : Int × List Int := if chkY dc ps intra ≠ 0 then (chkY dc ps intra, []) else (0, (spr ps (fstY intra) zeros64).2)
def worthY (dc : Int) (ps : List (Int × Int)) (q : Int) (intra : Bool) : Int × List Int := if intra then intraU (levelsY dc ps intra).2 q dc else interU (levelsY dc ps intra).2 q
def residY (dc : Int) (ps : List (Int × Int)) (q : Int) (intra : Bool) : Int × List Int :=
  if chkY dc ps intra ≠ 0 then (chkY dc ps intra, []) else if (worthY dc ps q intra).1 ≠ 0 then ((worthY dc ps q intra).1, []) else invR (worthY dc ps q intra).2
theorem invS_one (n : Int) {k : Nat} (hk : k < 64) : invS (zeros64.set 0 n) k = 2096704 * n := by
  have hz : zeros64.set 0 n = ofC 64 fun j => if j = 0 then n else 0 := by
    refine listC_ext (by rfl) (ofC_length _ _) (fun j hj => ?_)
    rw [nth_set (by decide), ofC_get hj]
    split
    · rfl
    · unfold nthC zeros64
      rw [List.getElem?_replicate, if_pos hj]
      rfl
  rw [hz, invS_rows]
  have e : ∀ v, v < 8 → (smC 8 fun u => wt u (k % 8) * wt v (k / 8) * nthC (ofC 64 fun j => if j = 0 then n else 0) (8 * v + u)) = if v = 0 then 2096704 * n else 0 := by
    intro v hv
    have e2 : ∀ u, u < 8 → wt u (k % 8) * wt v (k / 8) * nthC (ofC 64 fun j => if j = 0 then n else 0) (8 * v + u) = if u = 0 ∧ v = 0 then 2096704 * n else 0 := by
      intro u hu
      rw [ofC_get (by omega)]
      by_cases h : u = 0 ∧ v = 0
      · obtain ⟨rfl, rfl⟩ := h
        rw [if_pos rfl, if_pos ⟨rfl, rfl⟩, show wt 0 (k % 8) = 1448 from wt_zero ⟨k % 8, by omega⟩, show wt 0 (k / 8) = 1448 from wt_zero ⟨k / 8, by omega⟩]
        rfl
      · rw [if_neg (by omega), if_neg h, Int.mul_zero]
    rw [smC_congr e2]
    by_cases hv0 : v = 0
    · subst hv0
      simp [smC]
    · simp [smC, hv0]
  rw [smC_congr e]
  simp [smC]
theorem flatY {c q : Int} (hc : dcOk c = true) (hq : okQU q = true) : residY c [] q true = (0, List.replicate 64 (if c = 255 then 128 else c)) := by
  have hd := (dcOk_iff c).1 hc
  have hck : chkY c [] true = 0 := by
    unfold chkY
    rw [if_neg (by simp [hc]), if_neg (by simp)]
    rfl
  have hlv : levelsY c [] true = (0, zeros64) := by
    unfold levelsY
    rw [hck]
    rfl
  have hz : zeros64.map (fun l => worthU l q) = zeros64 := by
    unfold zeros64
    rw [List.map_replicate, worthU_zero]
  have hi : interU zeros64 q = (0, zeros64) := by
    unfold interU
    rw [if_neg (by decide), if_neg (by rw [hq]; simp; decide), hz]
  have hdc : dcU c = ((if c = 255 then 1024 else 8 * c), 0) := by
    unfold dcU
    rw [if_neg (by omega), if_neg (by omega)]
    split <;> rfl
  have hw : worthY c [] q true = (0, zeros64.set 0 (if c = 255 then 1024 else 8 * c)) := by
    unfold worthY
    simp only [if_true]
    rw [hlv]
    unfold intraU
    rw [hi, hdc]
    simp
  unfold residY
  rw [hck, hw]
  simp only [ne_eq, not_true_eq_false, if_false]
  have hn : -2048 ≤ (if c = 255 then (1024 : Int) else 8 * c) ∧ (if c = 255 then (1024 : Int) else 8 * c) ≤ 2047 := by split <;> omega
  rw [invR_ok]
  · congr 1
    unfold invL
    refine listC_ext (ofC_length _ _) (by simp) (fun j hj => ?_)
    rw [ofC_get hj, invS_one _ hj]
    unfold rndC nthC
    rw [List.getElem?_replicate, if_pos hj]
    show _ = (if c = 255 then (128 : Int) else c)
    split <;> omega
  · refine checkR_ok (by rfl) ((allC_iff _ _ _).2 (fun j hj => (okNC_iff _ _ _).2 ?_))
    rw [nth_set (by decide)]
    split
    · exact hn
    · have : nthC zeros64 j = 0 := by
        unfold nthC zeros64
        rw [List.getElem?_replicate]
        split <;> rfl
      omega

end Go.Proofs.YtbcfiafgolcbpaaGreatDoor
