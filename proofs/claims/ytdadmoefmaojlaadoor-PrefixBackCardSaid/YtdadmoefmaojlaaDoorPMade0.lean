/- Which of any texts are kept as codes, plainly. -/
import Derived.Test.YtdadmoefmaojlaaDoorPKnown
namespace Go.Proofs.YtdadmoefmaojlaaDoor
open Go.RowKit Go.Shelf
set_option linter.unusedVariables false

theorem begins_iffM (s t : ByteArray) : begins s t = true ↔ t.data.toList <+: s.data.toList := by unfold begins; exact decide_eq_true_iff
theorem begins_size {s t : ByteArray} (h : begins s t = true) : t.size ≤ s.size := by
  have := ((begins_iffM s t).1 h).length_le
  simpa using this
/-- does one of two texts begin the other? -/
def clashS (k s : ByteArray) : Bool := begins k s || begins s k
theorem extract_all (s : ByteArray) : s.extract 0 s.size = s := by
  apply ByteArray.ext
  apply Array.toList_inj.1
  simp
theorem clash_min (k s : ByteArray) (n : Nat) (hn : n = min k.size s.size) : ((k.extract 0 n).toList == (s.extract 0 n).toList) = clashS k s := by
  rw [Bool.eq_iff_iff, str_eq_iff]
  unfold clashS
  rw [Bool.or_eq_true]
  by_cases h : k.size ≤ s.size
  · have e : n = k.size := by omega
    rw [e, extract_all]
    constructor
    · intro h2
      right
      rw [begins_le h]
      exact decide_eq_true h2.symm
    · intro h2
      rcases h2 with h2 | h2
      · have h3 := begins_size h2
        have h4 : s.size = k.size := by omega
        rw [begins_le (by omega), decide_eq_true_iff, h4, extract_all] at h2
        rw [← h2, extract_all]
      · rw [begins_le h, decide_eq_true_iff] at h2
        exact h2.symm
  · have e : n = s.size := by omega
    rw [e, extract_all]
    constructor
    · intro h2
      left
      rw [begins_le (by omega)]
      exact decide_eq_true h2
    · intro h2
      rcases h2 with h2 | h2
      · rw [begins_le (by omega), decide_eq_true_iff] at h2
        exact h2
      · have h3 := begins_size h2
        omega

def fitsB (kept : List ByteArray) (s : ByteArray) : Bool := codeB s && kept.all (fun k => !clashS k s)
def keepStep (kept : List ByteArray) (s : ByteArray) : List ByteArray := if kept.length < 40 ∧ fitsB kept s = true then kept ++ [s] else kept
def keptAt (l : List ByteArray) (i : Nat) : List ByteArray := (l.take i).foldl keepStep []
def keptAll (l : List ByteArray) : List ByteArray := keptAt l l.length
theorem keptAt_succ {l : List ByteArray} {i : Nat} (h : i < l.length) : keptAt l (i + 1) = keepStep (keptAt l i) (l[i]?.getD ⟨#[]⟩) := by
  unfold keptAt
  rw [List.take_add_one, List.getElem?_eq_getElem h, Option.toList_some, List.foldl_append]
  rfl
theorem keptAt_len (l : List ByteArray) (i : Nat) : (keptAt l i).length ≤ 40 := by
  unfold keptAt
  have : ∀ (xs kept : List ByteArray), kept.length ≤ 40 → (xs.foldl keepStep kept).length ≤ 40 := by
    intro xs
    induction xs with
    | nil => intro kept h; exact h
    | cons x xs ih =>
      intro kept h
      apply ih
      unfold keepStep
      split
      · simp; omega
      · exact h
  exact this _ _ (by simp)
theorem fold_full (xs kept : List ByteArray) (h : 40 ≤ kept.length) : xs.foldl keepStep kept = kept := by
  induction xs with
  | nil => rfl
  | cons x xs ih =>
    rw [List.foldl_cons]
    have : keepStep kept x = kept := by unfold keepStep; rw [if_neg (by omega)]
    rw [this, ih]
theorem keptAt_full {l : List ByteArray} {i : Nat} (h : 40 ≤ (keptAt l i).length) : keptAll l = keptAt l i := by
  unfold keptAll keptAt
  rw [List.take_length]
  conv => lhs; rw [← List.take_append_drop i l, List.foldl_append]
  exact fold_full _ _ h

/-- codes that were kept are codes, and none begins another one -/
structure Good (kept : List ByteArray) : Prop where
  code : ∀ s ∈ kept, codeB s = true
  apart : kept.Pairwise (fun a b => clashS a b = false)
theorem good_step {kept : List ByteArray} (h : Good kept) (s : ByteArray) : Good (keepStep kept s) := by
  unfold keepStep
  split
  · rename_i hs
    have hf := hs.2
    unfold fitsB at hf
    rw [Bool.and_eq_true, List.all_eq_true] at hf
    refine ⟨fun t ht => ?_, ?_⟩
    · rw [List.mem_append, List.mem_singleton] at ht
      rcases ht with ht | rfl
      · exact h.code t ht
      · exact hf.1
    · rw [List.pairwise_append]
      refine ⟨h.apart, List.pairwise_singleton _ _, fun a ha b hb => ?_⟩
      rw [List.mem_singleton] at hb
      subst hb
      have := hf.2 a ha
      simpa using this
  · exact h
theorem good_all (l : List ByteArray) (i : Nat) : Good (keptAt l i) := by
  unfold keptAt
  have : ∀ (xs kept : List ByteArray), Good kept → Good (xs.foldl keepStep kept) := by
    intro xs
    induction xs with
    | nil => intro kept h; exact h
    | cons x xs ih => intro kept h; exact ih _ (good_step h x)
  exact this _ _ ⟨by simp, List.Pairwise.nil⟩
theorem clashS_comm (a b : ByteArray) : clashS a b = clashS b a := by unfold clashS; rw [Bool.or_comm]
def idx (n : Nat) : List Int := (List.range n).map Int.ofNat
theorem idx_i64 {n : Nat} (h : n ≤ 1000) : I64s (idx n) := by
  intro x hx
  unfold idx at hx
  rw [List.mem_map] at hx
  obtain ⟨k, hk, rfl⟩ := hx
  rw [List.mem_range] at hk
  simp only [Int.ofNat_eq_natCast]
  omega
theorem Good.clash {kept : List ByteArray} (h : Good kept) {i j : Nat} (hi : i < kept.length) (hj : j < kept.length) (hne : i ≠ j) : clashS (kept[i]?.getD ⟨#[]⟩) (kept[j]?.getD ⟨#[]⟩) = false := by
  have hp := List.pairwise_iff_getElem.1 h.apart
  simp only [List.getElem?_eq_getElem hi, List.getElem?_eq_getElem hj, Option.getD_some]
  rcases Nat.lt_or_gt_of_ne hne with hlt | hlt
  · exact hp i j hi hj hlt
  · rw [clashS_comm]; exact hp j i hj hi hlt
theorem Good.make {kept : List ByteArray} (h : Good kept) (h0 : kept ≠ []) (hl : kept.length ≤ 40) : makeE kept (idx kept.length) = 0 := by
  have hlen : 0 < kept.length := List.length_pos_iff.2 h0
  have hi : (idx kept.length).length = kept.length := by simp [idx]
  unfold makeE
  rw [if_neg (by rw [hi]; omega), if_pos (List.all_eq_true.2 h.code)]
  rw [clash_false]
  · rfl
  · intro i hi k hk
    unfold clashAt
    by_cases e : i = k
    · rw [decide_eq_false (by omega), Bool.false_and]
    · rw [decide_eq_true e, Bool.true_and]
      have := h.clash hi hk e
      unfold clashS at this
      rw [Bool.or_eq_false_iff] at this
      exact this.1
theorem make_none : makeE [] (idx 0) = 2 := by decide +kernel

end Go.Proofs.YtdadmoefmaojlaaDoor
