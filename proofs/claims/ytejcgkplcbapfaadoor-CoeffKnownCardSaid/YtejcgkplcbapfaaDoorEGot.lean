/- coeff's Get, Put, Short: what they answer. -/
import Derived.Test.YtejcgkplcbapfaaDoorEShort
/- What is told by a text of bits, and by the tree of all codes: the same. -/
namespace Go.Proofs.YtejcgkplcbapfaaDoor
open Go.RowKit Go.Shelf
set_option linter.unusedVariables false

theorem seen_begins_iff (zs : List UInt8) (a n : Nat) (c : ByteArray) : begins (seenB zs a n) c = true ↔ c.size ≤ n ∧ ∀ i, i < c.size → c.data.toList[i]? = some (UInt8.ofNat (48 + bt zs (a + i))) := by
  have hcl : c.data.toList.length = c.size := by simp
  have hsl : (seenB zs a n).data.toList = seenL zs a n := rfl
  have hn : (seenL zs a n).length = n := by simp [seenL]
  have hg : ∀ i, i < n → (seenL zs a n)[i]? = some (UInt8.ofNat (48 + bt zs (a + i))) := fun i hi => by
    unfold seenL
    rw [List.getElem?_map, List.getElem?_range hi]
    rfl
  unfold begins
  rw [decide_eq_true_iff, hsl]
  constructor
  · intro h
    have hle := h.length_le
    rw [hcl, hn] at hle
    refine ⟨hle, fun i hi => ?_⟩
    obtain ⟨t, ht⟩ := h
    have h2 := hg i (by omega)
    rw [← ht, List.getElem?_append_left (by rw [hcl]; exact hi)] at h2
    exact h2
  · rintro ⟨hle, h⟩
    rw [List.prefix_iff_eq_take]
    apply List.ext_getElem?
    intro i
    by_cases hi : i < c.size
    · rw [List.getElem?_take, if_pos (by rw [hcl]; exact hi), h i hi, hg i (by omega)]
    · rw [List.getElem?_eq_none (by rw [hcl]; omega), List.getElem?_eq_none (by simp; omega)]
theorem seen_begins_eq (zs : List UInt8) (a n m : Nat) (c : ByteArray) (h1 : c.size ≤ n) (h2 : c.size ≤ m) : begins (seenB zs a n) c = begins (seenB zs a m) c := by
  rw [Bool.eq_iff_iff, seen_begins_iff, seen_begins_iff]
  exact ⟨fun h => ⟨h2, h.2⟩, fun h => ⟨h1, h.2⟩⟩
theorem findIdx_congr {α : Type} {p q : α → Bool} : ∀ (l : List α), (∀ x ∈ l, p x = q x) → l.findIdx? p = l.findIdx? q
  | [], _ => rfl
  | a :: l, h => by
    rw [List.findIdx?_cons, List.findIdx?_cons, h a (by simp), findIdx_congr l (fun x hx => h x (by simp [hx]))]
theorem gotS_look (first : Bool) (zs : List UInt8) (a : Nat) : gotS first zs a (seenB zs a (seenN zs a)) = gotS first zs a (seenB zs a (lookN zs a)) := by
  by_cases hm : 8 * zs.length - a ≤ 20
  · rw [show seenN zs a = lookN zs a by unfold seenN lookN; omega]
  · have h1 : 20 ≤ seenN zs a := by unfold seenN; omega
    have h2 : lookN zs a = 20 := by unfold lookN; omega
    have e1 : getI (codesF first) (seenB zs a (seenN zs a)) = getI (codesF first) (seenB zs a (lookN zs a)) :=
      findIdx_congr _ (fun c hc => seen_begins_eq zs a _ _ c (by have := (codesF_bits first c hc).2.2; omega) (by have := (codesF_bits first c hc).2.2; omega))
    have e2 : ∀ n, 20 ≤ n → getMore (codesF first) (seenB zs a n) = false := fun n hn => by
      unfold getMore
      rw [List.any_eq_false]
      intro c hc
      have := (codesF_bits first c hc).2.2
      rw [begins_lt (by rw [seenB_size]; omega)]
      decide
    unfold gotS
    rw [e1, e2 _ h1, e2 (lookN zs a) (by omega)]

theorem esc_at (first : Bool) : ∃ k, k < (codesF first).length ∧ (codesF first)[k]?.getD ⟨#[]⟩ = esc8 ∧ ¬ k < 63 ∧ ¬ (first = false ∧ k = 63) := by
  cases first
  · exact ⟨64, by decide, by decide +kernel, by omega, by simp⟩
  · exact ⟨63, by decide, by decide +kernel, by omega, by simp⟩
theorem gotS_esc {first : Bool} {zs : List UInt8} {a : Nat} {S : ByteArray} (h : begins S esc8 = true) : gotS first zs a S = escG zs a := by
  obtain ⟨k, h1, h2, h3, h4⟩ := esc_at first
  have hI := codes_one (clashF first) h1 (by rw [h2]; exact h)
  unfold gotS
  rw [hI]
  simp only
  rw [if_neg h3, if_neg h4]
theorem gotS_end {zs : List UInt8} {a : Nat} {S : ByteArray} (h : begins S end8 = true) : gotS false zs a S = ⟨0, 0, true, 2, 0⟩ := by
  have hI := codes_one (clashF false) (k := 63) (by decide) (by rw [show (codesF false)[63]?.getD ⟨#[]⟩ = end8 by decide +kernel]; exact h)
  unfold gotS
  rw [hI]
  rfl

theorem stopB_iff (c S : ByteArray) : stopB c S = true ↔ begins c S = true ∨ begins S c = true := by unfold stopB; rw [Bool.or_eq_true]
theorem stopB_no {c S : ByteArray} (h : stopB c S = false) : begins c S = false ∧ begins S c = false := by unfold stopB at h; simpa using h
/-- what begins the escape or the end, but is neither, begins a code of the table -/
theorem begin_esc {first : Bool} {S : ByteArray} (h : begins esc8 S = true) (h2 : begins S esc8 = false) : begins (codeF first 6) S = true := by
  have hlt := begins_strict h h2
  unfold begins at *
  rw [decide_eq_true_iff] at *
  have h5 : S.data.toList <+: [48, 48, 48, 48, 48] := by
    have e : esc8.data.toList = [48, 48, 48, 48, 48, 49] := by decide +kernel
    rw [e] at h
    rw [List.prefix_iff_eq_take] at h ⊢
    have hl : S.data.toList.length ≤ 5 := by
      have : esc8.size = 6 := by decide +kernel
      simp
      omega
    have e2 : [48, 48, 48, 48, 48, 49] = [48, 48, 48, 48, 48] ++ [(49 : UInt8)] := rfl
    rw [e2, List.take_append_of_le_length (by simpa using hl)] at h
    exact h
  exact h5.trans ((by decide +kernel : ∀ b, [48, 48, 48, 48, 48] <+: (codeF b 6).data.toList) first)
theorem begin_end {S : ByteArray} (h : begins end8 S = true) (h2 : begins S end8 = false) : begins (codeF false 0) S = true := by
  have hlt := begins_strict h h2
  unfold begins at *
  rw [decide_eq_true_iff] at *
  have h5 : S.data.toList <+: [49] := by
    have e : end8.data.toList = [49, 48] := by decide +kernel
    rw [e] at h
    rw [List.prefix_iff_eq_take] at h ⊢
    have hl : S.data.toList.length ≤ 1 := by
      have : end8.size = 2 := by decide +kernel
      simp
      omega
    have e2 : [49, 48] = [49] ++ [(48 : UInt8)] := rfl
    rw [e2, List.take_append_of_le_length (by simpa using hl)] at h
    exact h
  exact h5.trans (by decide +kernel : [49] <+: (codeF false 0).data.toList)

theorem codesF_end (first : Bool) : ∀ c ∈ codesF first, (∃ k, k < 63 ∧ c = codeF first k) ∨ c = esc8 ∨ (first = false ∧ c = end8) := by
  intro c hc
  unfold codesF at hc
  rw [List.mem_append] at hc
  rcases hc with hc | hc
  · obtain ⟨k, hk, rfl⟩ := List.mem_map.1 hc
    exact .inl ⟨k, by simpa using hk, rfl⟩
  · cases first
    · simp at hc
      rcases hc with rfl | rfl
      · exact .inr (.inr ⟨rfl, rfl⟩)
      · exact .inr (.inl rfl)
    · simp at hc
      exact .inr (.inl hc)
theorem begins_refl (S : ByteArray) : begins S S = true := by unfold begins; exact decide_eq_true (List.prefix_refl _)

theorem seen_bit (zs : List UInt8) (a n k : Nat) (h : k < n) : ((seenB zs a n).data.toList[k]?.getD 48 = 49) ↔ bt zs (a + k) = 1 := by
  have hb := bt_le zs (a + k)
  have e : (seenB zs a n).data.toList[k]? = some (UInt8.ofNat (48 + bt zs (a + k))) := by
    show (seenL zs a n)[k]? = _
    unfold seenL
    rw [List.getElem?_map, List.getElem?_range h]
    rfl
  rw [e]
  simp only [Option.getD_some]
  obtain h | h : bt zs (a + k) = 0 ∨ bt zs (a + k) = 1 := by omega
  · rw [h]; decide
  · rw [h]; decide

theorem gotS_sig {first : Bool} {zs : List UInt8} {a : Nat} {e : Ending} (h1 : begins (seenB zs a (lookN zs a)) esc8 = false) (h2 : first = true ∨ begins (seenB zs a (lookN zs a)) end8 = false)
    (hR : SignedR (seenB zs a (lookN zs a)) first e) : e = .returned (threeV (gotS first zs a (seenB zs a (lookN zs a)))) ∧ (gotS first zs a (seenB zs a (lookN zs a))).over = false := by
  have hSz := seenB_size zs a (lookN zs a)
  have hbit := fun k h => seen_bit zs a (lookN zs a) k h
  generalize seenB zs a (lookN zs a) = S at *
  have key : ∀ k, k < 63 → begins S (codeF first k) = true → getI (codesF first) S = some k := fun k hk hb =>
    codes_one (clashF first) (by rw [codesF_len]; split <;> omega) (by rw [(codesF_at first hk).1]; exact hb)
  rcases hR with ⟨k, hk, hno, hst, rfl⟩ | ⟨hno, rfl⟩
  · have hcs := codeF_small first k
    by_cases hb : begins S (codeF first k) = true
    · have hI := key k hk hb
      have hsz := begins_size hb
      unfold gotS
      rw [hI]
      simp only
      rw [if_pos hk]
      unfold sigC tabG
      by_cases hc : begins (codeF first k) S = true
      · have := begins_size hc
        rw [if_pos hc, if_pos (show 8 * zs.length ≤ a + (codeF first k).size by unfold lookN at hSz; omega)]
        exact ⟨by first | rfl | trivial, by first | rfl | trivial⟩
      · have hlt := begins_strict hb (by simpa using hc)
        rw [if_neg hc, if_neg (show ¬ 8 * zs.length ≤ a + (codeF first k).size by unfold lookN at hSz; omega)]
        have := hbit (codeF first k).size (by omega)
        by_cases h49 : bt zs (a + (codeF first k).size) = 1
        · rw [if_pos h49, if_pos (this.2 h49)]
          exact ⟨by first | rfl | trivial, by first | rfl | trivial⟩
        · rw [if_neg h49, if_neg (fun h => h49 (this.1 h))]
          exact ⟨by first | rfl | trivial, by first | rfl | trivial⟩
    · have hc : begins (codeF first k) S = true := ((stopB_iff _ _).1 hst).resolve_right hb
      have hI : getI (codesF first) S = none := by
        cases hg : getI (codesF first) S with
        | none => rfl
        | some j =>
          exfalso
          obtain ⟨j1, j2⟩ := getI_lt hg
          have hj := begins_transC hc j2
          have := codes_apart (clashF first) (i := k) (j := j) (by rw [codesF_len]; split <;> omega) j1 (by rw [(codesF_at first hk).1]; exact hj)
          subst this
          rw [(codesF_at first hk).1] at j2
          exact hb j2
      have hM : getMore (codesF first) S = true := getMore_true (k := k) (by rw [codesF_len]; split <;> omega) (by rw [(codesF_at first hk).1]; exact hc)
      unfold gotS sigC
      rw [hI, if_pos hc]
      simp only
      rw [if_pos hM]
      exact ⟨by first | rfl | trivial, by first | rfl | trivial⟩
  · have hI : getI (codesF first) S = none := by
      unfold getI
      rw [List.findIdx?_eq_none_iff]
      intro c hc
      rcases codesF_end first c hc with ⟨k, hk, rfl⟩ | rfl | ⟨rfl, rfl⟩
      · exact (stopB_no (hno k hk)).2
      · exact h1
      · exact h2.resolve_left (by decide)
    have hM : getMore (codesF first) S = false := by
      unfold getMore
      rw [List.any_eq_false]
      intro c hc
      rw [Bool.not_eq_true]
      rcases codesF_end first c hc with ⟨k, hk, rfl⟩ | rfl | ⟨rfl, rfl⟩
      · exact (stopB_no (hno k hk)).1
      · rw [Bool.eq_false_iff]
        intro h
        have := begin_esc (first := first) h h1
        rw [(stopB_no (hno 6 (by omega))).1] at this
        cases this
      · rw [Bool.eq_false_iff]
        intro h
        have := begin_end h (h2.resolve_left (by decide))
        rw [(stopB_no (hno 0 (by omega))).1] at this
        cases this
    unfold gotS
    rw [hI]
    simp only
    rw [hM, if_neg (by decide)]
    exact ⟨by first | rfl | trivial, by first | rfl | trivial⟩

end Go.Proofs.YtejcgkplcbapfaaDoor
