/- Which code bits begin with, plainly: bit by bit. -/
import Derived.Test.YtdadmoefmaojlaaDoorPMade
namespace Go.Proofs.YtdadmoefmaojlaaDoor
open Go.RowKit Go.Shelf
set_option linter.unusedVariables false

/-- the first m bits from a place on are those of a text -/
def agree (zs : List UInt8) (A : Nat) (c : ByteArray) (m : Nat) : Bool := (List.range m).all fun j => ((bt zs (A + j) : Int) == ((c.data.toList.getD j 0).toNat : Int) - 48)
theorem bt_two (zs : List UInt8) (i : Nat) : bt zs i < 2 := by unfold bt; exact Nat.mod_lt _ (by omega)
theorem agree_succ (zs : List UInt8) (A : Nat) (c : ByteArray) (m : Nat) : agree zs A c (m + 1) = (agree zs A c m && ((bt zs (A + m) : Int) == ((c.data.toList.getD m 0).toNat : Int) - 48)) := by
  unfold agree
  rw [List.range_succ, List.all_append]
  simp
theorem one_bit (z : UInt8) (v : Nat) (hv : v < 2) : ((v : Int) == (z.toNat : Int) - 48) = true ↔ z = UInt8.ofNat (48 + v) := by
  rw [beq_iff_eq]
  constructor
  · intro h
    apply UInt8.toNat_inj.1
    rw [UInt8.toNat_ofNat', Nat.mod_eq_of_lt (by simp; omega)]
    omega
  · intro h
    rw [h, UInt8.toNat_ofNat', Nat.mod_eq_of_lt (by simp; omega)]
    omega
theorem agree_iff (zs : List UInt8) (A : Nat) (c : ByteArray) (m : Nat) (hm : m ≤ c.size) : agree zs A c m = true ↔ c.data.toList.take m = seenL zs A m := by
  have hl : c.data.toList.length = c.size := by simp
  unfold agree
  rw [List.all_eq_true]
  constructor
  · intro h
    apply List.ext_getElem
    · simp [seenL]; omega
    · intro j h1 h2
      have hj : j < m := by simp at h1; omega
      have := (one_bit _ _ (bt_two zs (A + j))).1 (h j (by simpa using hj))
      rw [List.getElem_take]
      rw [List.getD_eq_getElem?_getD, List.getElem?_eq_getElem (by omega)] at this
      simpa [seenL] using this
  · intro h j hj
    have hj : j < m := by simpa using hj
    rw [one_bit _ _ (bt_two zs (A + j))]
    have h2 : (c.data.toList.take m)[j]? = (seenL zs A m)[j]? := by rw [h]
    rw [List.getElem?_take, if_pos hj, List.getElem?_eq_getElem (by omega)] at h2
    rw [List.getD_eq_getElem?_getD, List.getElem?_eq_getElem (by omega)]
    simpa [seenL, hj] using h2
theorem seenL_take (zs : List UInt8) (A n m : Nat) (h : m ≤ n) : (seenL zs A n).take m = seenL zs A m := by
  unfold seenL
  rw [← List.map_take, List.take_range, Nat.min_eq_left h]
theorem begins_seen (zs : List UInt8) (A n : Nat) (c : ByteArray) (h : c.size ≤ n) : begins (seenB zs A n) c = agree zs A c c.size := by
  rw [Bool.eq_iff_iff, begins_iffM, agree_iff zs A c c.size (Nat.le_refl _)]
  have hl : c.data.toList.length = c.size := by simp
  rw [List.prefix_iff_eq_take, hl]
  show c.data.toList = (seenL zs A n).toArray.toList.take c.size ↔ _
  rw [List.toList_toArray, seenL_take zs A n c.size h, List.take_of_length_le (Nat.le_of_eq hl)]
theorem begins_seen2 (zs : List UInt8) (A n : Nat) (c : ByteArray) (h : n ≤ c.size) : begins c (seenB zs A n) = agree zs A c n := by
  rw [Bool.eq_iff_iff, begins_iffM, agree_iff zs A c n h]
  show (seenL zs A n).toArray.toList <+: c.data.toList ↔ _
  rw [List.toList_toArray, List.prefix_iff_eq_take]
  have : (seenL zs A n).length = n := by simp [seenL]
  rw [this]
  exact eq_comm

/-- bits that begin with all of a code; bits that are a beginning of one -/
def wholeAt (zs : List UInt8) (A left : Nat) (c : ByteArray) : Bool := agree zs A c (min c.size left) && decide (c.size ≤ left)
def partAt (zs : List UInt8) (A left : Nat) (c : ByteArray) : Bool := agree zs A c (min c.size left) && decide (left < c.size)
theorem whole_begins (zs : List UInt8) (A : Nat) (c : ByteArray) (hc : c.size ≤ 24) : wholeAt zs A (8 * zs.length - A) c = begins (seenB zs A (seenN zs A)) c := by
  unfold wholeAt
  by_cases h : c.size ≤ 8 * zs.length - A
  · rw [decide_eq_true h, Bool.and_true, Nat.min_eq_left h, begins_seen zs A _ c (by unfold seenN; omega)]
  · rw [decide_eq_false h, Bool.and_false]
    symm
    apply begins_lt
    rw [seenB_size]
    unfold seenN
    omega
theorem part_begins (zs : List UInt8) (A : Nat) (c : ByteArray) (hc : c.size ≤ 24) : (wholeAt zs A (8 * zs.length - A) c || partAt zs A (8 * zs.length - A) c) = (wholeAt zs A (8 * zs.length - A) c || begins c (seenB zs A (seenN zs A))) := by
  by_cases h : 8 * zs.length - A < c.size
  · have hs : seenN zs A = 8 * zs.length - A := by unfold seenN; omega
    congr 1
    unfold partAt
    rw [decide_eq_true h, Bool.and_true, Nat.min_eq_right (by omega), hs, begins_seen2 zs A _ c (by omega)]
  · have hp : partAt zs A (8 * zs.length - A) c = false := by unfold partAt; rw [decide_eq_false h, Bool.and_false]
    rw [hp, Bool.or_false]
    cases hw : wholeAt zs A (8 * zs.length - A) c
    · rw [Bool.false_or]
      symm
      rw [Bool.eq_false_iff]
      intro hb
      have hsz := begins_size hb
      rw [seenB_size] at hsz
      have hn : seenN zs A = c.size := by unfold seenN at *; omega
      rw [whole_begins zs A c hc] at hw
      rw [begins_seen2 zs A _ c (by omega), hn] at hb
      rw [begins_seen zs A _ c (by omega), hb] at hw
      cases hw
    · rfl

theorem getI_whole {K : List ByteArray} (hG : Good K) (zs : List UInt8) (A i : Nat) (hi : i < K.length) (hw : wholeAt zs A (8 * zs.length - A) (K[i]?.getD ⟨#[]⟩) = true) : getI K (seenB zs A (seenN zs A)) = some i := by
  have h24 : ∀ j, j < K.length → (K[j]?.getD ⟨#[]⟩).size ≤ 24 := fun j hj => by
    have := codeB_size (hG.code K[j] (List.getElem_mem _))
    simpa [hj] using this
  rw [whole_begins zs A _ (h24 i hi)] at hw
  apply getI_some hi hw
  intro j hj
  rw [Bool.eq_false_iff]
  intro hb
  have hcl := hG.clash (i := j) (j := i) (by omega) hi (by omega)
  have h1 := (begins_iffM _ _).1 hb
  have h2 := (begins_iffM _ _).1 hw
  unfold clashS at hcl
  rw [Bool.or_eq_false_iff] at hcl
  rcases List.prefix_or_prefix_of_prefix h1 h2 with h | h
  · have := (begins_iffM _ _).2 h
    rw [hcl.2] at this; cases this
  · have := (begins_iffM _ _).2 h
    rw [hcl.1] at this; cases this
theorem whole_unique {K : List ByteArray} (hG : Good K) (zs : List UInt8) (A i j : Nat) (hi : i < K.length) (hj : j < K.length) (h1 : wholeAt zs A (8 * zs.length - A) (K[i]?.getD ⟨#[]⟩) = true) (h2 : wholeAt zs A (8 * zs.length - A) (K[j]?.getD ⟨#[]⟩) = true) : i = j := by
  have e1 := getI_whole hG zs A i hi h1
  have e2 := getI_whole hG zs A j hj h2
  rw [e1] at e2
  exact Option.some.inj e2
theorem getI_no {K : List ByteArray} (hG : Good K) (zs : List UInt8) (A : Nat) (h : ∀ j, j < K.length → wholeAt zs A (8 * zs.length - A) (K[j]?.getD ⟨#[]⟩) = false) : getI K (seenB zs A (seenN zs A)) = none := by
  apply getI_none
  intro j hj
  have := codeB_size (hG.code K[j] (List.getElem_mem _))
  rw [← whole_begins zs A _ (by simpa [hj] using this)]
  exact h j hj
theorem getMore_eq {K : List ByteArray} (hG : Good K) (zs : List UInt8) (A : Nat) (h : ∀ j, j < K.length → wholeAt zs A (8 * zs.length - A) (K[j]?.getD ⟨#[]⟩) = false) : getMore K (seenB zs A (seenN zs A)) = K.any (fun c => partAt zs A (8 * zs.length - A) c) := by
  unfold getMore
  rw [Bool.eq_iff_iff, List.any_eq_true, List.any_eq_true]
  have key : ∀ c ∈ K, begins c (seenB zs A (seenN zs A)) = partAt zs A (8 * zs.length - A) c := by
    intro c hc
    obtain ⟨j, hj, rfl⟩ := List.getElem_of_mem hc
    have h24 := codeB_size (hG.code K[j] (List.getElem_mem _))
    have hw := h j hj
    simp only [List.getElem?_eq_getElem hj, Option.getD_some] at hw
    have := part_begins zs A K[j] h24
    rw [hw, Bool.false_or, Bool.false_or] at this
    exact this.symm
  constructor
  · rintro ⟨c, hc, hb⟩; exact ⟨c, hc, by rw [← key c hc]; exact hb⟩
  · rintro ⟨c, hc, hb⟩; exact ⟨c, hc, by rw [key c hc]; exact hb⟩

end Go.Proofs.YtdadmoefmaojlaaDoor
