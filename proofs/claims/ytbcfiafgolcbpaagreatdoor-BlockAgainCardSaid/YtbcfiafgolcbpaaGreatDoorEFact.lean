/- The laws' helpers pair, of, code, bytes (praxinoscopelaw08): their contracts. What is got of written codes of pairs; that no code begins another one. -/
import Derived.Test.YtbcfiafgolcbpaaGreatDoorERef3
import Derived.Test.YtbcfiafgolcbpaaGreatDoorABits
import Derived.Test.YtbcfiafgolcbpaaGreatDoorEGet
/- The laws' helpers pair, of, code, bytes (praxinoscopelaw08): their contracts. -/
namespace Go.Proofs.YtbcfiafgolcbpaaGreatDoor
open Go.RowKit Go.Shelf
set_option linter.unusedVariables false
/-- a level, by any number -/
def lvE (y : Int) : Int := if 0 ≤ y % 254 - 127 then y % 254 - 127 + 1 else y % 254 - 127
theorem lvE_in (y : Int) : -127 ≤ lvE y ∧ lvE y ≤ 127 ∧ lvE y ≠ 0 := by
  have h1 := Int.emod_nonneg y (b := 254) (by omega)
  have h2 := Int.emod_lt_of_pos y (b := 254) (by omega)
  unfold lvE
  split <;> omega
theorem isP_by (x y : Int) : isP (x % 64) (lvE y) = true := by
  obtain ⟨h1, h2, h3⟩ := lvE_in y
  exact isP_yes (Int.emod_nonneg x (by omega)) (by have := Int.emod_lt_of_pos x (b := 64) (by omega); omega) h1 h2 h3
/-- is a one among the first so many, and among the first nine? -/
def oneTo (s : ByteArray) (t : Nat) : Bool := (s.data.toList.take (min t 9)).any (· == 49)
theorem oneTo_zero (s : ByteArray) : oneTo s 0 = false := by simp [oneTo]
theorem oneTo_late (s : ByteArray) {t : Nat} (h : 9 ≤ t) : oneTo s (t + 1) = oneTo s t := by unfold oneTo; rw [Nat.min_eq_right (by omega), Nat.min_eq_right (by omega)]
theorem oneTo_succ (s : ByteArray) {t : Nat} (h : t < 9) (ht : t < s.size) : oneTo s (t + 1) = (oneTo s t || s[t] == 49) := by
  unfold oneTo
  have hl : t < s.data.toList.length := by simpa using ht
  rw [Nat.min_eq_left (by omega), Nat.min_eq_left (by omega), List.take_succ_eq_append_getElem hl, List.any_append]
  simp
  rfl
/-- a one among the first nine -/
def oneIn (s : ByteArray) : Prop := ∃ i, i < 9 ∧ i < s.size ∧ s.data.toList[i]? = some 49
theorem oneTo_all {s : ByteArray} (h : oneIn s) : oneTo s s.size = true := by
  obtain ⟨i, h1, h2, h3⟩ := h
  unfold oneTo
  rw [List.any_eq_true]
  refine ⟨49, ?_, rfl⟩
  refine List.mem_of_getElem? (i := i) ?_
  rw [List.getElem?_take, if_pos (by omega)]
  exact h3

/-- the bits that a text spells, as numbers -/
def spell8 (s : ByteArray) (n : Nat) : List Int := (List.range n).map fun i => ((s.data.toList[i]?.getD 48).toNat : Int) - 48
theorem spell8_succ (s : ByteArray) (n : Nat) (x : Int) (hx : x = ((s.data.toList[n]?.getD 48).toNat : Int) - 48) : intV (spell8 s n) ++ [.int .i64 x] = intV (spell8 s (n + 1)) := by
  subst hx
  simp [spell8, List.range_succ]
theorem spell8_length (s : ByteArray) (n : Nat) : (spell8 s n).length = n := by simp [spell8]
theorem at_list9 (s : ByteArray) {t : Nat} (h : t < s.size) : s.data.toList[t]?.getD 48 = s[t] := by
  have h2 : t < s.data.toList.length := by simpa using h
  rw [List.getElem?_eq_getElem h2]
  simp
  rfl

end Go.Proofs.YtbcfiafgolcbpaaGreatDoor

/- What is got of written codes of pairs; that no code begins another one. -/
namespace Go.Proofs.YtbcfiafgolcbpaaGreatDoor
open Go.RowKit Go.Shelf
set_option linter.unusedVariables false

/-- a text of bits stands at a place -/
def Stands (zs : List UInt8) (A : Nat) (c : ByteArray) : Prop := A + c.size ≤ 8 * zs.length ∧ ∀ i, i < c.size → c.data.toList[i]? = some (UInt8.ofNat (48 + bt zs (A + i)))
theorem list_append (c d : ByteArray) : (c ++ d).data.toList = c.data.toList ++ d.data.toList := by simp [ByteArray.data_append]
theorem list_size (c : ByteArray) : c.data.toList.length = c.size := by simp
theorem Stands.split {zs : List UInt8} {A : Nat} {c d : ByteArray} (h : Stands zs A (c ++ d)) : Stands zs A c ∧ Stands zs (A + c.size) d := by
  obtain ⟨h1, h2⟩ := h
  rw [ByteArray.size_append] at h1 h2
  refine ⟨⟨by omega, fun i hi => ?_⟩, by omega, fun i hi => ?_⟩
  · have := h2 i (by omega)
    rwa [list_append, List.getElem?_append_left (by rw [list_size]; exact hi)] at this
  · have := h2 (c.size + i) (by omega)
    rw [list_append, List.getElem?_append_right (by rw [list_size]; omega), list_size, show c.size + i - c.size = i by omega] at this
    rwa [show A + c.size + i = A + (c.size + i) by omega]
theorem Stands.begins {zs : List UInt8} {A : Nat} {c : ByteArray} (h : Stands zs A c) (h24 : c.size ≤ 24) : begins (seenB zs A (seenN zs A)) c = true :=
  (seen_begins_iff zs A _ c).2 ⟨by have := h.1; unfold seenN; omega, h.2⟩
theorem u8_48 {a b : Nat} (ha : a < 2) (hb : b < 2) (h : UInt8.ofNat (48 + a) = UInt8.ofNat (48 + b)) : a = b := by
  have h2 := congrArg UInt8.toNat h
  simp only [UInt8.toNat_ofNat'] at h2
  omega
theorem bt_lt2 (zs : List UInt8) (a : Nat) : bt zs a < 2 := by unfold bt; omega
theorem stands_num : ∀ (m n : Nat) (zs : List UInt8) (A : Nat), Stands zs A (binS n m) → num zs A m = n % 2 ^ m
  | 0, n, zs, A, h => by simp [num, Nat.mod_one]
  | m + 1, n, zs, A, h => by
    rw [binS_cons] at h
    obtain ⟨h1, h2⟩ := h.split
    have e := stands_num m n zs (A + 1) h2
    have hb := h1.2 0 (by show 0 < 1; omega)
    have hb2 : n / 2 ^ m % 2 = bt zs A := u8_48 (by omega) (bt_lt2 _ _) (by simpa using hb)
    rw [show m + 1 = 1 + m by omega, num_add, e]
    have : num zs A 1 = bt zs A := by simp [num]
    rw [this, ← hb2, show 1 + m = m + 1 by omega, Nat.mod_pow_succ]
    rw [Nat.mul_comm, Nat.add_comm]
theorem binS_inj : ∀ (m n n' : Nat), binS n m = binS n' m → n % 2 ^ m = n' % 2 ^ m
  | 0, n, n', h => by simp [Nat.mod_one]
  | m + 1, n, n', h => by
    rw [binS_cons, binS_cons] at h
    have h2 := congrArg (fun c : ByteArray => c.data.toList) h
    simp only [list_append] at h2
    have h3 : UInt8.ofNat (48 + n / 2 ^ m % 2) :: (binS n m).data.toList = UInt8.ofNat (48 + n' / 2 ^ m % 2) :: (binS n' m).data.toList := h2
    injection h3 with h4 h5
    have e := binS_inj m n n' (ByteArray.ext (Array.toList_inj.1 h5))
    rw [Nat.mod_pow_succ, Nat.mod_pow_succ, e, u8_48 (by omega) (by omega) h4]

theorem esc8_size : esc8.size = 6 := rfl
theorem escS_size (r l : Int) : (escS r l).size = 20 := by
  unfold escS
  rw [ByteArray.size_append, ByteArray.size_append, binS_size, binS_size, esc8_size]
theorem got_nat (first : Bool) (zs : List UInt8) (A : Nat) : got first zs (A : Int) = gotS first zs A (seenB zs A (seenN zs A)) := by
  unfold got
  rw [if_neg (by omega), Int.toNat_natCast]
theorem got_esc {first : Bool} {zs : List UInt8} {A : Nat} {r l : Int} (hp : isP r l = true) (h : Stands zs A (escS r l)) : got first zs A = ⟨r, l, false, 20, 0⟩ := by
  obtain ⟨p1, p2, p3, p4, p5⟩ := isP_of hp
  have hsz := h.1
  rw [escS_size] at hsz
  unfold escS at h
  obtain ⟨h1, h3⟩ := h.split
  obtain ⟨h1, h2⟩ := h1.split
  rw [ByteArray.size_append, binS_size, esc8_size] at h3
  rw [esc8_size] at h2
  have e1 := stands_num 6 _ _ _ h2
  have e2 := stands_num 8 _ _ _ h3
  rw [got_nat, gotS_esc (h1.begins (by rw [esc8_size]; omega))]
  unfold escG
  rw [show A + 6 = A + 6 from rfl] at e1
  rw [show A + (6 + 6) = A + 12 by omega] at e2
  rw [e1, e2, if_neg (by omega), if_neg (by omega)]
  unfold lvl
  congr 1
  · omega
  · split <;> omega
theorem got_end {zs : List UInt8} {A : Nat} (h : Stands zs A end8) : got false zs A = ⟨0, 0, true, 2, 0⟩ := by
  rw [got_nat]
  exact gotS_end (h.begins (by show (2:Nat) ≤ 24; omega))
theorem signS_size (l : Int) : (signS l).size = 1 := by unfold signS; split <;> rfl
theorem signS_bit {zs : List UInt8} {A : Nat} {l : Int} (h : Stands zs A (signS l)) : (bt zs A = 1) ↔ l < 0 := by
  have h2 := h.2 0 (by rw [signS_size]; omega)
  by_cases hl : l < 0
  · have e : signS l = bitsT [1] := if_pos hl
    rw [e] at h2
    have h3 : (1 : Nat) = bt zs A := u8_48 (by omega) (bt_lt2 _ _) (by simpa [bitsT] using h2)
    omega
  · have e : signS l = bitsT [0] := if_neg hl
    rw [e] at h2
    have h3 : (0 : Nat) = bt zs A := u8_48 (by omega) (bt_lt2 _ _) (by simpa [bitsT] using h2)
    omega
theorem codeF_in (first : Bool) {k : Nat} (hk : k < 63) : allB (codeF first k) = true ∧ 1 ≤ (codeF first k).size ∧ (codeF first k).size ≤ 13 := by
  have h1 := (codesF_at first hk).1
  have h2 : k < (codesF first).length := by rw [codesF_len]; split <;> omega
  refine codesF_bits first _ ?_
  rw [← h1, List.getElem?_eq_getElem h2]
  exact List.getElem_mem h2
theorem putP_some {first : Bool} {r l : Int} {k : Nat} (h : tabI r l = some k) : putP first r l = codeF first k ++ signS l := by unfold putP; rw [h]
theorem putP_none {first : Bool} {r l : Int} (h : tabI r l = none) : putP first r l = escS r l := by unfold putP; rw [h]
theorem matchP_eq {r l : Int} {k : Nat} (h : matchP r l (pairAt k) = true) : ((pairAt k).1 : Int) = r ∧ (((pairAt k).2 : Int) = l ∨ ((pairAt k).2 : Int) = -l) := of_decide_eq_true h
theorem got_put {first : Bool} {zs : List UInt8} {A : Nat} {r l : Int} (hp : isP r l = true) (h : Stands zs A (putP first r l)) : got first zs A = ⟨r, l, false, (putP first r l).size, 0⟩ := by
  cases hT : tabI r l with
  | none =>
    rw [putP_none hT] at h ⊢
    rw [got_esc hp h, escS_size]
    rfl
  | some k =>
    rw [putP_some hT] at h ⊢
    obtain ⟨hk, hm⟩ := tabI_lt hT
    obtain ⟨m1, m2⟩ := matchP_eq hm
    obtain ⟨c1, c2, c3⟩ := codeF_in first hk
    have hlen : k < (codesF first).length := by rw [codesF_len]; split <;> omega
    obtain ⟨h1, h2⟩ := h.split
    have hb := h1.begins (by omega)
    have hI := codes_one (clashF first) hlen (by rw [(codesF_at first hk).1]; exact hb)
    have hs := signS_bit h2
    have hs2 := h2.1
    rw [signS_size] at hs2
    rw [got_nat]
    unfold gotS
    rw [hI]
    simp only
    rw [if_pos hk]
    unfold tabG
    rw [if_neg (by omega), ByteArray.size_append, signS_size]
    have h1 := pairAt_one hk
    congr 1
    split <;> omega

/-! ### no code begins another one -/
theorem begins_append (c d : ByteArray) : begins (c ++ d) c = true := by
  unfold begins
  rw [decide_eq_true_iff, list_append]
  exact List.prefix_append _ _
theorem begins_same {s t : ByteArray} (h : begins t s = true) (hz : s.size = t.size) : s = t := by
  unfold begins at h
  rw [decide_eq_true_iff] at h
  have := h.eq_of_length (by rw [list_size, list_size, hz])
  exact ByteArray.ext (Array.toList_inj.1 this)
/-- the code that a pair's own begins with: its number -/
theorem begins_code (first : Bool) (r l : Int) : ∃ k, k < (codesF first).length ∧ begins (putP first r l) ((codesF first)[k]?.getD ⟨#[]⟩) = true ∧ ((k < 63 ∧ tabI r l = some k) ∨ (¬ k < 63 ∧ tabI r l = none)) ∧ ¬ (first = false ∧ k = 63) := by
  cases hT : tabI r l with
  | none =>
    obtain ⟨k, h1, h2, h3, h4⟩ := esc_at first
    refine ⟨k, h1, ?_, .inr ⟨h3, rfl⟩, h4⟩
    rw [h2, putP_none hT]
    unfold escS
    exact begins_transC (begins_append _ _) (begins_append _ _)
  | some k =>
    obtain ⟨hk, hm⟩ := tabI_lt hT
    have hlen : k < (codesF first).length := by rw [codesF_len]; split <;> omega
    refine ⟨k, hlen, ?_, .inl ⟨hk, rfl⟩, by omega⟩
    rw [(codesF_at first hk).1, putP_some hT]
    exact begins_append _ _
theorem append_right {c d d' : ByteArray} (h : c ++ d = c ++ d') : d = d' := by
  have h2 := congrArg (fun c : ByteArray => c.data.toList) h
  simp only [list_append] at h2
  exact ByteArray.ext (Array.toList_inj.1 (List.append_cancel_left h2))
theorem append_left {c c' d d' : ByteArray} (h : c ++ d = c' ++ d') (hz : c.size = c'.size) : c = c' ∧ d = d' := by
  have h2 := congrArg (fun c : ByteArray => c.data.toList) h
  simp only [list_append] at h2
  obtain ⟨h3, h4⟩ := List.append_inj h2 (by rw [list_size, list_size, hz])
  exact ⟨ByteArray.ext (Array.toList_inj.1 h3), ByteArray.ext (Array.toList_inj.1 h4)⟩
theorem escS_inj {r l r' l' : Int} (hp : isP r l = true) (hq : isP r' l' = true) (h : escS r l = escS r' l') : r = r' ∧ l = l' := by
  obtain ⟨p1, p2, p3, p4, p5⟩ := isP_of hp
  obtain ⟨q1, q2, q3, q4, q5⟩ := isP_of hq
  unfold escS at h
  obtain ⟨h1, h2⟩ := append_left h (by rw [ByteArray.size_append, ByteArray.size_append, binS_size, binS_size])
  have h3 := append_right h1
  have e1 := binS_inj 6 _ _ h3
  have e2 := binS_inj 8 _ _ h2
  constructor <;> omega
theorem signS_inj {l l' : Int} (h : signS l = signS l') : (l < 0 ↔ l' < 0) := by
  unfold signS at h
  by_cases h1 : l < 0
  · by_cases h2 : l' < 0
    · omega
    · rw [if_pos h1, if_neg h2] at h
      exact absurd h (by decide +kernel)
  · by_cases h2 : l' < 0
    · rw [if_neg h1, if_pos h2] at h
      exact absurd h (by decide +kernel)
    · omega
theorem putP_one {first : Bool} {r l r' l' : Int} (hp : isP r l = true) (hq : isP r' l' = true) (h : begins (putP first r' l') (putP first r l) = true) : r = r' ∧ l = l' := by
  obtain ⟨k, k1, k2, k3, _⟩ := begins_code first r l
  obtain ⟨j, j1, j2, j3, _⟩ := begins_code first r' l'
  have e1 := codes_one (clashF first) k1 (begins_transC h k2)
  have e2 := codes_one (clashF first) j1 j2
  have e : k = j := by
    rw [e1] at e2
    injection e2
  subst e
  rcases k3 with ⟨hk, hT⟩ | ⟨hk, hT⟩
  · rcases j3 with ⟨_, hT'⟩ | ⟨hk', _⟩
    · have hz : (putP first r l).size = (putP first r' l').size := by
        rw [putP_some hT, putP_some hT', ByteArray.size_append, ByteArray.size_append, signS_size, signS_size]
      have hs := begins_same h hz
      rw [putP_some hT, putP_some hT'] at hs
      have hg := signS_inj (append_right hs)
      obtain ⟨m1, m2⟩ := matchP_eq (tabI_lt hT).2
      obtain ⟨n1, n2⟩ := matchP_eq (tabI_lt hT').2
      constructor <;> omega
    · exact absurd hk hk'
  · rcases j3 with ⟨hk', _⟩ | ⟨_, hT'⟩
    · exact absurd hk' hk
    · rw [putP_none hT, putP_none hT'] at h
      exact escS_inj hp hq (begins_same h (by rw [escS_size, escS_size]))
theorem esc_one {first : Bool} {r l r' l' : Int} (h : begins (escS r' l') (putP first r l) = true) : putP first r l = escS r' l' := by
  obtain ⟨k, k1, k2, k3, _⟩ := begins_code first r l
  obtain ⟨j, j1, j2, j3, _⟩ := esc_at first
  have e1 := codes_one (clashF first) k1 (begins_transC h k2)
  have e2 := codes_one (S := escS r' l') (clashF first) j1 (by rw [j2]; unfold escS; exact begins_transC (begins_append _ _) (begins_append _ _))
  have e : k = j := by
    rw [e1] at e2
    injection e2
  subst e
  rcases k3 with ⟨hk, hT⟩ | ⟨hk, hT⟩
  · exact absurd hk j3
  · rw [putP_none hT] at h ⊢
    exact begins_same h (by rw [escS_size, escS_size])
theorem end_none {r l : Int} : begins (putP false r l) end8 = false := by
  cases hb : begins (putP false r l) end8 with
  | false => rfl
  | true =>
    obtain ⟨k, k1, k2, k3, k4⟩ := begins_code false r l
    have e1 := codes_one (clashF false) k1 k2
    have e2 := codes_one (S := putP false r l) (codes := codesF false) (k := 63) (clashF false) (by decide) (by rw [show (codesF false)[63]?.getD (⟨#[]⟩ : ByteArray) = end8 by decide +kernel]; exact hb)
    rw [e1] at e2
    injection e2 with e
    exact absurd ⟨rfl, e⟩ k4

/-! ### the texts as texts -/
theorem allBits_append {c d : ByteArray} (h1 : allB c = true) (h2 : allB d = true) : allB (c ++ d) = true := by
  unfold allB at *
  rw [list_append, List.all_append, h1, h2]
  rfl
theorem binS_bits : ∀ (m n : Nat), allB (binS n m) = true
  | 0, n => rfl
  | m + 1, n => by
    rw [binS_cons]
    refine allBits_append ?_ (binS_bits m n)
    rcases Nat.mod_two_eq_zero_or_one (n / 2 ^ m) with h | h <;> rw [h] <;> decide
theorem signS_bits (l : Int) : allB (signS l) = true := by unfold signS; split <;> decide
theorem escS_bits (r l : Int) : allB (escS r l) = true := allBits_append (allBits_append (by decide) (binS_bits _ _)) (binS_bits _ _)
theorem putP_bits (first : Bool) (r l : Int) : allB (putP first r l) = true := by
  cases hT : tabI r l with
  | none => rw [putP_none hT]; exact escS_bits r l
  | some k => rw [putP_some hT]; exact allBits_append (codeF_in first (tabI_lt hT).1).1 (signS_bits l)
theorem putP_size (first : Bool) (r l : Int) : 1 ≤ (putP first r l).size ∧ (putP first r l).size ≤ 20 ∧ (shortB r l = true → (putP first r l).size ≤ 14) ∧ (shortB r l = false → putP first r l = escS r l) := by
  unfold shortB
  cases hT : tabI r l with
  | none =>
    rw [putP_none hT, escS_size]
    exact ⟨by omega, by omega, fun h => by simp at h, fun _ => rfl⟩
  | some k =>
    obtain ⟨_, c2, c3⟩ := codeF_in first (tabI_lt hT).1
    rw [putP_some hT, ByteArray.size_append, signS_size]
    exact ⟨by omega, by omega, fun _ => by omega, fun h => by simp at h⟩
theorem oneIn_append {c : ByteArray} (d : ByteArray) (h : oneIn c) : oneIn (c ++ d) := by
  obtain ⟨i, h1, h2, h3⟩ := h
  refine ⟨i, h1, by rw [ByteArray.size_append]; omega, ?_⟩
  rw [list_append, List.getElem?_append_left (by rw [list_size]; exact h2)]
  exact h3
theorem codeF_one : ∀ first, ∀ k : Fin 63, ∃ i : Fin 9, i.val < (codeF first k.val).size ∧ (codeF first k.val).data.toList[i.val]? = some 49 := by decide +kernel
theorem escS_one (r l : Int) : oneIn (escS r l) := oneIn_append _ (oneIn_append _ ⟨5, by omega, by decide, by decide⟩)
theorem putP_one9 (first : Bool) (r l : Int) : oneIn (putP first r l) := by
  cases hT : tabI r l with
  | none => rw [putP_none hT]; exact escS_one r l
  | some k =>
    rw [putP_some hT]
    obtain ⟨i, h1, h2⟩ := codeF_one first ⟨k, (tabI_lt hT).1⟩
    exact oneIn_append _ ⟨i, i.isLt, h1, h2⟩

end Go.Proofs.YtbcfiafgolcbpaaGreatDoor
