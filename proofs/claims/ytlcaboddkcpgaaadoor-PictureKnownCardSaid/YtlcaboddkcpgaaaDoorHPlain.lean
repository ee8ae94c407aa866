/- picture (and group), plainly: spare bytes as bits, read and written; a picture's header. -/
import Derived.Test.YtlcaboddkcpgaaaDoorStand
namespace Go.Proofs.YtlcaboddkcpgaaaDoor
open Go.RowKit Go.Shelf
set_option linter.unusedVariables false

/-- spare bytes, as a text -/
def spL : List UInt8 → List UInt8
  | [] => [48]
  | x :: xs => 49 :: (binL x.toNat 8 ++ spL xs)
theorem spL_length : ∀ xs : List UInt8, (spL xs).length = 9 * xs.length + 1
  | [] => rfl
  | x :: xs => by simp [spL, binL_len, spL_length xs]; omega
def spS (xs : List UInt8) : ByteArray := ⟨(spL xs).toArray⟩
theorem spS_size (xs : List UInt8) : (spS xs).size = 9 * xs.length + 1 := by
  show (spL xs).toArray.size = _
  simp [spL_length]
theorem spS_cons (x : UInt8) (xs : List UInt8) : spS (x :: xs) = (⟨#[49]⟩ : ByteArray) ++ (binS x.toNat 8 ++ spS xs) := by
  apply ByteArray.ext
  apply Array.toList_inj.1
  simp [spS, spL, binS]

/-- what spare bytes are read: the bytes, how many bits, the error; so many may still come -/
def spJ (xs : List UInt8) (r : List UInt8 × Nat × Int) : List UInt8 × Nat × Int := if r.2.2 = 0 then (xs ++ r.1, 9 * xs.length + r.2.1, 0) else ([], 0, r.2.2)
theorem spJ_spJ (xs ys : List UInt8) (r : List UInt8 × Nat × Int) : spJ xs (spJ ys r) = spJ (xs ++ ys) r := by
  unfold spJ
  by_cases h : r.2.2 = 0
  · simp only [if_pos h, if_true, List.append_assoc, List.length_append]
    congr 2
    omega
  · simp only [if_neg h]
theorem spJ_err (xs : List UInt8) {e : Int} (h : e ≠ 0) : spJ xs ([], 0, e) = ([], 0, e) := if_neg h
theorem spJ_end (xs : List UInt8) : spJ xs ([], 1, 0) = (xs, 9 * xs.length + 1, 0) := by
  unfold spJ
  rw [if_pos rfl, List.append_nil]
theorem spJ_nil (r : List UInt8 × Nat × Int) (h : r.2.2 ≠ 0 → r.1 = [] ∧ r.2.1 = 0) : spJ [] r = r := by
  unfold spJ
  by_cases h0 : r.2.2 = 0
  · rw [if_pos h0]
    obtain ⟨a, b, c⟩ := r
    simp at h0 ⊢
    exact h0.symm
  · rw [if_neg h0]
    obtain ⟨a, b, c⟩ := r
    have := h h0
    simp at this ⊢
    exact ⟨this.1, this.2.symm⟩
def spG (zs : List UInt8) : Nat → Nat → List UInt8 × Nat × Int
  | 0, A => if 8 * zs.length ≤ A then ([], 0, 5) else if bt zs A = 0 then ([], 1, 0) else ([], 0, 4)
  | l + 1, A => if 8 * zs.length ≤ A then ([], 0, 5) else if bt zs A = 0 then ([], 1, 0) else if 8 * zs.length < A + 9 then ([], 0, 5) else spJ [UInt8.ofNat (num zs (A + 1) 8)] (spG zs l (A + 9))
theorem spG_out {zs : List UInt8} {l A : Nat} (h : 8 * zs.length ≤ A) : spG zs l A = ([], 0, 5) := by cases l <;> (unfold spG; rw [if_pos h])
theorem spG_end {zs : List UInt8} {l A : Nat} (h : A < 8 * zs.length) (hb : bt zs A = 0) : spG zs l A = ([], 1, 0) := by cases l <;> (unfold spG; rw [if_neg (by omega), if_pos hb])
theorem spG_long {zs : List UInt8} {A : Nat} (h : A < 8 * zs.length) (hb : bt zs A = 1) : spG zs 0 A = ([], 0, 4) := by unfold spG; rw [if_neg (by omega), if_neg (by omega)]
theorem spG_few {zs : List UInt8} {l A : Nat} (h : A < 8 * zs.length) (hb : bt zs A = 1) (h2 : 8 * zs.length < A + 9) : spG zs (l + 1) A = ([], 0, 5) := by unfold spG; rw [if_neg (by omega), if_neg (by omega), if_pos h2]
theorem spG_more {zs : List UInt8} {l A : Nat} (hb : bt zs A = 1) (h2 : A + 9 ≤ 8 * zs.length) : spG zs (l + 1) A = spJ [UInt8.ofNat (num zs (A + 1) 8)] (spG zs l (A + 9)) := by
  show (if 8 * zs.length ≤ A then _ else if bt zs A = 0 then _ else if 8 * zs.length < A + 9 then _ else _) = _
  rw [if_neg (by omega), if_neg (by omega), if_neg (by omega)]
theorem spJ_bad (xs : List UInt8) (r : List UInt8 × Nat × Int) (h : (spJ xs r).2.2 ≠ 0) : (spJ xs r).1 = [] ∧ (spJ xs r).2.1 = 0 := by
  unfold spJ at h ⊢
  by_cases h0 : r.2.2 = 0
  · rw [if_pos h0] at h
    exact absurd rfl h
  · rw [if_neg h0]
    exact ⟨rfl, rfl⟩
theorem spG_bad (zs : List UInt8) (l A : Nat) (h : (spG zs l A).2.2 ≠ 0) : (spG zs l A).1 = [] ∧ (spG zs l A).2.1 = 0 := by
  by_cases h1 : 8 * zs.length ≤ A
  · rw [spG_out h1]; exact ⟨rfl, rfl⟩
  · by_cases h2 : bt zs A = 0
    · rw [spG_end (by omega) h2] at h
      exact absurd rfl h
    · have h2' : bt zs A = 1 := by have := bt_lt2 zs A; omega
      cases l with
      | zero => rw [spG_long (by omega) h2']; exact ⟨rfl, rfl⟩
      | succ l =>
        by_cases h3 : 8 * zs.length < A + 9
        · rw [spG_few (by omega) h2' h3]; exact ⟨rfl, rfl⟩
        · rw [spG_more h2' (by omega)] at h ⊢
          exact spJ_bad _ _ h
/-- which errors there are -/
theorem spG_err (zs : List UInt8) : ∀ (l A : Nat), (spG zs l A).2.2 = 0 ∨ (spG zs l A).2.2 = 4 ∨ (spG zs l A).2.2 = 5 := by
  intro l
  induction l with
  | zero => intro A; unfold spG; split <;> (try split) <;> simp
  | succ l ih =>
    intro A
    by_cases h1 : 8 * zs.length ≤ A
    · rw [spG_out h1]; simp
    · by_cases h2 : bt zs A = 0
      · rw [spG_end (by omega) h2]; simp
      · have h2' : bt zs A = 1 := by have := bt_lt2 zs A; omega
        by_cases h3 : 8 * zs.length < A + 9
        · rw [spG_few (by omega) h2' h3]; simp
        · rw [spG_more h2' (by omega)]
          unfold spJ
          split
          · exact .inl rfl
          · exact ih _
/-- what is written is read -/
theorem spG_stands {zs : List UInt8} : ∀ (xs : List UInt8) (l A : Nat), Stands zs A (spS xs) → xs.length ≤ l → spG zs l A = (xs, 9 * xs.length + 1, 0)
  | [], l, A, h, _ => by
    have h1 := h.1
    rw [spS_size] at h1
    simp at h1
    have h0 := h.2 0 (by rw [spS_size]; omega)
    have hb : bt zs A = 0 := u8_48 (bt_lt2 _ _) (by omega) (by simpa using (Option.some.inj h0).symm)
    exact spG_end (by omega) hb
  | x :: xs, l, A, h, hl => by
    obtain ⟨m, rfl⟩ : ∃ m, l = m + 1 := ⟨l - 1, by simp at hl; omega⟩
    rw [spS_cons] at h
    obtain ⟨h1, h2⟩ := h.split
    obtain ⟨h3, h4⟩ := h2.split
    have e1 : (⟨#[49]⟩ : ByteArray).size = 1 := rfl
    rw [e1] at h3 h4
    rw [binS_size] at h4
    have hb : bt zs A = 1 := u8_48 (bt_lt2 _ _) (by omega) (by simpa using (Option.some.inj (h1.2 0 (by omega))).symm)
    have hn := stands_num _ _ _ _ h3
    have hx := x.toNat_lt
    rw [Nat.mod_eq_of_lt (by omega)] at hn
    have hl4 := h4.1
    rw [spG_more hb (by rw [show A + 1 + 8 = A + 9 by omega] at hl4; omega), hn, show A + 9 = A + 1 + 8 by omega, spG_stands xs m _ h4 (by simp at hl; omega)]
    unfold spJ
    rw [if_pos rfl]
    simp
    omega
/-- what is written, but cut, is too few -/
theorem spG_cut {zs : List UInt8} : ∀ (xs : List UInt8) (l A : Nat), 8 * zs.length < A + (spS xs).size → (∀ i, A + i < 8 * zs.length → (spS xs).data.toList[i]? = some (UInt8.ofNat (48 + bt zs (A + i)))) → xs.length ≤ l → spG zs l A = ([], 0, 5)
  | [], l, A, h, _, _ => by rw [spS_size] at h; exact spG_out (by simp at h; omega)
  | x :: xs, l, A, h, hp, hl => by
    by_cases h1 : 8 * zs.length ≤ A
    · exact spG_out h1
    · obtain ⟨m, rfl⟩ : ∃ m, l = m + 1 := ⟨l - 1, by simp at hl; omega⟩
      have hb : bt zs A = 1 := u8_48 (bt_lt2 _ _) (by omega) (by simpa [spS, spL] using (Option.some.inj (hp 0 (by omega))).symm)
      by_cases h2 : 8 * zs.length < A + 9
      · exact spG_few (by omega) hb h2
      · rw [spG_more hb (by omega), spG_cut xs m (A + 9) (by rw [spS_size] at h ⊢; simp at h ⊢; omega) (fun i hi => ?_) (by simp at hl; omega)]
        · unfold spJ
          rw [if_neg (by simp)]
        · have := hp (9 + i) (by omega)
          rw [show A + (9 + i) = A + 9 + i by omega] at this
          rw [← this, spS_cons, list_append, list_append, List.getElem?_append_right (by show 1 ≤ 9 + i; omega), show 9 + i - (⟨#[49]⟩ : ByteArray).data.toList.length = 8 + i by show 9 + i - 1 = 8 + i; omega, List.getElem?_append_right (by rw [list_size, binS_size]; omega), list_size, binS_size, show 8 + i - 8 = i by omega]
/-- what is read stands there -/
theorem spG_stand {zs : List UInt8} : ∀ (l A : Nat), (spG zs l A).2.2 = 0 → (spG zs l A).1.length ≤ l ∧ (spG zs l A).2.1 = 9 * (spG zs l A).1.length + 1 ∧ Stands zs A (spS (spG zs l A).1) := by
  intro l
  induction l with
  | zero =>
    intro A h
    by_cases h1 : 8 * zs.length ≤ A
    · rw [spG_out h1] at h; cases h
    · by_cases h2 : bt zs A = 0
      · rw [spG_end (by omega) h2]
        exact ⟨Nat.le_refl _, rfl, stands_one (by omega) h2⟩
      · rw [spG_long (by omega) (by have := bt_lt2 zs A; omega)] at h; cases h
  | succ l ih =>
    intro A h
    by_cases h1 : 8 * zs.length ≤ A
    · rw [spG_out h1] at h; cases h
    · by_cases h2 : bt zs A = 0
      · rw [spG_end (by omega) h2]
        exact ⟨Nat.zero_le _, rfl, stands_one (by omega) h2⟩
      · have h2' : bt zs A = 1 := by have := bt_lt2 zs A; omega
        by_cases h3 : 8 * zs.length < A + 9
        · rw [spG_few (by omega) h2' h3] at h; cases h
        · rw [spG_more h2' (by omega)] at h ⊢
          have h0 : (spG zs l (A + 9)).2.2 = 0 := by
            unfold spJ at h
            by_cases e : (spG zs l (A + 9)).2.2 = 0
            · exact e
            · rw [if_neg e] at h; exact h
          obtain ⟨i1, i2, i3⟩ := ih (A + 9) h0
          unfold spJ
          rw [if_pos h0]
          refine ⟨by simp; omega, by simp [i2]; omega, ?_⟩
          show Stands zs A (spS (UInt8.ofNat (num zs (A + 1) 8) :: (spG zs l (A + 9)).1))
          rw [spS_cons]
          refine Stands.join (stands_one (by omega) h2') (Stands.join ?_ ?_)
          · have hn := num_lt zs (A + 1) 8
            rw [UInt8.toNat_ofNat_of_lt' (by show _ < 256; omega)]
            exact stands_of_num 8 zs (A + 1) (by omega)
          · rw [binS_size]
            exact i3

/-- a header: its time, its type, its spare bytes, how many bits it has, the error -/
structure Hdg where
  time : Int
  type : Int
  spare : List UInt8
  many : Int
  err : Int
/-- whether a header may be, which format it says, which bits it has -/
def ckH (t y : Int) (n : Nat) : Int := if 0 ≤ t ∧ t ≤ 31 ∧ 0 ≤ y ∧ y ≤ 63 ∧ n ≤ 32 then 0 else 2
def fmH (y : Int) : Int := y % 64 / 4 % 2
def txH (t y : Int) (xs : List UInt8) : ByteArray := if ckH t y xs.length = 0 then binS t.toNat 5 ++ (binS y.toNat 6 ++ spS xs) else ⟨#[]⟩
theorem ckH_iff (t y : Int) (n : Nat) : ckH t y n = 0 ↔ (0 ≤ t ∧ t ≤ 31 ∧ 0 ≤ y ∧ y ≤ 63 ∧ n ≤ 32) := by
  unfold ckH
  by_cases h : 0 ≤ t ∧ t ≤ 31 ∧ 0 ≤ y ∧ y ≤ 63 ∧ n ≤ 32
  · rw [if_pos h]; exact ⟨fun _ => h, fun _ => rfl⟩
  · rw [if_neg h]; exact ⟨fun e => absurd e (by decide), fun e => absurd e h⟩
theorem ckH_two {t y : Int} {n : Nat} (h : ckH t y n ≠ 0) : ckH t y n = 2 := by
  unfold ckH at h ⊢
  split
  · rename_i h2; rw [if_pos h2] at h; exact absurd rfl h
  · rfl
theorem txH_ok {t y : Int} {xs : List UInt8} (h : ckH t y xs.length = 0) : txH t y xs = binS t.toNat 5 ++ (binS y.toNat 6 ++ spS xs) := if_pos h
theorem txH_bad {t y : Int} {xs : List UInt8} (h : ckH t y xs.length ≠ 0) : txH t y xs = ⟨#[]⟩ := if_neg h
theorem txH_size {t y : Int} {xs : List UInt8} (h : ckH t y xs.length = 0) : (txH t y xs).size = 12 + 9 * xs.length := by
  rw [txH_ok h, ByteArray.size_append, ByteArray.size_append, binS_size, binS_size, spS_size]
  omega
/-- what Get answers -/
def badH (e : Int) : Hdg := ⟨0, 0, [], 0, e⟩
def gtH (zs : List UInt8) (x : Int) : Hdg :=
  if x < 0 then badH 3 else if 8 * (zs.length : Int) < x + 11 then badH 5 else
    if (spG zs 32 (x.toNat + 11)).2.2 = 0 then ⟨num zs x.toNat 5, num zs (x.toNat + 5) 6, (spG zs 32 (x.toNat + 11)).1, 11 + (spG zs 32 (x.toNat + 11)).2.1, 0⟩ else badH (spG zs 32 (x.toNat + 11)).2.2
theorem gtH_nat {zs : List UInt8} {A : Nat} (h : A + 11 ≤ 8 * zs.length) : gtH zs A = if (spG zs 32 (A + 11)).2.2 = 0 then ⟨num zs A 5, num zs (A + 5) 6, (spG zs 32 (A + 11)).1, 11 + (spG zs 32 (A + 11)).2.1, 0⟩ else badH (spG zs 32 (A + 11)).2.2 := by
  unfold gtH
  rw [if_neg (by omega), if_neg (by omega), Int.toNat_natCast]
theorem gtH_err (zs : List UInt8) (A : Nat) : ((gtH zs A).err = 0 ∧ A + 11 ≤ 8 * zs.length ∧ (spG zs 32 (A + 11)).2.2 = 0) ∨ gtH zs A = badH 4 ∨ gtH zs A = badH 5 := by
  by_cases h : A + 11 ≤ 8 * zs.length
  · rw [gtH_nat h]
    rcases spG_err zs 32 (A + 11) with e | e | e
    · rw [if_pos e]; exact .inl ⟨rfl, h, e⟩
    · rw [if_neg (by omega), e]; exact .inr (.inl rfl)
    · rw [if_neg (by omega), e]; exact .inr (.inr rfl)
  · unfold gtH
    rw [if_neg (by omega), if_pos (by omega)]
    exact .inr (.inr rfl)
/-- what is put is got -/
theorem gtH_stands {zs : List UInt8} {A : Nat} {t y : Int} {xs : List UInt8} (h : ckH t y xs.length = 0) (hs : Stands zs A (txH t y xs)) : gtH zs A = ⟨t, y, xs, 12 + 9 * xs.length, 0⟩ := by
  obtain ⟨h1, h2, h3, h4, h5⟩ := (ckH_iff t y xs.length).1 h
  have hsz := txH_size h
  have hl := hs.1
  rw [hsz] at hl
  rw [txH_ok h] at hs
  obtain ⟨s1, s2⟩ := hs.split
  obtain ⟨s2, s3⟩ := s2.split
  rw [binS_size] at s2 s3
  rw [binS_size] at s3
  have n1 := stands_num _ _ _ _ s1
  have n2 := stands_num _ _ _ _ s2
  rw [show A + 5 + 6 = A + 11 by omega] at s3
  rw [gtH_nat (by omega), spG_stands xs 32 _ s3 h5, if_pos rfl, n1, n2, Nat.mod_eq_of_lt (by omega), Nat.mod_eq_of_lt (by omega)]
  congr 1
  · omega
  · omega
  · simp
    omega
/-- what is put, but cut, is too few -/
theorem gtH_cut {zs : List UInt8} {A : Nat} {t y : Int} {xs : List UInt8} (h : ckH t y xs.length = 0) (hl : 8 * zs.length < A + (txH t y xs).size) (hp : ∀ i, A + i < 8 * zs.length → (txH t y xs).data.toList[i]? = some (UInt8.ofNat (48 + bt zs (A + i)))) : gtH zs A = badH 5 := by
  obtain ⟨h1, h2, h3, h4, h5⟩ := (ckH_iff t y xs.length).1 h
  by_cases hA : A + 11 ≤ 8 * zs.length
  · rw [gtH_nat hA, spG_cut xs 32 (A + 11) (by rw [txH_size h] at hl; rw [spS_size]; omega) (fun i hi => ?_) h5]
    · rw [if_neg (by simp)]
    · have := hp (11 + i) (by omega)
      rw [show A + (11 + i) = A + 11 + i by omega] at this
      rw [← this, txH_ok h, list_append, list_append, List.getElem?_append_right (by rw [list_size, binS_size]; omega), list_size, binS_size, List.getElem?_append_right (by rw [list_size, binS_size]; omega), list_size, binS_size, show 11 + i - 5 - 6 = i by omega]
  · unfold gtH
    rw [if_neg (by omega), if_pos (by omega)]
/-- what is got stands there, and may be -/
theorem gtH_stand {zs : List UInt8} {A : Nat} (h0 : (gtH zs A).err = 0) : ckH (gtH zs A).time (gtH zs A).type (gtH zs A).spare.length = 0 ∧ Stands zs A (txH (gtH zs A).time (gtH zs A).type (gtH zs A).spare) ∧ (gtH zs A).many = 12 + 9 * ((gtH zs A).spare.length : Int) := by
  rcases gtH_err zs A with ⟨-, hA, he⟩ | e | e
  · rw [gtH_nat hA, if_pos he]
    obtain ⟨i1, i2, i3⟩ := spG_stand 32 (A + 11) he
    have n1 := num_lt zs A 5
    have n2 := num_lt zs (A + 5) 6
    have hc : ckH (num zs A 5 : Nat) (num zs (A + 5) 6 : Nat) (spG zs 32 (A + 11)).1.length = 0 := (ckH_iff _ _ _).2 ⟨by omega, by omega, by omega, by omega, i1⟩
    refine ⟨hc, ?_, ?_⟩
    · show Stands zs A (txH (num zs A 5 : Nat) (num zs (A + 5) 6 : Nat) (spG zs 32 (A + 11)).1)
      rw [txH_ok hc, Int.toNat_natCast, Int.toNat_natCast]
      refine Stands.join (stands_of_num 5 zs A (by omega)) ?_
      rw [binS_size]
      refine Stands.join (stands_of_num 6 zs (A + 5) (by omega)) ?_
      rw [binS_size, show A + 5 + 6 = A + 11 by omega]
      exact i3
    · show (11 : Int) + ((spG zs 32 (A + 11)).2.1 : Nat) = 12 + 9 * ((spG zs 32 (A + 11)).1.length : Nat)
      rw [i2]
      omega
  · rw [e] at h0; cases h0
  · rw [e] at h0; cases h0

end Go.Proofs.YtlcaboddkcpgaaaDoor
