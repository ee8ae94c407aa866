/- general: so many bits of a number, as a text; a text of bits that stands at a place (moved out of Fmt, ERef, ERef3, EFact). -/
import Derived.Test.YtlcaboddkcpgaaaDoorPen
namespace Go.Proofs.YtlcaboddkcpgaaaDoor
open Go.RowKit Go.Shelf
set_option linter.unusedVariables false

/-- a bit of a code -/
def cbit (b m i : Nat) : Nat := b / 2 ^ (m - 1 - i) % 2
theorem cbit_le (b m i : Nat) : cbit b m i < 2 := by unfold cbit; omega

/-- so many bits of a number, as a text -/
def binL (x n : Nat) : List UInt8 := (List.range n).map fun i => UInt8.ofNat (48 + cbit x n i)
def binS (x n : Nat) : ByteArray := ⟨(binL x n).toArray⟩
theorem binL_len (x n : Nat) : (binL x n).length = n := by simp [binL]
theorem binS_size (x n : Nat) : (binS x n).size = n := by
  show (binL x n).toArray.size = n
  simp [binL]

theorem binS_cons (n k : Nat) : binS n (k + 1) = (⟨#[UInt8.ofNat (48 + n / 2 ^ k % 2)]⟩ : ByteArray) ++ binS n k := by
  apply ByteArray.ext
  apply Array.toList_inj.1
  have h : (binS n (k + 1)).data.toList = UInt8.ofNat (48 + n / 2 ^ k % 2) :: (binS n k).data.toList := by
    simp only [binS, binL, List.range_succ_eq_map, List.map_cons, List.map_map]
    congr 1
    apply List.map_congr_left
    intro i hi
    simp only [Function.comp, cbit]
    rw [show k + 1 - 1 - (i + 1) = k - 1 - i by omega]
  rw [h]
  simp
theorem num_add (zs : List UInt8) (a m n : Nat) : num zs a (m + n) = num zs a m * 2 ^ n + num zs (a + m) n := by
  induction n with
  | zero => simp [num]
  | succ n ih =>
    have h1 : num zs a (m + (n + 1)) = 2 * num zs a (m + n) + bt zs (a + (m + n)) := rfl
    have h2 : num zs (a + m) (n + 1) = 2 * num zs (a + m) n + bt zs (a + m + n) := rfl
    rw [h1, h2, ih, Nat.pow_succ, Nat.add_assoc a m n, Nat.mul_add, ← Nat.mul_assoc, Nat.mul_comm 2 (num zs a m), Nat.mul_assoc, Nat.mul_comm 2 (2 ^ n), Nat.add_assoc]

/-- a text of bits stands at a place -/
def Stands (zs : List UInt8) (A : Nat) (c : ByteArray) : Prop := A + c.size ≤ 8 * zs.length ∧ ∀ i, i < c.size → c.data.toList[i]? = some (UInt8.ofNat (48 + bt zs (A + i)))
theorem list_append (c d : ByteArray) : (c ++ d).data.toList = c.data.toList ++ d.data.toList := by simp [ByteArray.data_append]
theorem list_size (c : ByteArray) : c.data.toList.length = c.size := by simp
theorem Stands.split {zs : List UInt8} {A : Nat} {c d : ByteArray} (h : Stands zs A (c ++ d)) : Stands zs A c ∧ Stands zs (A + c.size) d := by
  obtain ⟨h1, h2⟩ := h
  rw [ByteArray.size_append] at h1 h2
  refine ⟨⟨by omega, fun i hi => ?_⟩, by omega, fun i hi => ?_⟩
  · have := h2 i (by omega)
    rwa [list_append, List.getElem?_append_left (by rw [list_size]; exact hi)] at this
  · have := h2 (c.size + i) (by omega)
    rw [list_append, List.getElem?_append_right (by rw [list_size]; omega), list_size, show c.size + i - c.size = i by omega] at this
    rwa [show A + c.size + i = A + (c.size + i) by omega]
theorem u8_48 {a b : Nat} (ha : a < 2) (hb : b < 2) (h : UInt8.ofNat (48 + a) = UInt8.ofNat (48 + b)) : a = b := by
  have h2 := congrArg UInt8.toNat h
  simp only [UInt8.toNat_ofNat'] at h2
  omega
theorem bt_lt2 (zs : List UInt8) (a : Nat) : bt zs a < 2 := by unfold bt; omega
theorem stands_num : ∀ (m n : Nat) (zs : List UInt8) (A : Nat), Stands zs A (binS n m) → num zs A m = n % 2 ^ m
  | 0, n, zs, A, h => by simp [num, Nat.mod_one]
  | m + 1, n, zs, A, h => by
    rw [binS_cons] at h
    obtain ⟨h1, h2⟩ := h.split
    have e := stands_num m n zs (A + 1) h2
    have hb := h1.2 0 (by show 0 < 1; omega)
    have hb2 : n / 2 ^ m % 2 = bt zs A := u8_48 (by omega) (bt_lt2 _ _) (by simpa using hb)
    rw [show m + 1 = 1 + m by omega, num_add, e]
    have : num zs A 1 = bt zs A := by simp [num]
    rw [this, ← hb2, show 1 + m = m + 1 by omega, Nat.mod_pow_succ]
    rw [Nat.mul_comm, Nat.add_comm]
theorem binS_inj : ∀ (m n n' : Nat), binS n m = binS n' m → n % 2 ^ m = n' % 2 ^ m
  | 0, n, n', h => by simp [Nat.mod_one]
  | m + 1, n, n', h => by
    rw [binS_cons, binS_cons] at h
    have h2 := congrArg (fun c : ByteArray => c.data.toList) h
    simp only [list_append] at h2
    have h3 : UInt8.ofNat (48 + n / 2 ^ m % 2) :: (binS n m).data.toList = UInt8.ofNat (48 + n' / 2 ^ m % 2) :: (binS n' m).data.toList := h2
    injection h3 with h4 h5
    have e := binS_inj m n n' (ByteArray.ext (Array.toList_inj.1 h5))
    rw [Nat.mod_pow_succ, Nat.mod_pow_succ, e, u8_48 (by omega) (by omega) h4]

theorem Stands.join {zs : List UInt8} {A : Nat} {c d : ByteArray} (h1 : Stands zs A c) (h2 : Stands zs (A + c.size) d) : Stands zs A (c ++ d) := by
  refine ⟨by have := h2.1; rw [ByteArray.size_append]; omega, fun i hi => ?_⟩
  rw [ByteArray.size_append] at hi
  rw [list_append]
  by_cases h : i < c.size
  · rw [List.getElem?_append_left (by rw [list_size]; exact h)]
    exact h1.2 i h
  · rw [List.getElem?_append_right (by rw [list_size]; omega), list_size]
    have := h2.2 (i - c.size) (by omega)
    rwa [show A + c.size + (i - c.size) = A + i by omega] at this
theorem num_one1 (zs : List UInt8) (A : Nat) : num zs A 1 = bt zs A := by simp [num]
theorem stands_of_num : ∀ (m : Nat) (zs : List UInt8) (A : Nat), A + m ≤ 8 * zs.length → Stands zs A (binS (num zs A m) m)
  | 0, zs, A, h => ⟨by rw [binS_size]; exact h, fun i hi => by rw [binS_size] at hi; omega⟩
  | m + 1, zs, A, h => by
    have ih := stands_of_num m zs (A + 1) (by omega)
    have e : num zs A (m + 1) = bt zs A * 2 ^ m + num zs (A + 1) m := by
      rw [show m + 1 = 1 + m by omega, num_add, num_one1]
    have hl := num_lt zs (A + 1) m
    have hb : num zs A (m + 1) / 2 ^ m = bt zs A := by
      rw [e, Nat.add_comm, Nat.add_mul_div_right _ _ (by exact Nat.two_pow_pos m), Nat.div_eq_of_lt hl, Nat.zero_add]
    have hr : binS (num zs A (m + 1)) m = binS (num zs (A + 1) m) m := by
      unfold binS
      congr 2
      unfold binL
      apply List.map_congr_left
      intro i hi
      have hi := List.mem_range.1 hi
      have hc : cbit (num zs A (m + 1)) m i = cbit (num zs (A + 1) m) m i := by
        unfold cbit
        have e2 : bt zs A * 2 ^ m = (bt zs A * 2 ^ i * 2) * 2 ^ (m - 1 - i) := by
          rw [Nat.mul_assoc (bt zs A), Nat.mul_assoc (bt zs A), ← Nat.pow_succ, ← Nat.pow_add]
          congr 2
          omega
        rw [e, e2, Nat.add_comm, Nat.add_mul_div_right _ _ (Nat.two_pow_pos _), Nat.add_mul_mod_self_right]
      rw [hc]
    rw [binS_cons, hb, Nat.mod_eq_of_lt (bt_lt2 _ _), hr]
    refine Stands.join ⟨by show A + 1 ≤ _; omega, fun i hi => ?_⟩ ih
    obtain rfl : i = 0 := by have : i < 1 := hi; omega
    rfl
theorem stands_one {zs : List UInt8} {A c : Nat} (h : A < 8 * zs.length) (hb : bt zs A = c) : Stands zs A ⟨#[UInt8.ofNat (48 + c)]⟩ := by
  refine ⟨by show A + 1 ≤ _; omega, fun i hi => ?_⟩
  obtain rfl : i = 0 := by have : i < 1 := hi; omega
  rw [Nat.add_zero, hb]
  rfl

end Go.Proofs.YtlcaboddkcpgaaaDoor
