/- The contract of the reference pen's Bytes. -/
import Derived.Test.YtglnmaekhpaffaaRef3
namespace Go.Proofs.Ytglnmaekhpaffaa
open Go.RowKit Go.Shelf
set_option linter.unusedVariables false

theorem lay_step {ys : List UInt8} {A : List Bool} {b : Bool} (hA : A.length / 8 < ys.length) (h : ∀ j, j < ys.length * 8 → bt ys j = (A.getD j false).toNat) :
    ∀ j, j < ys.length * 8 → bt (ys.set (A.length / 8) (lay (ys.getD (A.length / 8) 0) b A.length)) j = ((A ++ [b]).getD j false).toNat := by
  intro j hj
  have h0 := h j hj
  rw [bt_testBit] at h0 ⊢
  by_cases hjb : j / 8 = A.length / 8
  · rw [hjb] at h0 ⊢
    rw [show (ys.set (A.length / 8) (lay (ys.getD (A.length / 8) 0) b A.length)).getD (A.length / 8) 0 = lay (ys.getD (A.length / 8) 0) b A.length by
      rw [List.getD_eq_getElem?_getD, List.getElem?_set_self hA]; rfl, lay_bits _ _ _ _ (by omega)]
    by_cases hi2 : j = A.length
    · subst hi2
      rw [show (A ++ [b]).getD A.length false = b by simp [List.getD_eq_getElem?_getD]]
      have : (A.getD A.length false) = false := by simp [List.getD_eq_getElem?_getD]
      rw [this] at h0
      cases hq : (ys.getD (A.length / 8) 0).toNat.testBit (7 - A.length % 8)
      · simp
      · rw [hq] at h0; simp at h0
    · have : decide (7 - j % 8 = 7 - A.length % 8) = false := by simp; omega
      rw [this, Bool.and_false, Bool.or_false, h0]
      congr 1
      by_cases hlt : j < A.length
      · simp [List.getD_eq_getElem?_getD, List.getElem?_append_left hlt]
      · simp only [List.getD_eq_getElem?_getD]
        rw [List.getElem?_eq_none (by omega), List.getElem?_eq_none (by simp; omega)]
  · rw [show (ys.set (A.length / 8) (lay (ys.getD (A.length / 8) 0) b A.length)).getD (j / 8) 0 = ys.getD (j / 8) 0 by
      rw [List.getD_eq_getElem?_getD, List.getElem?_set_ne (by omega), List.getD_eq_getElem?_getD], h0]
    congr 1
    by_cases hlt : j < A.length
    · simp [List.getD_eq_getElem?_getD, List.getElem?_append_left hlt]
    · simp only [List.getD_eq_getElem?_getD]
      rw [List.getElem?_eq_none (by omega), List.getElem?_eq_none (by simp; omega)]

/-- so many bits are laid -/
def PackedTo (zs : List UInt8) (L : List Bool) (i : Nat) : Prop := zs.length = (L.length + 7) / 8 ∧ ∀ j, j < zs.length * 8 → bt zs j = ((L.take i).getD j false).toNat
theorem packedTo_zero (L : List Bool) : PackedTo (List.replicate ((L.length + 7) / 8) 0) L 0 := by
  refine ⟨by simp, fun j hj => ?_⟩
  simp at hj
  unfold bt
  simp [List.getD_eq_getElem?_getD, show j / 8 < (L.length + 7) / 8 by omega]
theorem packedTo_step {zs : List UInt8} {L : List Bool} {i : Nat} (h : PackedTo zs L i) (hi : i < L.length) :
    PackedTo (zs.set (i / 8) (lay (zs.getD (i / 8) 0) (L.getD i false) i)) L (i + 1) := by
  have hl : (L.take i).length = i := by simp; omega
  have h1 := lay_step (ys := zs) (A := L.take i) (b := L.getD i false) (by rw [hl]; have := h.1; omega) h.2
  rw [hl] at h1
  refine ⟨by simpa using h.1, fun j hj => ?_⟩
  rw [h1 j (by simpa using hj)]
  congr 2
  rw [List.take_add_one, List.getElem?_eq_getElem hi]
  simp [List.getD_eq_getElem?_getD, hi]
theorem packedTo_all {zs : List UInt8} {L : List Bool} (h : PackedTo zs L L.length) : Packed zs L := by
  refine ⟨h.1, fun j hj => ?_⟩
  have := h.2 j hj
  rwa [List.take_length] at this

end Go.Proofs.Ytglnmaekhpaffaa
