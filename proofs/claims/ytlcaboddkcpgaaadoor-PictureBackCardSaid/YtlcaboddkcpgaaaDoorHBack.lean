/- picture, plainly: a header that a pen wrote stands where it was put; the walk of PictureBack (praxinoscopelaw17). -/
import Derived.Test.YtlcaboddkcpgaaaDoorHLaw4
namespace Go.Proofs.YtlcaboddkcpgaaaDoor
open Go.RowKit Go.Shelf Go.Sort
set_option linter.unusedVariables false

theorem allB_append17 (c d : ByteArray) : allB (c ++ d) = (allB c && allB d) := by
  unfold allB
  rw [list_append, List.all_append]
theorem allB_binS (n m : Nat) : allB (binS n m) = true := by
  unfold allB binS binL
  rw [List.all_eq_true]
  intro z hz
  simp only [List.mem_map, List.mem_range] at hz
  obtain ⟨i, -, rfl⟩ := hz
  have := cbit_le n m i
  rcases (by omega : cbit n m i = 0 ∨ cbit n m i = 1) with h | h <;> rw [h] <;> rfl
theorem allB_spS : ∀ xs : List UInt8, allB (spS xs) = true
  | [] => rfl
  | x :: xs => by
    rw [spS_cons, allB_append17, allB_append17, allB_binS, allB_spS xs]
    rfl
theorem allB_txH {t y : Int} {xs : List UInt8} (h : ckH t y xs.length = 0) : allB (txH t y xs) = true := by
  rw [txH_ok h, allB_append17, allB_append17, allB_binS, allB_binS, allB_spS]
  rfl
/-- what a pen wrote stands there -/
theorem packed_stands {zs : List UInt8} {L M : List Bool} {s : ByteArray} (h : Packed zs (L ++ textBits s ++ M)) (hs : allB s = true) : Stands zs L.length s := by
  have hl := h.1
  rw [List.length_append, List.length_append, textBits_len] at hl
  refine ⟨by omega, fun i hi => ?_⟩
  have hb := h.2 (L.length + i) (by omega)
  have hall := (allB_iff s).1 hs i hi
  have e : s.data.toList[i]? = some s[i] := by
    rw [List.getElem?_eq_getElem (by simpa using hi)]
    rfl
  have e2 : (L ++ textBits s ++ M).getD (L.length + i) false = (s[i] == 49) := by
    rw [List.getD_eq_getElem?_getD, List.append_assoc, List.getElem?_append_right (by omega), show L.length + i - L.length = i by omega, List.getElem?_append_left (by rw [textBits_len]; exact hi)]
    unfold textBits
    rw [List.getElem?_map, e]
    rfl
  rw [e, hb, e2]
  rcases hall with h | h <;> rw [h] <;> rfl
theorem bt_take17 (zs : List UInt8) (q i : Nat) (h : i < 8 * q) : bt (zs.take q) i = bt zs i := by
  unfold bt
  rw [List.getD_eq_getElem?_getD, List.getD_eq_getElem?_getD, List.getElem?_take_of_lt (by omega)]
theorem byt_take17 {n : Nat} {w : World} {a : Option Addr} {cap : Nat} {zs : List UInt8} (h : Byt n w (.slice a zs.length cap) zs) {k : Nat} (hk : k ≤ zs.length) : Byt n w (.slice a k cap) (zs.take k) := by
  obtain ⟨a', cap', e, hl, hc⟩ := h
  cases e
  have e2 : (zs.take k).length = k := by simp; omega
  refine ⟨a, cap, by rw [e2], by rw [e2]; omega, ?_⟩
  rcases hc with rfl | ⟨b, off, rfl, hb, hc⟩
  · left; simp
  · by_cases hk0 : k = 0
    · left; rw [hk0]; rfl
    · refine .inr ⟨b, off, rfl, hb, fun j hj => ?_⟩
      rw [e2] at hj
      rw [List.getElem?_take_of_lt hj]
      exact hc j (by omega)
/-- the header that was put is got; cut, it is too few -/
theorem back17_facts {zs : List UInt8} {L M : List Bool} {t y : Int} {xs : List UInt8} (hck : ckH t y xs.length = 0) (h : Packed zs (L ++ textBits (txH t y xs) ++ M)) :
    gtH zs (L.length : Nat) = ⟨t, y, xs, 12 + 9 * xs.length, 0⟩ ∧ ∀ q, 8 * q < L.length + (12 + 9 * xs.length) → q ≤ zs.length → gtH (zs.take q) (L.length : Nat) = ⟨0, 0, [], 0, 5⟩ := by
  have hst := packed_stands h (allB_txH hck)
  refine ⟨gtH_stands hck hst, fun q hq hqz => ?_⟩
  have hl : (zs.take q).length = q := by simp; omega
  refine gtH_cut hck (by rw [hl, txH_size hck]; exact hq) (fun i hi => ?_)
  rw [hl] at hi
  rw [bt_take17 zs q _ hi]
  exact hst.2 i (by rw [txH_size hck]; omega)
/-- so many bytes, as bits -/
def behL (zs : List UInt8) (k : Nat) : List Bool := (zs.take k).flatMap fun z => numBits z.toNat 8
theorem behL_step {zs : List UInt8} {k : Nat} (hk : k < zs.length) : behL zs (k + 1) = behL zs k ++ numBits (zs[k]?.getD 0).toNat 8 := by
  have h : zs.take (k + 1) = zs.take k ++ [zs[k]?.getD 0] := by rw [List.take_add_one, List.getElem?_eq_getElem hk]; rfl
  simp [behL, h]
theorem behL_length (zs : List UInt8) : ∀ k, k ≤ zs.length → (behL zs k).length = 8 * k
  | 0, _ => rfl
  | k + 1, h => by
    rw [behL_step (by omega), List.length_append, behL_length zs k (by omega)]
    simp [numBits]
    omega

end Go.Proofs.YtlcaboddkcpgaaaDoor
