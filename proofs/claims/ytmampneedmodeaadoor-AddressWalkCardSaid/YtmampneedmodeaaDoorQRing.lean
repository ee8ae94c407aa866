/- The ring of a queue, in plain terms: what two copies lay into it. -/
import Derived.Test.YtmampneedmodeaaDoorQueue
import Derived.Test.YtmampneedmodeaaDoorCopy
namespace Go.Proofs.YtmampneedmodeaaDoor
open Go.RowKit Go.Shelf
set_option linter.unusedVariables false

theorem splice_getD {α : Type} (L : List α) (off : Nat) (cs : List α) (d : α) (h : off + cs.length ≤ L.length) (p : Nat) :
    (splice L off cs).getD p d = if off ≤ p ∧ p < off + cs.length then cs.getD (p - off) d else L.getD p d := by
  unfold splice
  simp only [List.getD_eq_getElem?_getD]
  congr 1
  by_cases h1 : p < off
  · rw [if_neg (by omega), List.getElem?_append_left (by simp; omega), List.getElem?_take, if_pos h1]
  · rw [List.getElem?_append_right (by simp; omega), List.length_take, Nat.min_eq_left (by omega)]
    by_cases h2 : p < off + cs.length
    · rw [if_pos ⟨by omega, h2⟩, List.getElem?_append_left (by omega)]
    · rw [if_neg (by omega), List.getElem?_append_right (by omega), List.getElem?_drop, show off + cs.length + (p - off - cs.length) = p by omega]

theorem mod_at (m Q d : Nat) (h : d < m) : (m * Q + d) % m = d := by
  rw [Nat.mul_add_mod, Nat.mod_eq_of_lt h]

/-- the ring behind bytes were fed -/
def fedRing (ring : List UInt8) (off k : Nat) (ys : List UInt8) : List UInt8 := splice (splice ring off (ys.take k)) 0 (ys.drop k)
theorem ringed_feed {ring : List UInt8} {q : Qs} (ho : q.ok) (hr : Ringed ring q) (ys : List UInt8) (hn : ys.length ≤ q.most - (q.all.length - q.gone / 8)) :
    Ringed (fedRing ring (q.all.length % q.most) (min ys.length (q.most - q.all.length % q.most)) ys) { q with all := q.all ++ ys } := by
  obtain ⟨hl, hv⟩ := hr
  have h1 := ho.m1
  have h2 := ho.gone
  have h3 := ho.held
  have hm : q.all.length % q.most < q.most := Nat.mod_lt _ (by omega)
  have hdm := Nat.div_add_mod q.all.length q.most
  generalize hoff : q.all.length % q.most = off at *
  generalize q.all.length / q.most = Q at *
  generalize hk : min ys.length (q.most - off) = k at *
  have e1 : (ys.take k).length = k := by simp; omega
  have e2 : (ys.drop k).length = ys.length - k := by simp
  have f1 : off + (ys.take k).length ≤ ring.length := by omega
  have f2 : 0 + (ys.drop k).length ≤ (splice ring off (ys.take k)).length := by rw [length_splice _ _ _ f1]; omega
  refine ⟨?_, fun j hj1 hj2 => ?_⟩
  · unfold fedRing
    rw [length_splice _ _ _ f2, length_splice _ _ _ f1, hl]
  · simp only at hj1
    simp only [List.length_append] at hj2 ⊢
    unfold fedRing
    rw [splice_getD _ _ _ _ f2, splice_getD _ _ _ _ f1, e1, e2]
    simp only [Nat.zero_le, true_and, Nat.zero_add, Nat.sub_zero]
    by_cases hj : j < q.all.length
    · -- an old byte
      rw [show (q.all ++ ys).getD j 0 = q.all.getD j 0 by simp [List.getD_eq_getElem?_getD, List.getElem?_append_left hj], ← hv j hj1 hj]
      by_cases hb : q.most * Q ≤ j
      · obtain ⟨d, rfl⟩ := Nat.exists_eq_add_of_le hb
        rw [mod_at _ _ _ (by omega), if_neg (by omega), if_neg (by omega)]
      · obtain ⟨Q', rfl⟩ : ∃ Q', Q = Q' + 1 := ⟨Q - 1, by
          have : Q ≠ 0 := fun e => by rw [e] at hb; simp at hb
          omega⟩
        rw [Nat.mul_add, Nat.mul_one] at *
        obtain ⟨d, rfl⟩ := Nat.exists_eq_add_of_le (show q.most * Q' ≤ j by omega)
        rw [mod_at _ _ _ (by omega), if_neg (by omega), if_neg (by omega)]
    · -- a new one
      obtain ⟨i, rfl⟩ := Nat.exists_eq_add_of_le (show q.all.length ≤ j by omega)
      rw [show (q.all ++ ys).getD (q.all.length + i) 0 = ys.getD i 0 by
        simp only [List.getD_eq_getElem?_getD]
        rw [List.getElem?_append_right (by omega), Nat.add_sub_cancel_left]]
      by_cases hb : off + i < q.most
      · rw [show q.all.length + i = q.most * Q + (off + i) by omega, mod_at _ _ _ hb, if_neg (by omega), if_pos (by omega)]
        rw [Nat.add_sub_cancel_left]
        simp only [List.getD_eq_getElem?_getD, List.getElem?_take]
        rw [if_pos (by omega)]
      · rw [show q.all.length + i = q.most * (Q + 1) + (off + i - q.most) by rw [Nat.mul_add, Nat.mul_one]; omega, mod_at _ _ _ (by omega), if_pos (by omega)]
        simp only [List.getD_eq_getElem?_getD, List.getElem?_drop]
        congr 2
        omega

theorem u8s_splice (L : List UInt8) (off : Nat) (cs : List UInt8) : splice (u8s L) off (u8s cs) = u8s (splice L off cs) := by
  simp [splice, u8s, List.map_take, List.map_drop]

/-- what Bits tells of the ring -/
theorem ring_runs {ring : List UInt8} {q : Qs} (ho : q.ok) (hr : Ringed ring q) :
    (ring.take (min (q.gone / 8 % q.most + (q.all.length - q.gone / 8)) q.most)).drop (q.gone / 8 % q.most) ++ ring.take ((q.gone / 8 % q.most + (q.all.length - q.gone / 8)) - q.most) = q.all.drop (q.gone / 8) := by
  obtain ⟨hl, hv⟩ := hr
  have h1 := ho.m1
  have h2 := ho.gone
  have h3 := ho.held
  have hm : q.gone / 8 % q.most < q.most := Nat.mod_lt _ (by omega)
  have hdm := Nat.div_add_mod (q.gone / 8) q.most
  generalize hf : q.gone / 8 % q.most = f at *
  generalize q.gone / 8 / q.most = Q at *
  apply List.ext_getElem
  · simp; omega
  · intro i i1 i2
    simp at i2
    have hx := hv (q.gone / 8 + i) (by omega) (by omega)
    rw [List.getD_eq_getElem?_getD, List.getD_eq_getElem?_getD, List.getElem?_eq_getElem (l := q.all) (by omega)] at hx
    rw [List.getElem_drop]
    simp only [Option.getD_some] at hx
    rw [← hx]
    by_cases hb : f + i < q.most
    · rw [List.getElem_append_left (by simp; omega), List.getElem_drop, List.getElem_take]
      rw [show q.gone / 8 + i = q.most * Q + (f + i) by omega, mod_at _ _ _ hb, List.getElem?_eq_getElem (by omega)]
      rfl
    · rw [List.getElem_append_right (by simp; omega), List.getElem_take]
      rw [show q.gone / 8 + i = q.most * (Q + 1) + (f + i - q.most) by rw [Nat.mul_add, Nat.mul_one]; omega, mod_at _ _ _ (by omega), List.getElem?_eq_getElem (by omega)]
      simp only [Option.getD_some]
      congr 1
      simp
      omega

end Go.Proofs.YtmampneedmodeaaDoor
