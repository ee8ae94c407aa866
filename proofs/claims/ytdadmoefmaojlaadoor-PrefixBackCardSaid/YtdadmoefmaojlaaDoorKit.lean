/- Contracts of the kit's OverBytes, LentBytes, KeptBytes. -/
import Derived.Test.YtdadmoefmaojlaaDoorQRef2
namespace Go.Proofs.YtdadmoefmaojlaaDoor
open Go.RowKit Go.Shelf
set_option linter.unusedVariables false

/-- n bytes at the head of block g, which may be written -/
def Bytes0 (w : World) (g n : Nat) : Prop := ∃ cur, w.heap[g]? = some (.cells cur 5 (0, 0)) ∧ ∀ j, j < n → ∃ z : UInt8, cur[j]? = some (.int .u8 z.toNat)
theorem Bytes0.cell {w : World} {g n j : Nat} (h : Bytes0 w g n) (hj : j < n) : ∃ z : UInt8, w.cell? ⟨g, j, none⟩ = some (.int .u8 z.toNat) ∧ w.frozen? ⟨g, j, none⟩ = false := by
  obtain ⟨cur, hg, hc⟩ := h
  obtain ⟨z, hz⟩ := hc j hj
  exact ⟨z, by simp [World.cell?, hg, hz], by simp [World.frozen?, hg]⟩
theorem Bytes0.set {w : World} {g n j : Nat} (h : Bytes0 w g n) (u : UInt8) : Bytes0 (w.setCell ⟨g, j, none⟩ (.int .u8 u.toNat)) g n := by
  obtain ⟨cur, hg, hc⟩ := h
  refine ⟨_, heap_setCell_same _ _ _ _ _ _ hg, fun i hi => ?_⟩
  obtain ⟨z, hz⟩ := hc i hi
  by_cases e : j = i
  · subst e
    refine ⟨u, ?_⟩
    have := (Array.getElem?_eq_some_iff.1 hz).1
    simp [this]
  · exact ⟨z, by simpa [Array.getElem?_set, Array.getElem?_setIfInBounds, e] using hz⟩
theorem bytes0_own {w : World} {base n g cap : Nat} {zs : List UInt8} (h : w.ownsRow base 5 1 (.slice (some ⟨g, 0, none⟩) n cap) n (u8s zs)) : Bytes0 w g n := by
  rcases h.2 with ⟨e, _⟩ | ⟨g', cap', cur, e, _, hg, _, _, hs, ht⟩
  · cases e
  · cases e
    refine ⟨cur, hg, fun j hj => ?_⟩
    have hl : zs.length = n := by have := h.1; simpa using this
    refine ⟨zs[j]'(by omega), ?_⟩
    have h2 : (cur.toList.take (n * 1))[j]? = (u8s zs)[j]? := by rw [ht]
    rw [List.getElem?_take, if_pos (by omega)] at h2
    simpa [u8s, show j < zs.length by omega] using h2

theorem xor_fin : ∀ n : Fin 256, bits BinOp.xor IntKind.u8 (n.val : Int) 165 = ((n.val ^^^ 165 : Nat) : Int) := by decide +kernel
theorem xor_u8 (z : UInt8) : ∃ u : UInt8, bits BinOp.xor IntKind.u8 (z.toNat : Int) 165 = (u.toNat : Int) := by
  have hz : z.toNat < 256 := UInt8.toNat_lt z
  have h : z.toNat ^^^ 165 < 2 ^ 8 := Nat.xor_lt_two_pow hz (by decide)
  exact ⟨UInt8.ofNat (z.toNat ^^^ 165), by rw [xor_fin ⟨z.toNat, hz⟩, UInt8.toNat_ofNat', Nat.mod_eq_of_lt h]⟩

abbrev tail4 : List UInt8 := [201, 202, 203, 204]
/-- bytes that were lent: they lie at the head of a block of their own, and four known ones behind them -/
def Lent (base : Nat) (w : World) (v : Value) (zs : List UInt8) : Prop :=
  ∃ g cap, v = .slice (some ⟨g, 0, none⟩) zs.length cap ∧ base ≤ g ∧ w.ownsRow base 5 1 (.slice (some ⟨g, 0, none⟩) (zs.length + 4) cap) (zs.length + 4) (u8s (zs ++ tail4))

theorem src_four (w : World) (t : TypeId) : Src (w.alloc (.cells #[.int .u8 201, .int .u8 202, .int .u8 203, .int .u8 204] t (0, 0))) (some ⟨w.heap.size, 0, none⟩) 4 (u8s tail4) := by
  refine ⟨rfl, .inr ⟨_, rfl, fun j u hu => ?_⟩⟩
  have hadd : (⟨w.heap.size, 0, none⟩ : Addr).add j = ⟨w.heap.size, 0 + j, none⟩ := by unfold Addr.add; split <;> simp_all
  rw [hadd]
  have h := World.alloc_heap_new w (.cells #[.int .u8 201, .int .u8 202, .int .u8 203, .int .u8 204] t (0, 0))
  generalize w.alloc (.cells #[.int .u8 201, .int .u8 202, .int .u8 203, .int .u8 204] t (0, 0)) = w' at h ⊢
  match j, hu with
  | 0, hu => simpa [World.cell?, h, u8s] using hu
  | 1, hu => simpa [World.cell?, h, u8s] using hu
  | 2, hu => simpa [World.cell?, h, u8s] using hu
  | 3, hu => simpa [World.cell?, h, u8s] using hu
  | k + 4, hu => simp [u8s] at hu
theorem lent_first {w w1 : World} {t : TypeId} {n : Nat} {v1 : Value} {xs : List Value} (h : Appended (w.alloc (.cells #[] t (0, 0))) w1 w.heap.size (.slice (some ⟨w.heap.size, 0, none⟩) 0 0) v1 (0 + n) ([] ++ xs)) :
    w1.ownsRow w.heap.size 5 1 v1 n xs ∧ Below w.heap.size w w1 := by
  have hrow1 := h.1
  rw [Nat.zero_add, List.nil_append] at hrow1
  exact ⟨hrow1, ((Below.refl _ w).alloc (Nat.le_refl _) _).grown h.2.1 (by simp) (fun k e => by simp [Value.ownBlock] at e; omega)⟩

theorem row_succ4 {w : World} {base n : Nat} {e : TypeId} {v : Value} {xs : List Value} (h : w.ownsRow base e 1 v (n + 4) xs) :
    ∃ g cap, v = .slice (some ⟨g, 0, none⟩) (n + 4) cap ∧ base ≤ g ∧ n + 4 ≤ cap ∧ cap ≤ 9223372036854775807 := by
  rcases h.2 with ⟨_, h0⟩ | ⟨g, cap, cur, rfl, hb, _, h1, h2, _⟩
  · omega
  · exact ⟨g, cap, rfl, hb, h1, by unfold maxLen at h2; omega⟩

abbrev obj4 : Obj := .cells #[.int .u8 201, .int .u8 202, .int .u8 203, .int .u8 204] 5 (0, 0)
theorem byt_four (w : World) : Byt (w.heap.size + 1) (w.alloc obj4) (.slice (some ⟨w.heap.size, 0, none⟩) 4 4) tail4 := by
  refine ⟨_, 4, rfl, by decide, .inr ⟨w.heap.size, 0, rfl, by omega, fun j hj => ?_⟩⟩
  have h := (src_four w 5).at_ j
  have hadd : (⟨w.heap.size, 0, none⟩ : Addr).add j = ⟨w.heap.size, 0 + j, none⟩ := by unfold Addr.add; split <;> simp_all
  rw [hadd] at h
  match j, hj with
  | 0, _ => exact h _ rfl
  | 1, _ => exact h _ rfl
  | 2, _ => exact h _ rfl
  | 3, _ => exact h _ rfl
theorem Lent.bar {S : Nat → Prop} {base : Nat} {w w' : World} {v : Value} {zs : List UInt8} (h : Lent base w v zs) (hb : Bar S w w') (hS : ∀ k, v.ownBlock = some k → ¬ S k) : Lent base w' v zs := by
  obtain ⟨g, cap, rfl, hg, hr⟩ := h
  exact ⟨g, cap, rfl, hg, ownsRow_bar hr hb (fun k e => hS k (by simpa [Value.ownBlock] using e))⟩
theorem Lent.byt {base : Nat} {w : World} {v : Value} {zs : List UInt8} (h : Lent base w v zs) (hl : zs.length ≤ 1099511627776) : Byt w.heap.size w v zs := by
  obtain ⟨g, cap, rfl, hg, hr⟩ := h
  refine ⟨_, cap, rfl, by omega, .inr ⟨g, 0, rfl, (hr.lt g rfl).2, fun j hj => ?_⟩⟩
  rw [Nat.zero_add, hr.cellAt j (by omega)]
  rw [show u8s (zs ++ tail4) = u8s zs ++ u8s tail4 by simp [u8s], List.getElem?_append_left (by simpa using hj)]
  simp [hj]
theorem Lent.tail {base g cap : Nat} {w : World} {zs : List UInt8} (h : w.ownsRow base 5 1 (.slice (some ⟨g, 0, none⟩) (zs.length + 4) cap) (zs.length + 4) (u8s (zs ++ tail4))) (c : Nat) : Byt w.heap.size w (.slice (some ⟨g, zs.length, none⟩) 4 c) tail4 := by
  refine ⟨_, c, rfl, by decide, .inr ⟨g, zs.length, rfl, (h.lt g rfl).2, fun j hj => ?_⟩⟩
  rw [h.cellAt (zs.length + j) (by simp at hj; omega)]
  rw [show u8s (zs ++ tail4) = u8s zs ++ u8s tail4 by simp [u8s], List.getElem?_append_right (by simp), show zs.length + j - (u8s zs).length = j by simp]
  match j, hj with
  | 0, _ => rfl
  | 1, _ => rfl
  | 2, _ => rfl
  | 3, _ => rfl

end Go.Proofs.YtdadmoefmaojlaaDoor
