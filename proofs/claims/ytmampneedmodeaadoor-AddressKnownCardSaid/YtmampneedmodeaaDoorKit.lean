/- Contracts of the kit's OverBytes, LentBytes, KeptBytes. -/
import Derived.Test.YtmampneedmodeaaDoorQRef2
namespace Go.Proofs.YtmampneedmodeaaDoor
open Go.RowKit Go.Shelf
set_option linter.unusedVariables false

/-- n bytes at the head of block g, which may be written -/
def Bytes0 (w : World) (g n : Nat) : Prop := ∃ cur, w.heap[g]? = some (.cells cur 5 (0, 0)) ∧ ∀ j, j < n → ∃ z : UInt8, cur[j]? = some (.int .u8 z.toNat)
theorem Bytes0.cell {w : World} {g n j : Nat} (h : Bytes0 w g n) (hj : j < n) : ∃ z : UInt8, w.cell? ⟨g, j, none⟩ = some (.int .u8 z.toNat) ∧ w.frozen? ⟨g, j, none⟩ = false := by
  obtain ⟨cur, hg, hc⟩ := h
  obtain ⟨z, hz⟩ := hc j hj
  exact ⟨z, by simp [World.cell?, hg, hz], by simp [World.frozen?, hg]⟩
theorem Bytes0.set {w : World} {g n j : Nat} (h : Bytes0 w g n) (u : UInt8) : Bytes0 (w.setCell ⟨g, j, none⟩ (.int .u8 u.toNat)) g n := by
  obtain ⟨cur, hg, hc⟩ := h
  refine ⟨_, heap_setCell_same _ _ _ _ _ _ hg, fun i hi => ?_⟩
  obtain ⟨z, hz⟩ := hc i hi
  by_cases e : j = i
  · subst e
    refine ⟨u, ?_⟩
    have := (Array.getElem?_eq_some_iff.1 hz).1
    simp [this]
  · exact ⟨z, by simpa [Array.getElem?_set, Array.getElem?_setIfInBounds, e] using hz⟩
theorem bytes0_own {w : World} {base n g cap : Nat} {zs : List UInt8} (h : w.ownsRow base 5 1 (.slice (some ⟨g, 0, none⟩) n cap) n (u8s zs)) : Bytes0 w g n := by
  rcases h.2 with ⟨e, _⟩ | ⟨g', cap', cur, e, _, hg, _, _, hs, ht⟩
  · cases e
  · cases e
    refine ⟨cur, hg, fun j hj => ?_⟩
    have hl : zs.length = n := by have := h.1; simpa using this
    refine ⟨zs[j]'(by omega), ?_⟩
    have h2 : (cur.toList.take (n * 1))[j]? = (u8s zs)[j]? := by rw [ht]
    rw [List.getElem?_take, if_pos (by omega)] at h2
    simpa [u8s, show j < zs.length by omega] using h2

theorem xor_fin : ∀ n : Fin 256, bits BinOp.xor IntKind.u8 (n.val : Int) 165 = ((n.val ^^^ 165 : Nat) : Int) := by decide +kernel
theorem xor_u8 (z : UInt8) : ∃ u : UInt8, bits BinOp.xor IntKind.u8 (z.toNat : Int) 165 = (u.toNat : Int) := by
  have hz : z.toNat < 256 := UInt8.toNat_lt z
  have h : z.toNat ^^^ 165 < 2 ^ 8 := Nat.xor_lt_two_pow hz (by decide)
  exact ⟨UInt8.ofNat (z.toNat ^^^ 165), by rw [xor_fin ⟨z.toNat, hz⟩, UInt8.toNat_ofNat', Nat.mod_eq_of_lt h]⟩

abbrev tail4 : List UInt8 := [201, 202, 203, 204]
/-- bytes that were lent: they lie at the head of a block of their own, and four known ones behind them -/
def Lent (base : Nat) (w : World) (v : Value) (zs : List UInt8) : Prop :=
  ∃ g cap, v = .slice (some ⟨g, 0, none⟩) zs.length cap ∧ base ≤ g ∧ w.ownsRow base 5 1 (.slice (some ⟨g, 0, none⟩) (zs.length + 4) cap) (zs.length + 4) (u8s (zs ++ tail4))

theorem src_four (w : World) (t : TypeId) : Src (w.alloc (.cells #[.int .u8 201, .int .u8 202, .int .u8 203, .int .u8 204] t (0, 0))) (some ⟨w.heap.size, 0, none⟩) 4 (u8s tail4) := by
  refine ⟨rfl, .inr ⟨_, rfl, fun j u hu => ?_⟩⟩
  have hadd : (⟨w.heap.size, 0, none⟩ : Addr).add j = ⟨w.heap.size, 0 + j, none⟩ := by unfold Addr.add; split <;> simp_all
  rw [hadd]
  have h := World.alloc_heap_new w (.cells #[.int .u8 201, .int .u8 202, .int .u8 203, .int .u8 204] t (0, 0))
  generalize w.alloc (.cells #[.int .u8 201, .int .u8 202, .int .u8 203, .int .u8 204] t (0, 0)) = w' at h ⊢
  match j, hu with
  | 0, hu => simpa [World.cell?, h, u8s] using hu
  | 1, hu => simpa [World.cell?, h, u8s] using hu
  | 2, hu => simpa [World.cell?, h, u8s] using hu
  | 3, hu => simpa [World.cell?, h, u8s] using hu
  | k + 4, hu => simp [u8s] at hu
theorem lent_first {w w1 : World} {t : TypeId} {n : Nat} {v1 : Value} {xs : List Value} (h : Appended (w.alloc (.cells #[] t (0, 0))) w1 w.heap.size (.slice (some ⟨w.heap.size, 0, none⟩) 0 0) v1 (0 + n) ([] ++ xs)) :
    w1.ownsRow w.heap.size 5 1 v1 n xs ∧ Below w.heap.size w w1 := by
  have hrow1 := h.1
  rw [Nat.zero_add, List.nil_append] at hrow1
  exact ⟨hrow1, ((Below.refl _ w).alloc (Nat.le_refl _) _).grown h.2.1 (by simp) (fun k e => by simp [Value.ownBlock] at e; omega)⟩

theorem row_succ4 {w : World} {base n : Nat} {e : TypeId} {v : Value} {xs : List Value} (h : w.ownsRow base e 1 v (n + 4) xs) :
    ∃ g cap, v = .slice (some ⟨g, 0, none⟩) (n + 4) cap ∧ base ≤ g ∧ n + 4 ≤ cap ∧ cap ≤ 9223372036854775807 := by
  rcases h.2 with ⟨_, h0⟩ | ⟨g, cap, cur, rfl, hb, _, h1, h2, _⟩
  · omega
  · exact ⟨g, cap, rfl, hb, h1, by unfold maxLen at h2; omega⟩

set_option maxRecDepth 100000 in
set_option maxHeartbeats 1000000 in
theorem lent_any {w : World} {a : Option Addr} {cap : Nat} {zs : List UInt8} (hs : Src w a zs.length (u8s zs)) (hnc : a = none → cap = 0) (hl : zs.length ≤ 1099511627776) :
    Calls Tryd.prog 10 #[.slice a zs.length cap] w fun e w' => ∃ v, e = .returned v ∧ Lent w.heap.size w' v zs ∧ Below w.heap.size w w' := by
  have HS := Lib.hid hs
  have HN := Lib.hid hnc
  clear hs hnc
  go_enter Tryd.func10, Tryd.ntmps10
  go_wp2_with (at_builtin; first
    | (refine wpList_append_src rfl (.tmp 4) (.tmp 5) rfl w.heap.size (.slice (some ⟨w.heap.size, 0, none⟩) 0 0) 0 [] rfl (own_empty _ _) a zs.length cap (u8s zs) rfl (HS.out.alloc _) HN.out u8s_one (by omega) (by simp) ?_; intro v1 w1 hap; have HF := Lib.hid (lent_first hap); have hs1 := HF.out.2.size; clear hap)
    | (refine wpList_append_src rfl (.tmp 7) (.tmp 8) rfl w.heap.size v1 zs.length (u8s zs) rfl (HF.out.1.alloc _) (some ⟨w1.heap.size, 0, none⟩) 4 4 (u8s tail4) rfl (src_four _ _) (fun e => nomatch e) u8s_one (by omega) (by simp; omega) ?_; intro v2 w2 hap2; have HA := Lib.hid hap2; obtain ⟨g, cap2, rfl, hg1, hc1, hc2⟩ := row_succ4 hap2.1; clear hap2))
  go_ret
  obtain ⟨h1, h2, h3⟩ := HA.out
  have hb1 := HF.out.2
  have hb2 : Below w.heap.size w w2 := (hb1.alloc hs1 _).grown h2 (by simp; omega) (fun k e => (HF.out.1.lt k e).1)
  refine ⟨_, rfl, ⟨g, cap2, rfl, hg1, ?_⟩, hb2⟩
  rw [show u8s (zs ++ tail4) = u8s zs ++ u8s tail4 by simp [u8s]]
  exact h1

abbrev obj4 : Obj := .cells #[.int .u8 201, .int .u8 202, .int .u8 203, .int .u8 204] 5 (0, 0)
theorem byt_four (w : World) : Byt (w.heap.size + 1) (w.alloc obj4) (.slice (some ⟨w.heap.size, 0, none⟩) 4 4) tail4 := by
  refine ⟨_, 4, rfl, by decide, .inr ⟨w.heap.size, 0, rfl, by omega, fun j hj => ?_⟩⟩
  have h := (src_four w 5).at_ j
  have hadd : (⟨w.heap.size, 0, none⟩ : Addr).add j = ⟨w.heap.size, 0 + j, none⟩ := by unfold Addr.add; split <;> simp_all
  rw [hadd] at h
  match j, hj with
  | 0, _ => exact h _ rfl
  | 1, _ => exact h _ rfl
  | 2, _ => exact h _ rfl
  | 3, _ => exact h _ rfl
theorem Lent.bar {S : Nat → Prop} {base : Nat} {w w' : World} {v : Value} {zs : List UInt8} (h : Lent base w v zs) (hb : Bar S w w') (hS : ∀ k, v.ownBlock = some k → ¬ S k) : Lent base w' v zs := by
  obtain ⟨g, cap, rfl, hg, hr⟩ := h
  exact ⟨g, cap, rfl, hg, ownsRow_bar hr hb (fun k e => hS k (by simpa [Value.ownBlock] using e))⟩
theorem Lent.byt {base : Nat} {w : World} {v : Value} {zs : List UInt8} (h : Lent base w v zs) (hl : zs.length ≤ 1099511627776) : Byt w.heap.size w v zs := by
  obtain ⟨g, cap, rfl, hg, hr⟩ := h
  refine ⟨_, cap, rfl, by omega, .inr ⟨g, 0, rfl, (hr.lt g rfl).2, fun j hj => ?_⟩⟩
  rw [Nat.zero_add, hr.cellAt j (by omega)]
  rw [show u8s (zs ++ tail4) = u8s zs ++ u8s tail4 by simp [u8s], List.getElem?_append_left (by simpa using hj)]
  simp [hj]
theorem Lent.tail {base g cap : Nat} {w : World} {zs : List UInt8} (h : w.ownsRow base 5 1 (.slice (some ⟨g, 0, none⟩) (zs.length + 4) cap) (zs.length + 4) (u8s (zs ++ tail4))) (c : Nat) : Byt w.heap.size w (.slice (some ⟨g, zs.length, none⟩) 4 c) tail4 := by
  refine ⟨_, c, rfl, by decide, .inr ⟨g, zs.length, rfl, (h.lt g rfl).2, fun j hj => ?_⟩⟩
  rw [h.cellAt (zs.length + j) (by simp at hj; omega)]
  rw [show u8s (zs ++ tail4) = u8s zs ++ u8s tail4 by simp [u8s], List.getElem?_append_right (by simp), show zs.length + j - (u8s zs).length = j by simp]
  match j, hj with
  | 0, _ => rfl
  | 1, _ => rfl
  | 2, _ => rfl
  | 3, _ => rfl

set_option maxRecDepth 100000 in
set_option maxHeartbeats 2000000 in
theorem kept_any {base n₀ : Nat} {w : World} {v : Value} {zs : List UInt8} (h : Lent base w v zs) {sv : Value} (hB : Byt n₀ w sv zs) (hl : zs.length ≤ 1099511627776) :
    Calls Tryd.prog 13 #[v, sv] w fun e w' => e = .returned (.bool true) ∧ Below w.heap.size w w' := by
  have hbt := h.byt hl
  obtain ⟨g, cap, rfl, hg, hr⟩ := h
  have c1 : (convert 22 9 (.slice (some ⟨g, 0, none⟩) zs.length cap)).run Tryd.prog w.drew = .ok (.string ⟨zs.toArray⟩) w.drew := conv_byt (w := w.drew) hbt
  have c2 : (convert 22 9 sv).run Tryd.prog w.drew = .ok (.string ⟨zs.toArray⟩) w.drew := conv_byt (w := w.drew) hB
  have c3 : (convert 22 9 (.slice (some ⟨g, zs.length, none⟩) 4 (cap - zs.length))).run Tryd.prog w.drew = .ok (.string ⟨tail4.toArray⟩) w.drew := conv_byt (w := w.drew) (Lent.tail hr _)
  have c4 : (convert 22 9 (.slice (some ⟨g, zs.length, none⟩) 4 (cap - zs.length))).run Tryd.prog (w.alloc obj4).drew = .ok (.string ⟨tail4.toArray⟩) (w.alloc obj4).drew := conv_byt (w := (w.alloc obj4).drew) (Lent.tail (hr.alloc _) _)
  have c5 : (convert 22 9 (.slice (some ⟨w.heap.size, 0, none⟩) 4 4)).run Tryd.prog (w.alloc obj4).drew = .ok (.string ⟨tail4.toArray⟩) (w.alloc obj4).drew := conv_byt (w := (w.alloc obj4).drew) (byt_four w)
  obtain ⟨a, capb, rfl, _, _⟩ := hB
  have hcap : zs.length + 4 ≤ cap ∧ cap ≤ 9223372036854775807 := by
    rcases hr.2 with ⟨e, _⟩ | ⟨g', cap', cur, e, _, _, h1, h2, _⟩
    · cases e
    · cases e
      unfold maxLen at h2
      omega
  obtain ⟨hcap1, hcap2⟩ := hcap
  obtain ⟨n, hn⟩ : ∃ n, n = zs.length := ⟨_, rfl⟩
  rw [← hn] at c1 c2 c3 c4 hcap1 hl ⊢
  clear hn hr hbt hg
  have e1 : IntKind.i64.wrap ((n : Int) + 4) = (n : Int) + 4 := IntWalk.i64_in _ (by omega)
  have k0 : (0 : Int) ≤ (n : Int) := by omega
  have k1 : (n : Int) ≤ (n : Int) + 4 := by omega
  have k2 : (n : Int) + 4 ≤ (cap : Int) := by omega
  have k3 : ((n : Int) + 4).toNat = n + 4 := by omega
  have k4 : ¬ (cap = n) := by omega
  have k5 : n + 4 - n = 4 := by omega
  generalize hs1 : (⟨zs.toArray⟩ : ByteArray) = s1 at *
  generalize hs2 : (⟨tail4.toArray⟩ : ByteArray) = s2 at *
  clear hs1 hs2
  go_enter Tryd.func13, Tryd.ntmps13
  go_wp2_with fail
  go_region
  all_goals
    go_wp2
    go_ret
    exact ⟨rfl, below_undrew ((Below.refl w.heap.size w.drew).alloc (Nat.le_refl _) obj4)⟩

end Go.Proofs.YtmampneedmodeaaDoor
