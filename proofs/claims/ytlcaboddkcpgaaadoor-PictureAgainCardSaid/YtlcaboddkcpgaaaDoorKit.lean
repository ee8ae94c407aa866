/- Contracts of the kit's OverBytes, LentBytes, KeptBytes. Codes and trees, plainly; contracts of the reference's code, begins (praxinoscoperef03) and Count, bit, Read (praxinoscoperef01). The reference's tree (praxinoscoperef03.Tree): what it holds; contracts of its Put and Get. The contract of the reference tree's Get. Append of one-cell elements of any type to a row that the call owns, from whatever slice; rows of values that came in. The contract of the reference's Make (praxinoscoperef03). -/
import Derived.Test.YtlcaboddkcpgaaaDoorQueue
import Derived.OwnWalkIn
/- Contracts of the kit's OverBytes, LentBytes, KeptBytes. -/
namespace Go.Proofs.YtlcaboddkcpgaaaDoor
open Go.RowKit Go.Shelf
set_option linter.unusedVariables false

/-- n bytes at the head of block g, which may be written -/
def Bytes0 (w : World) (g n : Nat) : Prop := ∃ cur, w.heap[g]? = some (.cells cur 5 (0, 0)) ∧ ∀ j, j < n → ∃ z : UInt8, cur[j]? = some (.int .u8 z.toNat)
theorem Bytes0.cell {w : World} {g n j : Nat} (h : Bytes0 w g n) (hj : j < n) : ∃ z : UInt8, w.cell? ⟨g, j, none⟩ = some (.int .u8 z.toNat) ∧ w.frozen? ⟨g, j, none⟩ = false := by
  obtain ⟨cur, hg, hc⟩ := h
  obtain ⟨z, hz⟩ := hc j hj
  exact ⟨z, by simp [World.cell?, hg, hz], by simp [World.frozen?, hg]⟩
theorem Bytes0.set {w : World} {g n j : Nat} (h : Bytes0 w g n) (u : UInt8) : Bytes0 (w.setCell ⟨g, j, none⟩ (.int .u8 u.toNat)) g n := by
  obtain ⟨cur, hg, hc⟩ := h
  refine ⟨_, heap_setCell_same _ _ _ _ _ _ hg, fun i hi => ?_⟩
  obtain ⟨z, hz⟩ := hc i hi
  by_cases e : j = i
  · subst e
    refine ⟨u, ?_⟩
    have := (Array.getElem?_eq_some_iff.1 hz).1
    simp [this]
  · exact ⟨z, by simpa [Array.getElem?_set, Array.getElem?_setIfInBounds, e] using hz⟩
theorem bytes0_own {w : World} {base n g cap : Nat} {zs : List UInt8} (h : w.ownsRow base 5 1 (.slice (some ⟨g, 0, none⟩) n cap) n (u8s zs)) : Bytes0 w g n := by
  rcases h.2 with ⟨e, _⟩ | ⟨g', cap', cur, e, _, hg, _, _, hs, ht⟩
  · cases e
  · cases e
    refine ⟨cur, hg, fun j hj => ?_⟩
    have hl : zs.length = n := by have := h.1; simpa using this
    refine ⟨zs[j]'(by omega), ?_⟩
    have h2 : (cur.toList.take (n * 1))[j]? = (u8s zs)[j]? := by rw [ht]
    rw [List.getElem?_take, if_pos (by omega)] at h2
    simpa [u8s, show j < zs.length by omega] using h2

theorem xor_fin : ∀ n : Fin 256, bits BinOp.xor IntKind.u8 (n.val : Int) 165 = ((n.val ^^^ 165 : Nat) : Int) := by decide +kernel
theorem xor_u8 (z : UInt8) : ∃ u : UInt8, bits BinOp.xor IntKind.u8 (z.toNat : Int) 165 = (u.toNat : Int) := by
  have hz : z.toNat < 256 := UInt8.toNat_lt z
  have h : z.toNat ^^^ 165 < 2 ^ 8 := Nat.xor_lt_two_pow hz (by decide)
  exact ⟨UInt8.ofNat (z.toNat ^^^ 165), by rw [xor_fin ⟨z.toNat, hz⟩, UInt8.toNat_ofNat', Nat.mod_eq_of_lt h]⟩

set_option maxHeartbeats 1000000 in
theorem over_some {w : World} {g n cap : Nat} (h : Bytes0 w g n) (hn : n ≤ 1099511627776) :
    Calls Tryd.prog 20 #[.slice (some ⟨g, 0, none⟩) n cap] w fun e w' => e = .returned (.tuple #[]) ∧ Bar (fun k => k = g) w w' := by
  have hg : g < w.heap.size := by obtain ⟨cur, hg, _⟩ := h; exact (Array.getElem?_eq_some_iff.1 hg).1
  go_enter Tryd.func20, Tryd.ntmps20
  go_wp2_with fail
  go_loopw [2] (fun i wr => ∃ k : Nat, i = .int .i64 k ∧ k ≤ n ∧ Bytes0 wr g n ∧ Bar (fun k => k = g) w wr) (fun i _ => n - (intOf i).toNat)
  case atStart => exact ⟨0, rfl, by omega, h, Bar.refl _ _⟩
  case round =>
    obtain ⟨k, rfl, hk, hB, hbar⟩ := hrel
    have HBar := Lib.hid hbar
    have HB0 := Lib.hid hB
    clear hbar
    by_cases hk2 : k < n
    · obtain ⟨z, hc, hf⟩ := hB.cell hk2
      clear hB
      obtain ⟨u, hu⟩ := xor_u8 z
      go_wp2
      refine ⟨⟨k + 1, by go_num, by omega, HB0.out.set u, HBar.out.setCell (fun _ => rfl) _⟩, ?_⟩
      simp [intOf]; omega
    · clear hB
      have hkn : k = n := by omega
      subst k
      go_wp2
      go_end0
      exact ⟨rfl, HBar.out⟩

theorem over_nil (w : World) : Calls Tryd.prog 20 #[.slice none 0 0] w fun e w' => e = .returned (.tuple #[]) ∧ w = w' := by
  go_enter Tryd.func20, Tryd.ntmps20
  go_wp2_with fail
  go_loop [2] (fun i => i = .int .i64 0) (fun i => 0)
  case atStart => exact rfl
  case round =>
    obtain rfl := hrel
    go_wp2
    go_end0
    exact ⟨rfl, rfl⟩
theorem over_any {w : World} {base : Nat} {v : Value} {zs : List UInt8} (h : w.ownsRow base 5 1 v zs.length (u8s zs)) (hl : zs.length ≤ 1099511627776) :
    Calls Tryd.prog 20 #[v] w fun e w' => e = .returned (.tuple #[]) ∧ Bar (fun k => v.ownBlock = some k) w w' := by
  rcases id h.2 with ⟨rfl, _⟩ | ⟨g, cap, cur, rfl, _⟩
  · refine (over_nil w).mono ?_
    rintro e w' ⟨rfl, rfl⟩
    exact ⟨rfl, Bar.refl _ _⟩
  · refine (over_some (bytes0_own h) hl).mono ?_
    rintro e w' ⟨rfl, hb⟩
    exact ⟨rfl, ⟨hb.os, hb.tape, hb.output, hb.size, fun k hk hn => hb.block k hk (fun e => hn (by rw [e]; rfl))⟩⟩

abbrev tail4 : List UInt8 := [201, 202, 203, 204]
/-- bytes that were lent: they lie at the head of a block of their own, and four known ones behind them -/
def Lent (base : Nat) (w : World) (v : Value) (zs : List UInt8) : Prop :=
  ∃ g cap, v = .slice (some ⟨g, 0, none⟩) zs.length cap ∧ base ≤ g ∧ w.ownsRow base 5 1 (.slice (some ⟨g, 0, none⟩) (zs.length + 4) cap) (zs.length + 4) (u8s (zs ++ tail4))

theorem src_four (w : World) (t : TypeId) : Src (w.alloc (.cells #[.int .u8 201, .int .u8 202, .int .u8 203, .int .u8 204] t (0, 0))) (some ⟨w.heap.size, 0, none⟩) 4 (u8s tail4) := by
  refine ⟨rfl, .inr ⟨_, rfl, fun j u hu => ?_⟩⟩
  have hadd : (⟨w.heap.size, 0, none⟩ : Addr).add j = ⟨w.heap.size, 0 + j, none⟩ := by unfold Addr.add; split <;> simp_all
  rw [hadd]
  have h := World.alloc_heap_new w (.cells #[.int .u8 201, .int .u8 202, .int .u8 203, .int .u8 204] t (0, 0))
  generalize w.alloc (.cells #[.int .u8 201, .int .u8 202, .int .u8 203, .int .u8 204] t (0, 0)) = w' at h ⊢
  match j, hu with
  | 0, hu => simpa [World.cell?, h, u8s] using hu
  | 1, hu => simpa [World.cell?, h, u8s] using hu
  | 2, hu => simpa [World.cell?, h, u8s] using hu
  | 3, hu => simpa [World.cell?, h, u8s] using hu
  | k + 4, hu => simp [u8s] at hu
theorem lent_first {w w1 : World} {t : TypeId} {n : Nat} {v1 : Value} {xs : List Value} (h : Appended (w.alloc (.cells #[] t (0, 0))) w1 w.heap.size (.slice (some ⟨w.heap.size, 0, none⟩) 0 0) v1 (0 + n) ([] ++ xs)) :
    w1.ownsRow w.heap.size 5 1 v1 n xs ∧ Below w.heap.size w w1 := by
  have hrow1 := h.1
  rw [Nat.zero_add, List.nil_append] at hrow1
  exact ⟨hrow1, ((Below.refl _ w).alloc (Nat.le_refl _) _).grown h.2.1 (by simp) (fun k e => by simp [Value.ownBlock] at e; omega)⟩

theorem row_succ4 {w : World} {base n : Nat} {e : TypeId} {v : Value} {xs : List Value} (h : w.ownsRow base e 1 v (n + 4) xs) :
    ∃ g cap, v = .slice (some ⟨g, 0, none⟩) (n + 4) cap ∧ base ≤ g ∧ n + 4 ≤ cap ∧ cap ≤ 9223372036854775807 := by
  rcases h.2 with ⟨_, h0⟩ | ⟨g, cap, cur, rfl, hb, _, h1, h2, _⟩
  · omega
  · exact ⟨g, cap, rfl, hb, h1, by unfold maxLen at h2; omega⟩

set_option maxRecDepth 100000 in
set_option maxHeartbeats 1000000 in
theorem lent_any {w : World} {a : Option Addr} {cap : Nat} {zs : List UInt8} (hs : Src w a zs.length (u8s zs)) (hnc : a = none → cap = 0) (hl : zs.length ≤ 1099511627776) :
    Calls Tryd.prog 9 #[.slice a zs.length cap] w fun e w' => ∃ v, e = .returned v ∧ Lent w.heap.size w' v zs ∧ Below w.heap.size w w' := by
  have HS := Lib.hid hs
  have HN := Lib.hid hnc
  clear hs hnc
  go_enter Tryd.func9, Tryd.ntmps9
  go_wp2_with (at_builtin; first
    | (refine wpList_append_src rfl (.tmp 4) (.tmp 5) rfl w.heap.size (.slice (some ⟨w.heap.size, 0, none⟩) 0 0) 0 [] rfl (own_empty _ _) a zs.length cap (u8s zs) rfl (HS.out.alloc _) HN.out u8s_one (by omega) (by simp) ?_; intro v1 w1 hap; have HF := Lib.hid (lent_first hap); have hs1 := HF.out.2.size; clear hap)
    | (refine wpList_append_src rfl (.tmp 7) (.tmp 8) rfl w.heap.size v1 zs.length (u8s zs) rfl (HF.out.1.alloc _) (some ⟨w1.heap.size, 0, none⟩) 4 4 (u8s tail4) rfl (src_four _ _) (fun e => nomatch e) u8s_one (by omega) (by simp; omega) ?_; intro v2 w2 hap2; have HA := Lib.hid hap2; obtain ⟨g, cap2, rfl, hg1, hc1, hc2⟩ := row_succ4 hap2.1; clear hap2))
  go_ret
  obtain ⟨h1, h2, h3⟩ := HA.out
  have hb1 := HF.out.2
  have hb2 : Below w.heap.size w w2 := (hb1.alloc hs1 _).grown h2 (by simp; omega) (fun k e => (HF.out.1.lt k e).1)
  refine ⟨_, rfl, ⟨g, cap2, rfl, hg1, ?_⟩, hb2⟩
  rw [show u8s (zs ++ tail4) = u8s zs ++ u8s tail4 by simp [u8s]]
  exact h1

abbrev obj4 : Obj := .cells #[.int .u8 201, .int .u8 202, .int .u8 203, .int .u8 204] 5 (0, 0)
theorem byt_four (w : World) : Byt (w.heap.size + 1) (w.alloc obj4) (.slice (some ⟨w.heap.size, 0, none⟩) 4 4) tail4 := by
  refine ⟨_, 4, rfl, by decide, .inr ⟨w.heap.size, 0, rfl, by omega, fun j hj => ?_⟩⟩
  have h := (src_four w 5).at_ j
  have hadd : (⟨w.heap.size, 0, none⟩ : Addr).add j = ⟨w.heap.size, 0 + j, none⟩ := by unfold Addr.add; split <;> simp_all
  rw [hadd] at h
  match j, hj with
  | 0, _ => exact h _ rfl
  | 1, _ => exact h _ rfl
  | 2, _ => exact h _ rfl
  | 3, _ => exact h _ rfl
theorem Lent.bar {S : Nat → Prop} {base : Nat} {w w' : World} {v : Value} {zs : List UInt8} (h : Lent base w v zs) (hb : Bar S w w') (hS : ∀ k, v.ownBlock = some k → ¬ S k) : Lent base w' v zs := by
  obtain ⟨g, cap, rfl, hg, hr⟩ := h
  exact ⟨g, cap, rfl, hg, ownsRow_bar hr hb (fun k e => hS k (by simpa [Value.ownBlock] using e))⟩
theorem Lent.byt {base : Nat} {w : World} {v : Value} {zs : List UInt8} (h : Lent base w v zs) (hl : zs.length ≤ 1099511627776) : Byt w.heap.size w v zs := by
  obtain ⟨g, cap, rfl, hg, hr⟩ := h
  refine ⟨_, cap, rfl, by omega, .inr ⟨g, 0, rfl, (hr.lt g rfl).2, fun j hj => ?_⟩⟩
  rw [Nat.zero_add, hr.cellAt j (by omega)]
  rw [show u8s (zs ++ tail4) = u8s zs ++ u8s tail4 by simp [u8s], List.getElem?_append_left (by simpa using hj)]
  simp [hj]
theorem Lent.tail {base g cap : Nat} {w : World} {zs : List UInt8} (h : w.ownsRow base 5 1 (.slice (some ⟨g, 0, none⟩) (zs.length + 4) cap) (zs.length + 4) (u8s (zs ++ tail4))) (c : Nat) : Byt w.heap.size w (.slice (some ⟨g, zs.length, none⟩) 4 c) tail4 := by
  refine ⟨_, c, rfl, by decide, .inr ⟨g, zs.length, rfl, (h.lt g rfl).2, fun j hj => ?_⟩⟩
  rw [h.cellAt (zs.length + j) (by simp at hj; omega)]
  rw [show u8s (zs ++ tail4) = u8s zs ++ u8s tail4 by simp [u8s], List.getElem?_append_right (by simp), show zs.length + j - (u8s zs).length = j by simp]
  match j, hj with
  | 0, _ => rfl
  | 1, _ => rfl
  | 2, _ => rfl
  | 3, _ => rfl

set_option maxRecDepth 100000 in
set_option maxHeartbeats 2000000 in
theorem kept_any {base n₀ : Nat} {w : World} {v : Value} {zs : List UInt8} (h : Lent base w v zs) {sv : Value} (hB : Byt n₀ w sv zs) (hl : zs.length ≤ 1099511627776) :
    Calls Tryd.prog 16 #[v, sv] w fun e w' => e = .returned (.bool true) ∧ Below w.heap.size w w' := by
  have hbt := h.byt hl
  obtain ⟨g, cap, rfl, hg, hr⟩ := h
  have c1 : (convert 22 9 (.slice (some ⟨g, 0, none⟩) zs.length cap)).run Tryd.prog w.drew = .ok (.string ⟨zs.toArray⟩) w.drew := conv_byt (w := w.drew) hbt
  have c2 : (convert 22 9 sv).run Tryd.prog w.drew = .ok (.string ⟨zs.toArray⟩) w.drew := conv_byt (w := w.drew) hB
  have c3 : (convert 22 9 (.slice (some ⟨g, zs.length, none⟩) 4 (cap - zs.length))).run Tryd.prog w.drew = .ok (.string ⟨tail4.toArray⟩) w.drew := conv_byt (w := w.drew) (Lent.tail hr _)
  have c4 : (convert 22 9 (.slice (some ⟨g, zs.length, none⟩) 4 (cap - zs.length))).run Tryd.prog (w.alloc obj4).drew = .ok (.string ⟨tail4.toArray⟩) (w.alloc obj4).drew := conv_byt (w := (w.alloc obj4).drew) (Lent.tail (hr.alloc _) _)
  have c5 : (convert 22 9 (.slice (some ⟨w.heap.size, 0, none⟩) 4 4)).run Tryd.prog (w.alloc obj4).drew = .ok (.string ⟨tail4.toArray⟩) (w.alloc obj4).drew := conv_byt (w := (w.alloc obj4).drew) (byt_four w)
  obtain ⟨a, capb, rfl, _, _⟩ := hB
  have hcap : zs.length + 4 ≤ cap ∧ cap ≤ 9223372036854775807 := by
    rcases hr.2 with ⟨e, _⟩ | ⟨g', cap', cur, e, _, _, h1, h2, _⟩
    · cases e
    · cases e
      unfold maxLen at h2
      omega
  obtain ⟨hcap1, hcap2⟩ := hcap
  obtain ⟨n, hn⟩ : ∃ n, n = zs.length := ⟨_, rfl⟩
  rw [← hn] at c1 c2 c3 c4 hcap1 hl ⊢
  clear hn hr hbt hg
  have e1 : IntKind.i64.wrap ((n : Int) + 4) = (n : Int) + 4 := IntWalk.i64_in _ (by omega)
  have k0 : (0 : Int) ≤ (n : Int) := by omega
  have k1 : (n : Int) ≤ (n : Int) + 4 := by omega
  have k2 : (n : Int) + 4 ≤ (cap : Int) := by omega
  have k3 : ((n : Int) + 4).toNat = n + 4 := by omega
  have k4 : ¬ (cap = n) := by omega
  have k5 : n + 4 - n = 4 := by omega
  generalize hs1 : (⟨zs.toArray⟩ : ByteArray) = s1 at *
  generalize hs2 : (⟨tail4.toArray⟩ : ByteArray) = s2 at *
  clear hs1 hs2
  go_enter Tryd.func16, Tryd.ntmps16
  go_wp2_with fail
  go_region
  all_goals
    go_wp2
    go_ret
    exact ⟨rfl, below_undrew ((Below.refl w.heap.size w.drew).alloc (Nat.le_refl _) obj4)⟩

end Go.Proofs.YtlcaboddkcpgaaaDoor

/- Codes and trees, plainly; contracts of the reference's code, begins (praxinoscoperef03) and Count, bit, Read (praxinoscoperef01). -/
namespace Go.Proofs.YtlcaboddkcpgaaaDoor
open Go.RowKit Go.Shelf
set_option linter.unusedVariables false

theorem str_eq_iff (a b : ByteArray) : (a.toList == b.toList) = true ↔ a = b := by
  rw [ByteArray.toList_eq, ByteArray.toList_eq, beq_iff_eq]
  exact ⟨fun h => ByteArray.ext (Array.toList_inj.1 h), fun h => by rw [h]⟩
/-- a text of 1 to 24 bits -/
def codeB (s : ByteArray) : Bool := allB s && decide (1 ≤ s.size) && decide (s.size ≤ 24)
/-- does a text begin with another one, or is it that? -/
def begins (s t : ByteArray) : Bool := decide (t.data.toList <+: s.data.toList)
theorem begins_le {s t : ByteArray} (h : t.size ≤ s.size) : begins s t = decide (s.extract 0 t.size = t) := by
  unfold begins
  apply decide_eq_decide.2
  have h1 : t.data.toList.length = t.size := by simp
  rw [List.prefix_iff_eq_take, h1]
  constructor
  · intro e
    apply ByteArray.ext
    apply Array.toList_inj.1
    rw [e]
    simp
  · intro e
    have := congrArg (fun x : ByteArray => x.data.toList) e
    simpa using this.symm
theorem begins_lt {s t : ByteArray} (h : ¬ t.size ≤ s.size) : begins s t = false := by
  unfold begins
  apply decide_eq_false
  intro hp
  have := hp.length_le
  simp at this
  omega

theorem rcount_any {n₀ : Nat} {w : World} {sv : Value} {zs : List UInt8} (hB : Byt n₀ w sv zs) :
    Calls Tryd.prog 36 #[sv] w fun e w' => e = .returned (.int .i64 (8 * (zs.length : Int))) ∧ w = w' := by
  obtain ⟨a, cap, rfl, hl, _⟩ := hB
  go_enter Tryd.func36, Tryd.ntmps36
  go_wp2
  go_ret
  exact ⟨rfl, rfl⟩

theorem rbit_at (b off len cap : Nat) (zs : List UInt8) (k : Nat) (w : World) (h1 : k < 8 * len) (hl : len ≤ 1152921504606846975)
    (hc : w.cell? ⟨b, off + k / 8, none⟩ = some (.int .u8 ((zs[k / 8]?.getD 0).toNat))) :
    Calls Tryd.prog 53 #[.slice (some ⟨b, off, none⟩) len cap, .int .i64 k] w fun e w' => e = .returned (.int .i64 (bt zs k)) ∧ w = w' := by
  go_enter Tryd.func53, Tryd.ntmps53
  go_wp2
  go_ret
  exact ⟨ret_int (rem_bt zs k), rfl⟩
theorem rbit_any {n₀ : Nat} {w : World} {sv : Value} {zs : List UInt8} (hB : Byt n₀ w sv zs) (i : Int) (k : Nat) (hi : i = k) (h : k < 8 * zs.length) :
    Calls Tryd.prog 53 #[sv, .int .i64 i] w fun e w' => e = .returned (.int .i64 (bt zs k)) ∧ w = w' := by
  subst hi
  obtain ⟨a, cap, rfl, hl, hz⟩ := hB
  rcases hz with rfl | ⟨b, off, rfl, _, hc⟩
  · simp at h
  · exact rbit_at b off zs.length cap zs k w h hl (hc _ (by omega))

set_option maxRecDepth 100000 in
set_option maxHeartbeats 1000000 in
theorem rread1_any {n₀ : Nat} {w : World} {sv : Value} {zs : List UInt8} (hB : Byt n₀ w sv zs) (i : Int) (k : Nat) (hi : i = k) (h : k < 8 * zs.length) (hl : zs.length ≤ 1099511627776) :
    Calls Tryd.prog 37 #[sv, .int .i64 i, .int .i64 1] w fun e w' => e = .returned (.tuple #[.int .i64 (bt zs k), .int .i64 0]) ∧ w = w' := by
  subst hi
  have HC := Lib.hid (rcount_any hB)
  have HB := Lib.hid (rbit_any hB (k : Int) k rfl h)
  have hbt : bt zs k < 2 := by unfold bt; exact Nat.mod_lt _ (by omega)
  obtain ⟨a, cap, rfl, hl', _⟩ := hB
  generalize bt zs k = v at *
  go_enter Tryd.func37, Tryd.ntmps37
  go_wp2_with (go_at_call 36; refine HC.out.mono ?_; rintro e w' ⟨rfl, rfl⟩)
  go_loop [8, 9] (fun x i => (x = .int .i64 0 ∧ i = .int .i64 0) ∨ (x = .int .i64 v ∧ i = .int .i64 1)) (fun _ i => 1 - (intOf i).toNat)
  case atStart => exact .inl ⟨rfl, rfl⟩
  case round =>
    rcases hrel with ⟨rfl, rfl⟩ | ⟨rfl, rfl⟩
    · go_wp2_with fail
      refine HB.out.mono ?_
      rintro e w' ⟨rfl, rfl⟩
      go_wp2
      go_round
      case rel => exact .inr ⟨by go_num, rfl⟩
      case measure => simp [intOf]
    · go_wp2
      go_ret2
      exact ⟨rfl, rfl⟩

end Go.Proofs.YtlcaboddkcpgaaaDoor

/- The reference's tree (praxinoscoperef03.Tree): what it holds; contracts of its Put and Get. -/
namespace Go.Proofs.YtlcaboddkcpgaaaDoor
open Go.RowKit Go.Shelf
set_option linter.unusedVariables false

abbrev strV (xs : List ByteArray) : List Value := xs.map fun s => Value.string s
abbrev intV (xs : List Int) : List Value := xs.map fun n => Value.int .i64 n
/-- a row that is not empty lies in a block, cell by cell -/
theorem row_cells {w : World} {base n j : Nat} {e : TypeId} {v : Value} {xs : List Value} (h : w.ownsRow base e 1 v n xs) (hj : j < n) : ∃ g cap, v = .slice (some ⟨g, 0, none⟩) n cap ∧ g < w.heap.size ∧ n ≤ cap ∧ ∀ i u, i < n → xs[i]? = some u → w.cell? ⟨g, i, none⟩ = some u := by
  rcases id h.2 with ⟨rfl, h0⟩ | ⟨g, cap, cur, rfl, _, hg, hc, _⟩
  · omega
  · exact ⟨g, cap, rfl, (Array.getElem?_eq_some_iff.1 hg).1, hc, fun i u hi hu => by rw [h.cellAt i (by omega), hu]⟩

/-! ### Put -/
def putI (nums : List Int) (x : Int) : Option Nat := nums.findIdx? (fun n => n == x)
def putS (codes : List ByteArray) (nums : List Int) (x : Int) : ByteArray := match putI nums x with | some i => codes[i]?.getD ⟨#[]⟩ | none => ⟨#[]⟩
def putE3 (nums : List Int) (x : Int) : Int := match putI nums x with | some _ => 0 | none => 18

/-! ### Get -/
/-- the bits from a place on, as a text: so many of them -/
def seenL (zs : List UInt8) (at_ n : Nat) : List UInt8 := (List.range n).map fun k => UInt8.ofNat (48 + bt zs (at_ + k))
def seenB (zs : List UInt8) (at_ n : Nat) : ByteArray := ⟨(seenL zs at_ n).toArray⟩
/-- how many bits are looked at -/
def seenN (zs : List UInt8) (at_ : Nat) : Nat := min 24 (8 * zs.length - at_)
def getI (codes : List ByteArray) (s : ByteArray) : Option Nat := codes.findIdx? (fun c => begins s c)
def getMore (codes : List ByteArray) (s : ByteArray) : Bool := codes.any (fun c => begins c s)
def getX (codes : List ByteArray) (nums : List Int) (s : ByteArray) : Int := match getI codes s with | some i => nums[i]?.getD 0 | none => 0
def getN (codes : List ByteArray) (s : ByteArray) : Int := match getI codes s with | some i => (codes[i]?.getD ⟨#[]⟩).size | none => 0
def getE3 (codes : List ByteArray) (s : ByteArray) : Int := match getI codes s with | some _ => 0 | none => if getMore codes s then 5 else 7
/-- what Get answers -/
def getT (codes : List ByteArray) (nums : List Int) (zs : List UInt8) (at_ : Int) : Value :=
  if at_ < 0 then .tuple #[.int .i64 0, .int .i64 0, .int .i64 3]
  else .tuple #[.int .i64 (getX codes nums (seenB zs at_.toNat (seenN zs at_.toNat))), .int .i64 (getN codes (seenB zs at_.toNat (seenN zs at_.toNat))), .int .i64 (getE3 codes (seenB zs at_.toNat (seenN zs at_.toNat)))]
theorem seenB_size (zs : List UInt8) (a n : Nat) : (seenB zs a n).size = n := by
  show (seenL zs a n).toArray.size = n
  simp [seenL]
theorem seenB_succ (zs : List UInt8) (a n : Nat) : seenB zs a n ++ ⟨#[UInt8.ofNat (48 + bt zs (a + n))]⟩ = seenB zs a (n + 1) := by
  apply ByteArray.ext
  apply Array.toList_inj.1
  simp [seenB, seenL, List.range_succ]

end Go.Proofs.YtlcaboddkcpgaaaDoor

/- The contract of the reference tree's Get. -/
namespace Go.Proofs.YtlcaboddkcpgaaaDoor
open Go.RowKit Go.Shelf
set_option linter.unusedVariables false

theorem conv_one (w : World) (z : UInt8) : (convert 22 9 (.slice (some ⟨w.heap.size, 0, none⟩) 1 1)).run Tryd.prog (w.alloc (.cells #[.int .u8 z.toNat] 5 (0, 0))) = .ok (.string ⟨#[z]⟩) (w.alloc (.cells #[.int .u8 z.toNat] 5 (0, 0))) := by
  have hB : Byt (w.heap.size + 1) (w.alloc (.cells #[.int .u8 z.toNat] 5 (0, 0))) (.slice (some ⟨w.heap.size, 0, none⟩) 1 1) [z] := by
    refine ⟨_, 1, rfl, by simp, .inr ⟨w.heap.size, 0, rfl, by omega, fun j hj => ?_⟩⟩
    have h := World.alloc_heap_new w (.cells #[.int .u8 z.toNat] 5 (0, 0))
    generalize w.alloc (.cells #[.int .u8 z.toNat] 5 (0, 0)) = w' at h ⊢
    simp at hj
    subst hj
    simp [World.cell?, h]
  exact conv_byt hB

def strLen : Value → Nat | .string b => b.size | _ => 0

theorem getI_some {codes : List ByteArray} {s : ByteArray} {k : Nat} (hk : k < codes.length) (hb : begins s (codes[k]?.getD ⟨#[]⟩) = true) (hno : ∀ j, j < k → begins s (codes[j]?.getD ⟨#[]⟩) = false) : getI codes s = some k := by
  unfold getI
  rw [List.findIdx?_eq_some_iff_getElem]
  refine ⟨hk, by simpa [hk] using hb, fun j hj => ?_⟩
  have := hno j hj
  simpa [show j < codes.length by omega] using this
theorem getI_none {codes : List ByteArray} {s : ByteArray} (hno : ∀ j, j < codes.length → begins s (codes[j]?.getD ⟨#[]⟩) = false) : getI codes s = none := by
  unfold getI
  rw [List.findIdx?_eq_none_iff]
  intro y hy
  obtain ⟨j, hj, rfl⟩ := List.getElem_of_mem hy
  have := hno j hj
  simpa [hj] using this
theorem getMore_true {codes : List ByteArray} {s : ByteArray} {k : Nat} (hk : k < codes.length) (hb : begins (codes[k]?.getD ⟨#[]⟩) s = true) : getMore codes s = true := by
  unfold getMore
  rw [List.any_eq_true]
  exact ⟨codes[k], List.getElem_mem _, by simpa [hk] using hb⟩
theorem getMore_false {codes : List ByteArray} {s : ByteArray} (hno : ∀ j, j < codes.length → begins (codes[j]?.getD ⟨#[]⟩) s = false) : getMore codes s = false := by
  unfold getMore
  rw [List.any_eq_false]
  intro y hy
  obtain ⟨j, hj, rfl⟩ := List.getElem_of_mem hy
  have := hno j hj
  simpa [hj] using this

end Go.Proofs.YtlcaboddkcpgaaaDoor

/- Append of one-cell elements of any type to a row that the call owns, from whatever slice; rows of values that came in. -/
namespace Go.Proofs.YtlcaboddkcpgaaaDoor
open Go.RowKit Go.Shelf
set_option linter.unusedVariables false

/-- a slice whose cells are known, in a block below n₀ -/
def RowV (n₀ : Nat) (w : World) (a : Option Addr) (len cap : Nat) (vs : List Value) : Prop :=
  vs.length = len ∧ len ≤ cap ∧ cap ≤ 9223372036854775807 ∧ (cap = 0 ∨ ∃ b off, a = some ⟨b, off, none⟩ ∧ b < n₀ ∧ ∀ j u, vs[j]? = some u → w.cell? ⟨b, off + j, none⟩ = some u)
theorem RowV.below {n₀ : Nat} {w w' : World} {a : Option Addr} {len cap : Nat} {vs : List Value} (h : RowV n₀ w a len cap vs) (hb : Below n₀ w w') : RowV n₀ w' a len cap vs := by
  obtain ⟨h1, h2, h3, h4⟩ := h
  exact ⟨h1, h2, h3, h4.imp id fun ⟨b, off, e, hlt, hc⟩ => ⟨b, off, e, hlt, fun j u hu => (hb.cell (p := ⟨b, off + j, none⟩) hlt).trans (hc j u hu)⟩⟩
theorem RowV.src {n₀ : Nat} {w : World} {a : Option Addr} {len cap : Nat} {vs : List Value} (h : RowV n₀ w a len cap vs) : Src w a len vs := by
  obtain ⟨h1, h2, h3, h4⟩ := h
  refine ⟨h1, ?_⟩
  rcases h4 with rfl | ⟨b, off, rfl, _, hc⟩
  · left; omega
  · right
    refine ⟨_, rfl, fun j u hu => ?_⟩
    have hadd : (⟨b, off, none⟩ : Addr).add j = ⟨b, off + j, none⟩ := by unfold Addr.add; split <;> simp_all
    rw [hadd]
    exact hc j u hu
theorem RowV.nocap {n₀ : Nat} {w : World} {a : Option Addr} {len cap : Nat} {vs : List Value} (h : RowV n₀ w a len cap vs) : a = none → cap = 0 := by
  rcases h.2.2.2 with h | ⟨b, off, rfl, _⟩
  · exact fun _ => h
  · exact fun e => by cases e
theorem RowV.cells {n₀ : Nat} {w : World} {a : Option Addr} {len cap : Nat} {vs : List Value} (h : RowV n₀ w a len cap vs) (h0 : 0 < len) : ∃ b off, a = some ⟨b, off, none⟩ ∧ b < n₀ ∧ ∀ j u, vs[j]? = some u → w.cell? ⟨b, off + j, none⟩ = some u := by
  rcases h.2.2.2 with h' | h'
  · have := h.2.1; omega
  · exact h'

/-- what an append leaves -/
def AppendedV (e : TypeId) (w w' : World) (base : Nat) (v v' : Value) (n : Nat) (xs : List Value) : Prop :=
  w'.ownsRow base e 1 v' n xs ∧ w.grownBy w' v.ownBlock ∧ ∀ k, v'.ownBlock = some k → v.ownBlock = some k ∨ w.heap.size ≤ k

theorem run_append_v {w : World} (t e : TypeId) (i : TypeInfo) (z : Value) (by_ : Nat) (ht : Tryd.prog.underlying t = some (.slice e)) (hi : Tryd.prog.info? e = some i) (hz0 : i.zero = some z) (hz1 : i.size = 1) (hz2 : i.bytes = by_) (hzc : z.cells.size = 1)
    (base : Nat) (v : Value) (n : Nat) (xs : List Value) (hown : w.ownsRow base e 1 v n xs) (A : Option Addr) (m c : Nat) (news : List Value) (hs : Src w A m news) (hnc : A = none → c = 0)
    (h1 : ∀ u ∈ news, u.oneCell' = true) (hfit : (n + m) * by_ ≤ 140737488355328) (hfit2 : n + m ≤ 140737488355328) (hbase : base ≤ w.heap.size) (ty : TypeId) :
    ∃ v' w', (Builtin.append_ #[t, t] ty #[v, .slice A m c]).run Tryd.prog w = .ok v' w' ∧ AppendedV e w w' base v v' (n + m) (xs ++ news) := by
  cases A with
  | none =>
    have hm : m = 0 := by
      rcases hs.2 with h | ⟨ad, e, _⟩
      · exact h
      · cases e
    subst hm
    have hn : news = [] := List.eq_nil_of_length_eq_zero hs.1
    subst hn
    obtain rfl := hnc rfl
    exact ⟨v, w, run_append_owned_none w base t ty e i 1 ht hi v n xs hown, by simpa using hown, World.grownBy.refl w _, fun k hk => .inl hk⟩
  | some ad =>
    obtain ⟨v', w', hr, h2, h3, _⟩ := run_append_own (P := Tryd.prog) w base t ty e i z 1 by_ ht hi hz0 hz1 hz2 hzc (by decide) v n xs hown ad m c news (by rw [hs.1]; omega) hs.at_ h1 (by unfold maxLen; omega) hfit hbase
    exact ⟨v', w', hr, h2, h3, append_where w t ty e i z 1 by_ ht hi hz0 hz1 hz2 hzc (by decide) base v n xs hown ad m c news (by rw [hs.1]; omega) hs.at_ h1 (by unfold maxLen; omega) hfit hr⟩

theorem wp_append_v {w : World} {o : Oper} {a : Act} {K : Act → World → Prop} {Q : Exit → Act → World → Prop} (s x : Operand) (t e : TypeId) (i : TypeInfo) (z : Value) (by_ : Nat)
    (ho : o.op = .call { callee := .builtin .append, args := #[s, x], argTypes := #[t, t] }) (ht : Tryd.prog.underlying t = some (.slice e)) (hi : Tryd.prog.info? e = some i) (hz0 : i.zero = some z) (hz1 : i.size = 1) (hz2 : i.bytes = by_) (hzc : z.cells.size = 1)
    (base : Nat) (v : Value) (n : Nat) (xs : List Value) (hv : a.eval s = v) (hown : w.ownsRow base e 1 v n xs)
    (A : Option Addr) (m c : Nat) (news : List Value) (hx : a.eval x = .slice A m c) (hs : Src w A m news) (hnc : A = none → c = 0) (h1 : ∀ u ∈ news, u.oneCell' = true) (hfit : (n + m) * by_ ≤ 140737488355328) (hfit2 : n + m ≤ 140737488355328) (hbase : base ≤ w.heap.size)
    (h : ∀ v' w', AppendedV e w w' base v v' (n + m) (xs ++ news) → K (a.put o.dst v') w') : o.wp Tryd.prog a w K Q := by
  obtain ⟨v', w', hrun, hd⟩ := run_append_v (w := w) t e i z by_ ht hi hz0 hz1 hz2 hzc base v n xs hown A m c news hs hnc h1 hfit hfit2 hbase o.type
  unfold Oper.wp execOp
  simp only [ho, resolve, invoke, builtin, Sem.run_bind, Sem.run_pure, Result.andThen_ok, List.map_toArray, List.map_cons, List.map_nil, hv, hx, hrun]
  exact h v' w' hd
theorem wpList_append_v {w : World} {ops : Array Oper} {rest : List Oper} {o : Oper} {a : Act} {Q : Exit → Act → World → Prop} (hgd : o.guard = none) (s x : Operand) (t e : TypeId) (i : TypeInfo) (z : Value) (by_ : Nat)
    (ho : o.op = .call { callee := .builtin .append, args := #[s, x], argTypes := #[t, t] }) (ht : Tryd.prog.underlying t = some (.slice e)) (hi : Tryd.prog.info? e = some i) (hz0 : i.zero = some z) (hz1 : i.size = 1) (hz2 : i.bytes = by_) (hzc : z.cells.size = 1)
    (base : Nat) (v : Value) (n : Nat) (xs : List Value) (hv : a.eval s = v) (hown : w.ownsRow base e 1 v n xs)
    (A : Option Addr) (m c : Nat) (news : List Value) (hx : a.eval x = .slice A m c) (hs : Src w A m news) (hnc : A = none → c = 0) (h1 : ∀ u ∈ news, u.oneCell' = true) (hfit : (n + m) * by_ ≤ 140737488355328) (hfit2 : n + m ≤ 140737488355328) (hbase : base ≤ w.heap.size)
    (h : ∀ v' w', AppendedV e w w' base v v' (n + m) (xs ++ news) → wpList Tryd.prog ops Q rest (a.put o.dst v') w') : wpList Tryd.prog ops Q (o :: rest) a w :=
  wpList_plain hgd fun _ hK => wp_append_v s x t e i z by_ ho ht hi hz0 hz1 hz2 hzc base v n xs hv hown A m c news hx hs hnc h1 hfit hfit2 hbase fun v' w' hd => hK _ _ (h v' w' hd)

theorem Tryd.info9 : (Tryd.prog.info? 9).map (fun i => (i.zero, i.size, i.bytes)) = some (some (.string ⟨#[]⟩), 1, 16) := by kernel_rfl
theorem strV_one {xs : List ByteArray} : ∀ u ∈ strV xs, u.oneCell' = true := by
  intro u hu; simp at hu; obtain ⟨z, _, rfl⟩ := hu; rfl
theorem intV_one {xs : List Int} : ∀ u ∈ intV xs, u.oneCell' = true := by
  intro u hu; simp at hu; obtain ⟨z, _, rfl⟩ := hu; rfl

end Go.Proofs.YtlcaboddkcpgaaaDoor

/- The contract of the reference's Make (praxinoscoperef03). -/
namespace Go.Proofs.YtlcaboddkcpgaaaDoor
open Go.RowKit Go.Shelf
set_option linter.unusedVariables false

/-- does a code begin another one, or are two the same? -/
def clashAt (codes : List ByteArray) (i k : Nat) : Bool := decide (i ≠ k) && begins (codes[i]?.getD ⟨#[]⟩) (codes[k]?.getD ⟨#[]⟩)
def clash (codes : List ByteArray) : Bool := (List.range codes.length).any fun i => (List.range codes.length).any fun k => clashAt codes i k
/-- what Make answers -/
def makeE (codes : List ByteArray) (nums : List Int) : Int :=
  if codes.length ≠ nums.length ∨ codes.length = 0 ∨ 300 < codes.length then 2
  else if codes.all codeB then (if clash codes then 14 else 0) else 2
theorem clash_true {codes : List ByteArray} {i k : Nat} (hi : i < codes.length) (hk : k < codes.length) (h : clashAt codes i k = true) : clash codes = true := by
  unfold clash
  rw [List.any_eq_true]
  refine ⟨i, by simpa using hi, ?_⟩
  rw [List.any_eq_true]
  exact ⟨k, by simpa using hk, h⟩
theorem clash_false {codes : List ByteArray} (h : ∀ i, i < codes.length → ∀ k, k < codes.length → clashAt codes i k = false) : clash codes = false := by
  unfold clash
  rw [List.any_eq_false]
  intro i hi
  rw [Bool.not_eq_true, List.any_eq_false]
  intro k hk
  rw [Bool.not_eq_true]
  exact h i (by simpa using hi) k (by simpa using hk)
theorem all_codes {codes : List ByteArray} (h : ∀ j, j < codes.length → codeB (codes[j]?.getD ⟨#[]⟩) = true) : codes.all codeB = true := by
  rw [List.all_eq_true]
  intro s hs
  obtain ⟨j, hj, rfl⟩ := List.getElem_of_mem hs
  simpa [hj] using h j hj
theorem not_all {codes : List ByteArray} {j : Nat} (hj : j < codes.length) (h : codeB (codes[j]?.getD ⟨#[]⟩) = false) : codes.all codeB = false := by
  rw [List.all_eq_false]
  exact ⟨codes[j], List.getElem_mem _, by simpa [hj] using h⟩

theorem below_undrew2' {n : Nat} {a b : World} (h : Below n a b) : Below n a b.drew := ⟨h.os, h.tape, h.output, h.size, h.block⟩
theorem Tryd.info3y : (Tryd.prog.info? 3).map (fun i => (i.zero, i.size, i.bytes)) = some (some (.int .i64 0), 1, 8) := by kernel_rfl
theorem ownsRow_base {w : World} {base base' n : Nat} {e : TypeId} {v : Value} {xs : List Value} (h : w.ownsRow base e 1 v n xs) (hb : base' ≤ base) : w.ownsRow base' e 1 v n xs := by
  refine ⟨h.1, ?_⟩
  rcases h.2 with h | ⟨g, cap, cur, e, hg, r⟩
  · exact .inl h
  · exact .inr ⟨g, cap, cur, e, by omega, r⟩
theorem first_v {e t : TypeId} {w w1 : World} {n : Nat} {v1 : Value} {xs : List Value} (h : AppendedV e (w.alloc (.cells #[] t (0, 0))) w1 w.heap.size (.slice (some ⟨w.heap.size, 0, none⟩) 0 0) v1 (0 + n) ([] ++ xs)) :
    w1.ownsRow w.heap.size e 1 v1 n xs ∧ Below w.heap.size w w1 := by
  have hrow1 := h.1
  rw [Nat.zero_add, List.nil_append] at hrow1
  exact ⟨hrow1, ((Below.refl _ w).alloc (Nat.le_refl _) _).grown h.2.1 (by simp) (fun k e => by simp [Value.ownBlock] at e; omega)⟩

end Go.Proofs.YtlcaboddkcpgaaaDoor

/- An append inside any fence. -/
namespace Go.Proofs.YtlcaboddkcpgaaaDoor
open Go.RowKit Go.Shelf
set_option linter.unusedVariables false
attribute [local go_sem] Oper.semAt_some

theorem src_at {W : World} {g : Nat} {u : Value} {t : TypeId} (h : W.heap[g]? = some (.cells #[u] t (0, 0))) : Src W (some ⟨g, 0, none⟩) 1 [u] := by
  refine ⟨rfl, .inr ⟨_, rfl, fun j v hv => ?_⟩⟩
  have hadd : (⟨g, 0, none⟩ : Addr).add j = ⟨g, 0 + j, none⟩ := by unfold Addr.add; split <;> simp_all
  rw [hadd, Nat.zero_add]
  match j, hv with
  | 0, hv => cases hv; exact (one_cell h).1

theorem info_int5 : (Tryd.prog.info? 3).map (fun i => (i.zero, i.size, i.bytes)) = some (some (.int .i64 0), 1, 8) := by kernel_rfl

section In
variable {F : Fence} {n : Nat} {P : Program} {ops : Array Oper} {Q : Exit → Act → World → Prop}

/-- an operation that yields a value, inside any fence -/
theorem operIn_val {o : Oper} {a : Act} {w w' : World} {K : Act → World → Prop} {v : Value} (hab : o.about P w a.eval = none) (hnd : ∀ c, o.op ≠ .defer c) (hrun : (execOp a.eval o).run P w = .ok (.value v) w') (hK : K (a.put o.dst v) w') : o.wpIn F n P a w K Q := by
  unfold Oper.wpIn
  refine ⟨(fun f hf => by rw [hab] at hf; cases hf), ?_⟩
  rw [Oper.semAt_plain F _ _ hnd, hrun]
  exact hK
theorem operIn_append_v {w : World} {o : Oper} {a : Act} {K : Act → World → Prop} (s x : Operand) (t e : TypeId) (i : TypeInfo) (z : Value) (by_ : Nat)
    (ho : o.op = .call { callee := .builtin .append, args := #[s, x], argTypes := #[t, t] }) (ht : Tryd.prog.underlying t = some (.slice e)) (hi : Tryd.prog.info? e = some i) (hz0 : i.zero = some z) (hz1 : i.size = 1) (hz2 : i.bytes = by_) (hzc : z.cells.size = 1)
    (base : Nat) (v : Value) (n' : Nat) (xs : List Value) (hv : a.eval s = v) (hown : w.ownsRow base e 1 v n' xs)
    (A : Option Addr) (m c : Nat) (news : List Value) (hx : a.eval x = .slice A m c) (hs : Src w A m news) (hnc : A = none → c = 0) (h1 : ∀ u ∈ news, u.oneCell' = true) (hfit : (n' + m) * by_ ≤ 140737488355328) (hfit2 : n' + m ≤ 140737488355328) (hbase : base ≤ w.heap.size)
    (h : ∀ v' w', AppendedV e w w' base v v' (n' + m) (xs ++ news) → K (a.put o.dst v') w') : o.wpIn F n Tryd.prog a w K Q := by
  obtain ⟨v', w', hrun, hd⟩ := run_append_v (w := w) t e i z by_ ht hi hz0 hz1 hz2 hzc base v n' xs hown A m c news hs hnc h1 hfit hfit2 hbase o.type
  refine operIn_val (v := v') (w' := w') ?_ (by rw [ho]; intro c hc; cases hc) ?_ (h v' w' hd)
  · simp [Oper.about, ho, resolve, Target.leads, Sem.run_pure]
  · unfold execOp
    simp only [ho, resolve, invoke, builtin, Sem.run_bind, Sem.run_pure, Result.andThen_ok, List.map_toArray, List.map_cons, List.map_nil, hv, hx, hrun]
theorem wpListIn_append_v {w : World} {rest : List Oper} {o : Oper} {a : Act} (hgd : o.guard = none) (s x : Operand) (t e : TypeId) (i : TypeInfo) (z : Value) (by_ : Nat)
    (ho : o.op = .call { callee := .builtin .append, args := #[s, x], argTypes := #[t, t] }) (ht : Tryd.prog.underlying t = some (.slice e)) (hi : Tryd.prog.info? e = some i) (hz0 : i.zero = some z) (hz1 : i.size = 1) (hz2 : i.bytes = by_) (hzc : z.cells.size = 1)
    (base : Nat) (v : Value) (n' : Nat) (xs : List Value) (hv : a.eval s = v) (hown : w.ownsRow base e 1 v n' xs)
    (A : Option Addr) (m c : Nat) (news : List Value) (hx : a.eval x = .slice A m c) (hs : Src w A m news) (hnc : A = none → c = 0) (h1 : ∀ u ∈ news, u.oneCell' = true) (hfit : (n' + m) * by_ ≤ 140737488355328) (hfit2 : n' + m ≤ 140737488355328) (hbase : base ≤ w.heap.size)
    (h : ∀ v' w', AppendedV e w w' base v v' (n' + m) (xs ++ news) → wpListIn F n Tryd.prog ops Q rest (a.put o.dst v') w') : wpListIn F n Tryd.prog ops Q (o :: rest) a w :=
  wpListIn_plain hgd fun K hK => operIn_append_v s x t e i z by_ ho ht hi hz0 hz1 hz2 hzc base v n' xs hv hown A m c news hx hs hnc h1 hfit hfit2 hbase fun v' w' hd => hK _ _ (h v' w' hd)
end In

end Go.Proofs.YtlcaboddkcpgaaaDoor
