/- Contracts of the kit's OverBytes, LentBytes, KeptBytes. Codes and trees, plainly; contracts of the reference's code, begins (praxinoscoperef03) and Count, bit, Read (praxinoscoperef01). The reference's tree (praxinoscoperef03.Tree): what it holds; contracts of its Put and Get. The contract of the reference tree's Get. Append of one-cell elements of any type to a row that the call owns, from whatever slice; rows of values that came in. The contract of the reference's Make (praxinoscoperef03). -/
import Derived.Test.YtbcfiafgolcbpaaGreatDoorQueue
/- Contracts of the kit's OverBytes, LentBytes, KeptBytes. -/
namespace Go.Proofs.YtbcfiafgolcbpaaGreatDoor
open Go.RowKit Go.Shelf
set_option linter.unusedVariables false

/-- n bytes at the head of block g, which may be written -/
def Bytes0 (w : World) (g n : Nat) : Prop := ∃ cur, w.heap[g]? = some (.cells cur 5 (0, 0)) ∧ ∀ j, j < n → ∃ z : UInt8, cur[j]? = some (.int .u8 z.toNat)
theorem Bytes0.cell {w : World} {g n j : Nat} (h : Bytes0 w g n) (hj : j < n) : ∃ z : UInt8, w.cell? ⟨g, j, none⟩ = some (.int .u8 z.toNat) ∧ w.frozen? ⟨g, j, none⟩ = false := by
  obtain ⟨cur, hg, hc⟩ := h
  obtain ⟨z, hz⟩ := hc j hj
  exact ⟨z, by simp [World.cell?, hg, hz], by simp [World.frozen?, hg]⟩
theorem Bytes0.set {w : World} {g n j : Nat} (h : Bytes0 w g n) (u : UInt8) : Bytes0 (w.setCell ⟨g, j, none⟩ (.int .u8 u.toNat)) g n := by
  obtain ⟨cur, hg, hc⟩ := h
  refine ⟨_, heap_setCell_same _ _ _ _ _ _ hg, fun i hi => ?_⟩
  obtain ⟨z, hz⟩ := hc i hi
  by_cases e : j = i
  · subst e
    refine ⟨u, ?_⟩
    have := (Array.getElem?_eq_some_iff.1 hz).1
    simp [this]
  · exact ⟨z, by simpa [Array.getElem?_set, Array.getElem?_setIfInBounds, e] using hz⟩
theorem bytes0_own {w : World} {base n g cap : Nat} {zs : List UInt8} (h : w.ownsRow base 5 1 (.slice (some ⟨g, 0, none⟩) n cap) n (u8s zs)) : Bytes0 w g n := by
  rcases h.2 with ⟨e, _⟩ | ⟨g', cap', cur, e, _, hg, _, _, hs, ht⟩
  · cases e
  · cases e
    refine ⟨cur, hg, fun j hj => ?_⟩
    have hl : zs.length = n := by have := h.1; simpa using this
    refine ⟨zs[j]'(by omega), ?_⟩
    have h2 : (cur.toList.take (n * 1))[j]? = (u8s zs)[j]? := by rw [ht]
    rw [List.getElem?_take, if_pos (by omega)] at h2
    simpa [u8s, show j < zs.length by omega] using h2

theorem xor_fin : ∀ n : Fin 256, bits BinOp.xor IntKind.u8 (n.val : Int) 165 = ((n.val ^^^ 165 : Nat) : Int) := by decide +kernel
theorem xor_u8 (z : UInt8) : ∃ u : UInt8, bits BinOp.xor IntKind.u8 (z.toNat : Int) 165 = (u.toNat : Int) := by
  have hz : z.toNat < 256 := UInt8.toNat_lt z
  have h : z.toNat ^^^ 165 < 2 ^ 8 := Nat.xor_lt_two_pow hz (by decide)
  exact ⟨UInt8.ofNat (z.toNat ^^^ 165), by rw [xor_fin ⟨z.toNat, hz⟩, UInt8.toNat_ofNat', Nat.mod_eq_of_lt h]⟩

abbrev tail4 : List UInt8 := [201, 202, 203, 204]
/-- bytes that were lent: they lie at the head of a block of their own, and four known ones behind them -/
def Lent (base : Nat) (w : World) (v : Value) (zs : List UInt8) : Prop :=
  ∃ g cap, v = .slice (some ⟨g, 0, none⟩) zs.length cap ∧ base ≤ g ∧ w.ownsRow base 5 1 (.slice (some ⟨g, 0, none⟩) (zs.length + 4) cap) (zs.length + 4) (u8s (zs ++ tail4))

theorem src_four (w : World) (t : TypeId) : Src (w.alloc (.cells #[.int .u8 201, .int .u8 202, .int .u8 203, .int .u8 204] t (0, 0))) (some ⟨w.heap.size, 0, none⟩) 4 (u8s tail4) := by
  refine ⟨rfl, .inr ⟨_, rfl, fun j u hu => ?_⟩⟩
  have hadd : (⟨w.heap.size, 0, none⟩ : Addr).add j = ⟨w.heap.size, 0 + j, none⟩ := by unfold Addr.add; split <;> simp_all
  rw [hadd]
  have h := World.alloc_heap_new w (.cells #[.int .u8 201, .int .u8 202, .int .u8 203, .int .u8 204] t (0, 0))
  generalize w.alloc (.cells #[.int .u8 201, .int .u8 202, .int .u8 203, .int .u8 204] t (0, 0)) = w' at h ⊢
  match j, hu with
  | 0, hu => simpa [World.cell?, h, u8s] using hu
  | 1, hu => simpa [World.cell?, h, u8s] using hu
  | 2, hu => simpa [World.cell?, h, u8s] using hu
  | 3, hu => simpa [World.cell?, h, u8s] using hu
  | k + 4, hu => simp [u8s] at hu
theorem lent_first {w w1 : World} {t : TypeId} {n : Nat} {v1 : Value} {xs : List Value} (h : Appended (w.alloc (.cells #[] t (0, 0))) w1 w.heap.size (.slice (some ⟨w.heap.size, 0, none⟩) 0 0) v1 (0 + n) ([] ++ xs)) :
    w1.ownsRow w.heap.size 5 1 v1 n xs ∧ Below w.heap.size w w1 := by
  have hrow1 := h.1
  rw [Nat.zero_add, List.nil_append] at hrow1
  exact ⟨hrow1, ((Below.refl _ w).alloc (Nat.le_refl _) _).grown h.2.1 (by simp) (fun k e => by simp [Value.ownBlock] at e; omega)⟩

theorem row_succ4 {w : World} {base n : Nat} {e : TypeId} {v : Value} {xs : List Value} (h : w.ownsRow base e 1 v (n + 4) xs) :
    ∃ g cap, v = .slice (some ⟨g, 0, none⟩) (n + 4) cap ∧ base ≤ g ∧ n + 4 ≤ cap ∧ cap ≤ 9223372036854775807 := by
  rcases h.2 with ⟨_, h0⟩ | ⟨g, cap, cur, rfl, hb, _, h1, h2, _⟩
  · omega
  · exact ⟨g, cap, rfl, hb, h1, by unfold maxLen at h2; omega⟩

set_option maxRecDepth 100000 in
set_option maxHeartbeats 1000000 in
theorem lent_any {w : World} {a : Option Addr} {cap : Nat} {zs : List UInt8} (hs : Src w a zs.length (u8s zs)) (hnc : a = none → cap = 0) (hl : zs.length ≤ 1099511627776) :
    Calls Tryz.prog 11 #[.slice a zs.length cap] w fun e w' => ∃ v, e = .returned v ∧ Lent w.heap.size w' v zs ∧ Below w.heap.size w w' := by
  have HS := Lib.hid hs
  have HN := Lib.hid hnc
  clear hs hnc
  go_enter Tryz.func11, Tryz.ntmps11
  go_wp2_with (at_builtin; first
    | (refine wpList_append_src rfl (.tmp 4) (.tmp 5) rfl w.heap.size (.slice (some ⟨w.heap.size, 0, none⟩) 0 0) 0 [] rfl (own_empty _ _) a zs.length cap (u8s zs) rfl (HS.out.alloc _) HN.out u8s_one (by omega) (by simp) ?_; intro v1 w1 hap; have HF := Lib.hid (lent_first hap); have hs1 := HF.out.2.size; clear hap)
    | (refine wpList_append_src rfl (.tmp 7) (.tmp 8) rfl w.heap.size v1 zs.length (u8s zs) rfl (HF.out.1.alloc _) (some ⟨w1.heap.size, 0, none⟩) 4 4 (u8s tail4) rfl (src_four _ _) (fun e => nomatch e) u8s_one (by omega) (by simp; omega) ?_; intro v2 w2 hap2; have HA := Lib.hid hap2; obtain ⟨g, cap2, rfl, hg1, hc1, hc2⟩ := row_succ4 hap2.1; clear hap2))
  go_ret
  obtain ⟨h1, h2, h3⟩ := HA.out
  have hb1 := HF.out.2
  have hb2 : Below w.heap.size w w2 := (hb1.alloc hs1 _).grown h2 (by simp; omega) (fun k e => (HF.out.1.lt k e).1)
  refine ⟨_, rfl, ⟨g, cap2, rfl, hg1, ?_⟩, hb2⟩
  rw [show u8s (zs ++ tail4) = u8s zs ++ u8s tail4 by simp [u8s]]
  exact h1

abbrev obj4 : Obj := .cells #[.int .u8 201, .int .u8 202, .int .u8 203, .int .u8 204] 5 (0, 0)
theorem byt_four (w : World) : Byt (w.heap.size + 1) (w.alloc obj4) (.slice (some ⟨w.heap.size, 0, none⟩) 4 4) tail4 := by
  refine ⟨_, 4, rfl, by decide, .inr ⟨w.heap.size, 0, rfl, by omega, fun j hj => ?_⟩⟩
  have h := (src_four w 5).at_ j
  have hadd : (⟨w.heap.size, 0, none⟩ : Addr).add j = ⟨w.heap.size, 0 + j, none⟩ := by unfold Addr.add; split <;> simp_all
  rw [hadd] at h
  match j, hj with
  | 0, _ => exact h _ rfl
  | 1, _ => exact h _ rfl
  | 2, _ => exact h _ rfl
  | 3, _ => exact h _ rfl
theorem Lent.bar {S : Nat → Prop} {base : Nat} {w w' : World} {v : Value} {zs : List UInt8} (h : Lent base w v zs) (hb : Bar S w w') (hS : ∀ k, v.ownBlock = some k → ¬ S k) : Lent base w' v zs := by
  obtain ⟨g, cap, rfl, hg, hr⟩ := h
  exact ⟨g, cap, rfl, hg, ownsRow_bar hr hb (fun k e => hS k (by simpa [Value.ownBlock] using e))⟩
theorem Lent.byt {base : Nat} {w : World} {v : Value} {zs : List UInt8} (h : Lent base w v zs) (hl : zs.length ≤ 1099511627776) : Byt w.heap.size w v zs := by
  obtain ⟨g, cap, rfl, hg, hr⟩ := h
  refine ⟨_, cap, rfl, by omega, .inr ⟨g, 0, rfl, (hr.lt g rfl).2, fun j hj => ?_⟩⟩
  rw [Nat.zero_add, hr.cellAt j (by omega)]
  rw [show u8s (zs ++ tail4) = u8s zs ++ u8s tail4 by simp [u8s], List.getElem?_append_left (by simpa using hj)]
  simp [hj]
theorem Lent.tail {base g cap : Nat} {w : World} {zs : List UInt8} (h : w.ownsRow base 5 1 (.slice (some ⟨g, 0, none⟩) (zs.length + 4) cap) (zs.length + 4) (u8s (zs ++ tail4))) (c : Nat) : Byt w.heap.size w (.slice (some ⟨g, zs.length, none⟩) 4 c) tail4 := by
  refine ⟨_, c, rfl, by decide, .inr ⟨g, zs.length, rfl, (h.lt g rfl).2, fun j hj => ?_⟩⟩
  rw [h.cellAt (zs.length + j) (by simp at hj; omega)]
  rw [show u8s (zs ++ tail4) = u8s zs ++ u8s tail4 by simp [u8s], List.getElem?_append_right (by simp), show zs.length + j - (u8s zs).length = j by simp]
  match j, hj with
  | 0, _ => rfl
  | 1, _ => rfl
  | 2, _ => rfl
  | 3, _ => rfl

set_option maxRecDepth 100000 in
set_option maxHeartbeats 2000000 in
theorem kept_any {base n₀ : Nat} {w : World} {v : Value} {zs : List UInt8} (h : Lent base w v zs) {sv : Value} (hB : Byt n₀ w sv zs) (hl : zs.length ≤ 1099511627776) :
    Calls Tryz.prog 16 #[v, sv] w fun e w' => e = .returned (.bool true) ∧ Below w.heap.size w w' := by
  have hbt := h.byt hl
  obtain ⟨g, cap, rfl, hg, hr⟩ := h
  have c1 : (convert 22 9 (.slice (some ⟨g, 0, none⟩) zs.length cap)).run Tryz.prog w.drew = .ok (.string ⟨zs.toArray⟩) w.drew := conv_byt (w := w.drew) hbt
  have c2 : (convert 22 9 sv).run Tryz.prog w.drew = .ok (.string ⟨zs.toArray⟩) w.drew := conv_byt (w := w.drew) hB
  have c3 : (convert 22 9 (.slice (some ⟨g, zs.length, none⟩) 4 (cap - zs.length))).run Tryz.prog w.drew = .ok (.string ⟨tail4.toArray⟩) w.drew := conv_byt (w := w.drew) (Lent.tail hr _)
  have c4 : (convert 22 9 (.slice (some ⟨g, zs.length, none⟩) 4 (cap - zs.length))).run Tryz.prog (w.alloc obj4).drew = .ok (.string ⟨tail4.toArray⟩) (w.alloc obj4).drew := conv_byt (w := (w.alloc obj4).drew) (Lent.tail (hr.alloc _) _)
  have c5 : (convert 22 9 (.slice (some ⟨w.heap.size, 0, none⟩) 4 4)).run Tryz.prog (w.alloc obj4).drew = .ok (.string ⟨tail4.toArray⟩) (w.alloc obj4).drew := conv_byt (w := (w.alloc obj4).drew) (byt_four w)
  obtain ⟨a, capb, rfl, _, _⟩ := hB
  have hcap : zs.length + 4 ≤ cap ∧ cap ≤ 9223372036854775807 := by
    rcases hr.2 with ⟨e, _⟩ | ⟨g', cap', cur, e, _, _, h1, h2, _⟩
    · cases e
    · cases e
      unfold maxLen at h2
      omega
  obtain ⟨hcap1, hcap2⟩ := hcap
  obtain ⟨n, hn⟩ : ∃ n, n = zs.length := ⟨_, rfl⟩
  rw [← hn] at c1 c2 c3 c4 hcap1 hl ⊢
  clear hn hr hbt hg
  have e1 : IntKind.i64.wrap ((n : Int) + 4) = (n : Int) + 4 := IntWalk.i64_in _ (by omega)
  have k0 : (0 : Int) ≤ (n : Int) := by omega
  have k1 : (n : Int) ≤ (n : Int) + 4 := by omega
  have k2 : (n : Int) + 4 ≤ (cap : Int) := by omega
  have k3 : ((n : Int) + 4).toNat = n + 4 := by omega
  have k4 : ¬ (cap = n) := by omega
  have k5 : n + 4 - n = 4 := by omega
  generalize hs1 : (⟨zs.toArray⟩ : ByteArray) = s1 at *
  generalize hs2 : (⟨tail4.toArray⟩ : ByteArray) = s2 at *
  clear hs1 hs2
  go_enter Tryz.func16, Tryz.ntmps16
  go_wp2_with fail
  go_region
  all_goals
    go_wp2
    go_ret
    exact ⟨rfl, below_undrew ((Below.refl w.heap.size w.drew).alloc (Nat.le_refl _) obj4)⟩

end Go.Proofs.YtbcfiafgolcbpaaGreatDoor

/- Codes and trees, plainly; contracts of the reference's code, begins (praxinoscoperef03) and Count, bit, Read (praxinoscoperef01). -/
namespace Go.Proofs.YtbcfiafgolcbpaaGreatDoor
open Go.RowKit Go.Shelf
set_option linter.unusedVariables false

theorem str_eq_iff (a b : ByteArray) : (a.toList == b.toList) = true ↔ a = b := by
  rw [ByteArray.toList_eq, ByteArray.toList_eq, beq_iff_eq]
  exact ⟨fun h => ByteArray.ext (Array.toList_inj.1 h), fun h => by rw [h]⟩
/-- a text of 1 to 24 bits -/
def codeB (s : ByteArray) : Bool := allB s && decide (1 ≤ s.size) && decide (s.size ≤ 24)
/-- does a text begin with another one, or is it that? -/
def begins (s t : ByteArray) : Bool := decide (t.data.toList <+: s.data.toList)
theorem begins_le {s t : ByteArray} (h : t.size ≤ s.size) : begins s t = decide (s.extract 0 t.size = t) := by
  unfold begins
  apply decide_eq_decide.2
  have h1 : t.data.toList.length = t.size := by simp
  rw [List.prefix_iff_eq_take, h1]
  constructor
  · intro e
    apply ByteArray.ext
    apply Array.toList_inj.1
    rw [e]
    simp
  · intro e
    have := congrArg (fun x : ByteArray => x.data.toList) e
    simpa using this.symm
theorem begins_lt {s t : ByteArray} (h : ¬ t.size ≤ s.size) : begins s t = false := by
  unfold begins
  apply decide_eq_false
  intro hp
  have := hp.length_le
  simp at this
  omega

set_option maxRecDepth 100000 in
set_option maxHeartbeats 1000000 in
theorem tcode_any (s : ByteArray) (w : World) (hsz : s.size ≤ 9223372036854775807) :
    Calls Tryz.prog 112 #[.string s] w fun e w' => e = .returned (.bool (codeB s)) ∧ w = w' := by
  by_cases hs : AllBits s
  · have HS := Lib.hid hs
    have HE : Hid (codeB s = (decide (1 ≤ s.size) && decide (s.size ≤ 24))) := by
      show codeB s = _
      unfold codeB; rw [(allB_iff s).2 hs]; rfl
    clear hs
    go_enter Tryz.func112, Tryz.ntmps112
    go_wp2
    go_loop [3] (fun i => ∃ t : Nat, t ≤ s.size ∧ i = .int .i64 t) (fun i => s.size - (intOf i).toNat)
    case atStart => exact ⟨0, Nat.zero_le _, rfl⟩
    case round =>
      obtain ⟨t, ht, rfl⟩ := hrel
      by_cases hts : t < s.size
      · rcases HS.out t hts with h | h
        · have e1 : ((s[t].toNat : Int) != 48) = false := by rw [h]; rfl
          go_wp2
          go_round
          case rel => exact ⟨t + 1, by omega, by go_num⟩
          case measure => simp [intOf]; omega
        · have e1 : ((s[t].toNat : Int) != 48) = true := by rw [h]; rfl
          have e2 : ((s[t].toNat : Int) != 49) = false := by rw [h]; rfl
          go_wp2
          go_round
          case rel => exact ⟨t + 1, by omega, by go_num⟩
          case measure => simp [intOf]; omega
      · have htn : t = s.size := by omega
        subst t
        by_cases h1 : 1 ≤ s.size
        · have hE2 : Hid (codeB s = decide ((s.size : Int) ≤ 24)) := by
            show codeB s = _
            rw [HE.out, decide_eq_true h1, Bool.true_and]
            exact decide_eq_decide.2 (by omega)
          clear HE
          go_wp2
          go_ret
          exact ⟨ret_bool hE2.out.symm, rfl⟩
        · have hE2 : Hid (codeB s = false) := by
            show codeB s = _
            rw [HE.out, decide_eq_false h1, Bool.false_and]
          clear HE
          go_wp2
          go_ret
          exact ⟨ret_bool hE2.out.symm, rfl⟩
  · have HE : Hid (codeB s = false) := by
      show codeB s = false
      unfold codeB
      rw [show allB s = false by rw [Bool.eq_false_iff]; exact fun e => hs ((allB_iff s).1 e)]
      rfl
    obtain ⟨k, hk, hgd, hbad⟩ := first_bad s hs
    have HG := Lib.hid hgd
    clear hgd hs
    go_enter Tryz.func112, Tryz.ntmps112
    go_wp2
    go_loop [3] (fun i => ∃ t : Nat, t ≤ k ∧ i = .int .i64 t) (fun i => s.size - (intOf i).toNat)
    case atStart => exact ⟨0, Nat.zero_le _, rfl⟩
    case round =>
      obtain ⟨t, ht, rfl⟩ := hrel
      by_cases hlt : t < k
      · have hts : t < s.size := by omega
        rcases HG.out t hts hlt with h | h
        · have e1 : ((s[t].toNat : Int) != 48) = false := by rw [h]; rfl
          go_wp2
          go_round
          case rel => exact ⟨t + 1, by omega, by go_num⟩
          case measure => simp [intOf]; omega
        · have e1 : ((s[t].toNat : Int) != 48) = true := by rw [h]; rfl
          have e2 : ((s[t].toNat : Int) != 49) = false := by rw [h]; rfl
          go_wp2
          go_round
          case rel => exact ⟨t + 1, by omega, by go_num⟩
          case measure => simp [intOf]; omega
      · obtain rfl : t = k := by omega
        have e1 : ((s[t].toNat : Int) != 48) = true := by
          simp only [bne_iff_ne]; intro e; apply hbad; left; apply UInt8.toNat_inj.1; show s[t].toNat = 48; omega
        have e2 : ((s[t].toNat : Int) != 49) = true := by
          simp only [bne_iff_ne]; intro e; apply hbad; right; apply UInt8.toNat_inj.1; show s[t].toNat = 49; omega
        clear hbad
        go_wp2
        go_ret
        exact ⟨ret_bool HE.out.symm, rfl⟩

set_option maxHeartbeats 1000000 in
theorem tbegins_any (s t : ByteArray) (w : World) :
    Calls Tryz.prog 113 #[.string s, .string t] w fun e w' => e = .returned (.bool (begins s t)) ∧ w = w' := by
  by_cases h : t.size ≤ s.size
  · go_enter Tryz.func113, Tryz.ntmps113
    go_wp2
    go_ret
    refine ⟨ret_bool ?_, rfl⟩
    rw [begins_le h]
    rw [Bool.eq_iff_iff, decide_eq_true_eq]
    exact str_eq_iff _ _
  · go_enter Tryz.func113, Tryz.ntmps113
    go_wp2
    go_ret
    exact ⟨ret_bool (begins_lt h).symm, rfl⟩

theorem rcount_any {n₀ : Nat} {w : World} {sv : Value} {zs : List UInt8} (hB : Byt n₀ w sv zs) :
    Calls Tryz.prog 56 #[sv] w fun e w' => e = .returned (.int .i64 (8 * (zs.length : Int))) ∧ w = w' := by
  obtain ⟨a, cap, rfl, hl, _⟩ := hB
  go_enter Tryz.func56, Tryz.ntmps56
  go_wp2
  go_ret
  exact ⟨rfl, rfl⟩

theorem rbit_at (b off len cap : Nat) (zs : List UInt8) (k : Nat) (w : World) (h1 : k < 8 * len) (hl : len ≤ 1152921504606846975)
    (hc : w.cell? ⟨b, off + k / 8, none⟩ = some (.int .u8 ((zs[k / 8]?.getD 0).toNat))) :
    Calls Tryz.prog 57 #[.slice (some ⟨b, off, none⟩) len cap, .int .i64 k] w fun e w' => e = .returned (.int .i64 (bt zs k)) ∧ w = w' := by
  go_enter Tryz.func57, Tryz.ntmps57
  go_wp2
  go_ret
  exact ⟨ret_int (rem_bt zs k), rfl⟩
theorem rbit_any {n₀ : Nat} {w : World} {sv : Value} {zs : List UInt8} (hB : Byt n₀ w sv zs) (i : Int) (k : Nat) (hi : i = k) (h : k < 8 * zs.length) :
    Calls Tryz.prog 57 #[sv, .int .i64 i] w fun e w' => e = .returned (.int .i64 (bt zs k)) ∧ w = w' := by
  subst hi
  obtain ⟨a, cap, rfl, hl, hz⟩ := hB
  rcases hz with rfl | ⟨b, off, rfl, _, hc⟩
  · simp at h
  · exact rbit_at b off zs.length cap zs k w h hl (hc _ (by omega))

set_option maxRecDepth 100000 in
set_option maxHeartbeats 1000000 in
theorem rread1_any {n₀ : Nat} {w : World} {sv : Value} {zs : List UInt8} (hB : Byt n₀ w sv zs) (i : Int) (k : Nat) (hi : i = k) (h : k < 8 * zs.length) (hl : zs.length ≤ 1099511627776) :
    Calls Tryz.prog 37 #[sv, .int .i64 i, .int .i64 1] w fun e w' => e = .returned (.tuple #[.int .i64 (bt zs k), .int .i64 0]) ∧ w = w' := by
  subst hi
  have HC := Lib.hid (rcount_any hB)
  have HB := Lib.hid (rbit_any hB (k : Int) k rfl h)
  have hbt : bt zs k < 2 := by unfold bt; exact Nat.mod_lt _ (by omega)
  obtain ⟨a, cap, rfl, hl', _⟩ := hB
  generalize bt zs k = v at *
  go_enter Tryz.func37, Tryz.ntmps37
  go_wp2_with (go_at_call 56; refine HC.out.mono ?_; rintro e w' ⟨rfl, rfl⟩)
  go_loop [8, 9] (fun x i => (x = .int .i64 0 ∧ i = .int .i64 0) ∨ (x = .int .i64 v ∧ i = .int .i64 1)) (fun _ i => 1 - (intOf i).toNat)
  case atStart => exact .inl ⟨rfl, rfl⟩
  case round =>
    rcases hrel with ⟨rfl, rfl⟩ | ⟨rfl, rfl⟩
    · go_wp2_with fail
      refine HB.out.mono ?_
      rintro e w' ⟨rfl, rfl⟩
      go_wp2
      go_round
      case rel => exact .inr ⟨by go_num, rfl⟩
      case measure => simp [intOf]
    · go_wp2
      go_ret2
      exact ⟨rfl, rfl⟩

end Go.Proofs.YtbcfiafgolcbpaaGreatDoor

/- The reference's tree (praxinoscoperef03.Tree): what it holds; contracts of its Put and Get. -/
namespace Go.Proofs.YtbcfiafgolcbpaaGreatDoor
open Go.RowKit Go.Shelf
set_option linter.unusedVariables false

abbrev strV (xs : List ByteArray) : List Value := xs.map fun s => Value.string s
abbrev intV (xs : List Int) : List Value := xs.map fun n => Value.int .i64 n
abbrev tCells (vc vn : Value) : Obj := .cells #[vc, vn] 144 (0, 0)
/-- the reference's tree in block b: its codes and their numbers -/
def IsT (n₀ : Nat) (w : World) (b : Nat) (codes : List ByteArray) (nums : List Int) : Prop :=
  ∃ vc vn, n₀ ≤ b ∧ w.heap[b]? = some (tCells vc vn) ∧ w.ownsRow n₀ 9 1 vc codes.length (strV codes) ∧ w.ownsRow n₀ 3 1 vn nums.length (intV nums) ∧ nums.length = codes.length ∧ codes.length ≤ 300
theorem IsT.lt {n₀ : Nat} {w : World} {b : Nat} {codes : List ByteArray} {nums : List Int} (h : IsT n₀ w b codes nums) : b < w.heap.size := by
  obtain ⟨_, _, _, hb, _⟩ := h
  exact (Array.getElem?_eq_some_iff.1 hb).1
theorem IsT.later {n₀ : Nat} {w w' : World} {b : Nat} {codes : List ByteArray} {nums : List Int} (h : IsT n₀ w b codes nums) (hb : Below w.heap.size w w') : IsT n₀ w' b codes nums := by
  have hlt := h.lt
  obtain ⟨vc, vn, h1, h2, h3, h4, h5⟩ := h
  exact ⟨vc, vn, h1, (hb.block b hlt).trans h2, ownsRow_bar h3 (bar_of_below (S := fun _ => False) hb) (fun _ _ e => e), ownsRow_bar h4 (bar_of_below (S := fun _ => False) hb) (fun _ _ e => e), h5⟩
theorem t_cells {w : World} {b : Nat} {vc vn : Value} (h : w.heap[b]? = some (tCells vc vn)) : w.cell? ⟨b, 0, none⟩ = some vc ∧ w.cell? ⟨b, 1, none⟩ = some vn := by
  simp [World.cell?, h, tCells]
/-- a row that is not empty lies in a block, cell by cell -/
theorem row_cells {w : World} {base n j : Nat} {e : TypeId} {v : Value} {xs : List Value} (h : w.ownsRow base e 1 v n xs) (hj : j < n) : ∃ g cap, v = .slice (some ⟨g, 0, none⟩) n cap ∧ g < w.heap.size ∧ n ≤ cap ∧ ∀ i u, i < n → xs[i]? = some u → w.cell? ⟨g, i, none⟩ = some u := by
  rcases id h.2 with ⟨rfl, h0⟩ | ⟨g, cap, cur, rfl, _, hg, hc, _⟩
  · omega
  · exact ⟨g, cap, rfl, (Array.getElem?_eq_some_iff.1 hg).1, hc, fun i u hi hu => by rw [h.cellAt i (by omega), hu]⟩

/-! ### Put -/
def putI (nums : List Int) (x : Int) : Option Nat := nums.findIdx? (fun n => n == x)
def putS (codes : List ByteArray) (nums : List Int) (x : Int) : ByteArray := match putI nums x with | some i => codes[i]?.getD ⟨#[]⟩ | none => ⟨#[]⟩
def putE3 (nums : List Int) (x : Int) : Int := match putI nums x with | some _ => 0 | none => 18

/-! ### Get -/
/-- the bits from a place on, as a text: so many of them -/
def seenL (zs : List UInt8) (at_ n : Nat) : List UInt8 := (List.range n).map fun k => UInt8.ofNat (48 + bt zs (at_ + k))
def seenB (zs : List UInt8) (at_ n : Nat) : ByteArray := ⟨(seenL zs at_ n).toArray⟩
/-- how many bits are looked at -/
def seenN (zs : List UInt8) (at_ : Nat) : Nat := min 24 (8 * zs.length - at_)
def getI (codes : List ByteArray) (s : ByteArray) : Option Nat := codes.findIdx? (fun c => begins s c)
def getMore (codes : List ByteArray) (s : ByteArray) : Bool := codes.any (fun c => begins c s)
def getX (codes : List ByteArray) (nums : List Int) (s : ByteArray) : Int := match getI codes s with | some i => nums[i]?.getD 0 | none => 0
def getN (codes : List ByteArray) (s : ByteArray) : Int := match getI codes s with | some i => (codes[i]?.getD ⟨#[]⟩).size | none => 0
def getE3 (codes : List ByteArray) (s : ByteArray) : Int := match getI codes s with | some _ => 0 | none => if getMore codes s then 5 else 7
/-- what Get answers -/
def getT (codes : List ByteArray) (nums : List Int) (zs : List UInt8) (at_ : Int) : Value :=
  if at_ < 0 then .tuple #[.int .i64 0, .int .i64 0, .int .i64 3]
  else .tuple #[.int .i64 (getX codes nums (seenB zs at_.toNat (seenN zs at_.toNat))), .int .i64 (getN codes (seenB zs at_.toNat (seenN zs at_.toNat))), .int .i64 (getE3 codes (seenB zs at_.toNat (seenN zs at_.toNat)))]
theorem seenB_size (zs : List UInt8) (a n : Nat) : (seenB zs a n).size = n := by
  show (seenL zs a n).toArray.size = n
  simp [seenL]
theorem seenB_succ (zs : List UInt8) (a n : Nat) : seenB zs a n ++ ⟨#[UInt8.ofNat (48 + bt zs (a + n))]⟩ = seenB zs a (n + 1) := by
  apply ByteArray.ext
  apply Array.toList_inj.1
  simp [seenB, seenL, List.range_succ]

end Go.Proofs.YtbcfiafgolcbpaaGreatDoor

/- The contract of the reference tree's Get. -/
namespace Go.Proofs.YtbcfiafgolcbpaaGreatDoor
open Go.RowKit Go.Shelf
set_option linter.unusedVariables false

theorem conv_one (w : World) (z : UInt8) : (convert 22 9 (.slice (some ⟨w.heap.size, 0, none⟩) 1 1)).run Tryz.prog (w.alloc (.cells #[.int .u8 z.toNat] 5 (0, 0))) = .ok (.string ⟨#[z]⟩) (w.alloc (.cells #[.int .u8 z.toNat] 5 (0, 0))) := by
  have hB : Byt (w.heap.size + 1) (w.alloc (.cells #[.int .u8 z.toNat] 5 (0, 0))) (.slice (some ⟨w.heap.size, 0, none⟩) 1 1) [z] := by
    refine ⟨_, 1, rfl, by simp, .inr ⟨w.heap.size, 0, rfl, by omega, fun j hj => ?_⟩⟩
    have h := World.alloc_heap_new w (.cells #[.int .u8 z.toNat] 5 (0, 0))
    generalize w.alloc (.cells #[.int .u8 z.toNat] 5 (0, 0)) = w' at h ⊢
    simp at hj
    subst hj
    simp [World.cell?, h]
  exact conv_byt hB

def strLen : Value → Nat | .string b => b.size | _ => 0

theorem getI_some {codes : List ByteArray} {s : ByteArray} {k : Nat} (hk : k < codes.length) (hb : begins s (codes[k]?.getD ⟨#[]⟩) = true) (hno : ∀ j, j < k → begins s (codes[j]?.getD ⟨#[]⟩) = false) : getI codes s = some k := by
  unfold getI
  rw [List.findIdx?_eq_some_iff_getElem]
  refine ⟨hk, by simpa [hk] using hb, fun j hj => ?_⟩
  have := hno j hj
  simpa [show j < codes.length by omega] using this
theorem getI_none {codes : List ByteArray} {s : ByteArray} (hno : ∀ j, j < codes.length → begins s (codes[j]?.getD ⟨#[]⟩) = false) : getI codes s = none := by
  unfold getI
  rw [List.findIdx?_eq_none_iff]
  intro y hy
  obtain ⟨j, hj, rfl⟩ := List.getElem_of_mem hy
  have := hno j hj
  simpa [hj] using this
theorem getMore_true {codes : List ByteArray} {s : ByteArray} {k : Nat} (hk : k < codes.length) (hb : begins (codes[k]?.getD ⟨#[]⟩) s = true) : getMore codes s = true := by
  unfold getMore
  rw [List.any_eq_true]
  exact ⟨codes[k], List.getElem_mem _, by simpa [hk] using hb⟩
theorem getMore_false {codes : List ByteArray} {s : ByteArray} (hno : ∀ j, j < codes.length → begins (codes[j]?.getD ⟨#[]⟩) s = false) : getMore codes s = false := by
  unfold getMore
  rw [List.any_eq_false]
  intro y hy
  obtain ⟨j, hj, rfl⟩ := List.getElem_of_mem hy
  have := hno j hj
  simpa [hj] using this

set_option maxRecDepth 100000 in
set_option maxHeartbeats 2000000 in
theorem tget_any {n₀ n₁ : Nat} {w : World} {b : Nat} {codes : List ByteArray} {nums : List Int} (h : IsT n₀ w b codes nums) {sv : Value} {zs : List UInt8} (hB : Byt n₁ w sv zs) (hn₁ : n₁ ≤ w.heap.size) (hl : zs.length ≤ 1099511627776) (x : Int) (hx : x ≤ 9223372036854775807) :
    Calls Tryz.prog 86 #[.pointer (some ⟨b, 0, none⟩), sv, .int .i64 x] w fun e w' => e = .returned (getT codes nums zs x) ∧ Below w.heap.size w w' := by
  by_cases h0 : x < 0
  · have HG : Hid (getT codes nums zs x = .tuple #[.int .i64 0, .int .i64 0, .int .i64 3]) := by show getT codes nums zs x = _; unfold getT; rw [if_pos h0]
    clear h hB
    go_enter Tryz.func86, Tryz.ntmps86
    go_wp2
    go_ret3
    exact ⟨by rw [HG.out]; rfl, Below.refl _ _⟩
  obtain ⟨A, rfl⟩ := Int.eq_ofNat_of_zero_le (a := x) (by omega)
  obtain ⟨S, hS⟩ : ∃ S, S = seenB zs A (seenN zs A) := ⟨_, rfl⟩
  have HG : Hid (getT codes nums zs (A : Int) = .tuple #[.int .i64 (getX codes nums S), .int .i64 (getN codes S), .int .i64 (getE3 codes S)]) := by
    show getT codes nums zs (A : Int) = _
    unfold getT
    rw [if_neg (by omega), Int.toNat_natCast, hS]
  have HT := Lib.hid h
  have HBy := Lib.hid (fun w' (hb : Below w.heap.size w w') => hB.below (hb.mono hn₁))
  obtain ⟨a, cap, rfl, hl', _⟩ := hB
  clear h
  go_enter Tryz.func86, Tryz.ntmps86
  go_wp2_with fail
  go_loopw [9, 10, 11] (fun s _ _ wr => ∃ n : Nat, s = .string (seenB zs A n) ∧ n ≤ seenN zs A ∧ Below w.heap.size w wr) (fun s _ _ _ => 24 - strLen s)
  case atStart => exact ⟨0, rfl, by omega, Below.refl _ _⟩
  case round =>
    obtain ⟨n, rfl, hn, hB⟩ := hrel
    have hsz := seenB_size zs A n
    have HSu := Lib.hid (seenB_succ zs A n)
    have hBt : bt zs (A + n) < 2 := by unfold bt; exact Nat.mod_lt _ (by omega)
    have HBw := Lib.hid hB
    by_cases hlt : n < seenN zs A
    · have hn24 : n < 24 ∧ A + n < 8 * zs.length := by unfold seenN at hlt; omega
      obtain ⟨hn24, hAn⟩ := hn24
      have HRd := Lib.hid (fun (i : Int) (hi : i = ((A + n : Nat) : Int)) => rread1_any (HBy.out _ hB) i (A + n) hi hAn hl)
      have HC := Lib.hid (rcount_any (HBy.out _ hB))
      have HN1 : Hid (n + 1 ≤ seenN zs A) := hlt
      generalize hs : seenB zs A n = s at *
      have HS := Lib.hid hs
      clear hs hB hn hlt
      obtain hv | hv : bt zs (A + n) = 0 ∨ bt zs (A + n) = 1 := by omega
      · rw [hv] at HRd HSu
        have c1 : (convert 22 9 (.slice (some ⟨wr.heap.size, 0, none⟩) 1 1)).run Tryz.prog (wr.alloc (.cells #[.int .u8 48] 5 (0, 0))) = .ok (.string ⟨#[48]⟩) (wr.alloc (.cells #[.int .u8 48] 5 (0, 0))) := conv_one wr 48
        clear hv hBt
        go_wp2_with fail
        refine HC.out.mono ?_
        rintro e w' ⟨rfl, rfl⟩
        go_wp2_with fail
        refine (HRd.out _ (by omega)).mono ?_
        rintro e w' ⟨rfl, rfl⟩
        go_wp2
        go_roundw
        case rel => exact ⟨n + 1, by rw [← HSu.out]; rfl, HN1.out, HBw.out.alloc HBw.out.size _⟩
        case measure =>
          show 24 - (s ++ (⟨#[48]⟩ : ByteArray)).size < 24 - s.size
          rw [ByteArray.size_append, hsz]
          show 24 - (n + 1) < 24 - n
          omega
      · rw [hv] at HRd HSu
        have c1 : (convert 22 9 (.slice (some ⟨wr.heap.size, 0, none⟩) 1 1)).run Tryz.prog (wr.alloc (.cells #[.int .u8 49] 5 (0, 0))) = .ok (.string ⟨#[49]⟩) (wr.alloc (.cells #[.int .u8 49] 5 (0, 0))) := conv_one wr 49
        clear hv hBt
        go_wp2_with fail
        refine HC.out.mono ?_
        rintro e w' ⟨rfl, rfl⟩
        go_wp2_with fail
        refine (HRd.out _ (by omega)).mono ?_
        rintro e w' ⟨rfl, rfl⟩
        go_wp2
        go_roundw
        case rel => exact ⟨n + 1, by rw [← HSu.out]; rfl, HN1.out, HBw.out.alloc HBw.out.size _⟩
        case measure =>
          show 24 - (s ++ (⟨#[49]⟩ : ByteArray)).size < 24 - s.size
          rw [ByteArray.size_append, hsz]
          show 24 - (n + 1) < 24 - n
          omega
    · have hne : n = seenN zs A := by omega
      have HC := Lib.hid (rcount_any (HBy.out _ hB))
      have HS2 : Hid (seenB zs A n = S) := by show seenB zs A n = S; rw [hne]; exact hS.symm
      have hex : ¬ (A + n < 8 * zs.length) ∨ (A + n < 8 * zs.length ∧ n = 24) := by unfold seenN at hne; omega
      rw [HS2.out] at hsz ⊢
      have HT' := Lib.hid (HT.out.later hB)
      have hn24 : n ≤ 24 := by unfold seenN at hn; omega
      have hAn : A + n ≤ 9223372036854775807 := by unfold seenN at hn; omega
      clear hB hlt HSu hBt hS hn hne
      have ht : decide ((A : Int) + (n : Int) < 8 * (zs.length : Int)) = false ∨ (decide ((A : Int) + (n : Int) < 8 * (zs.length : Int)) = true ∧ decide ((n : Int) < 24) = false) := by
        rcases hex with h | ⟨h, rfl⟩
        · left; simp; omega
        · right; simp; omega
      have hS24 : S.size ≤ 24 := by rw [hsz]; omega
      clear hex
      obtain ⟨vc, vn, _, hbc, hc, hnn, hlen, h300⟩ := HT'.out
      obtain ⟨d0, d1⟩ := t_cells hbc
      obtain ⟨ac, cc, rfl⟩ := row_form hc
      obtain ⟨an, cn, rfl⟩ := row_form hnn
      have HCr := Lib.hid hc
      have HNr := Lib.hid hnn
      clear hbc hc hnn
      have HBg := fun (t : ByteArray) => Lib.hid (tbegins_any S t wr)
      have HBg2 := fun (t : ByteArray) => Lib.hid (tbegins_any t S wr)
      obtain ⟨wo, hwo⟩ : ∃ wo : World, wo = wr := ⟨_, rfl⟩
      subst hwo
      rcases ht with t1 | ⟨t1, t2⟩
      all_goals
        go_wp2_with fail
        refine HC.out.mono ?_
        rintro e w' ⟨rfl, rfl⟩
        go_wp2_with fail
        go_loop [12] (fun i => ∃ k : Nat, i = .int .i64 k ∧ k ≤ codes.length ∧ ∀ j, j < k → begins S (codes[j]?.getD ⟨#[]⟩) = false) (fun i => codes.length - (intOf i).toNat)
        case atStart => exact ⟨0, rfl, by omega, fun j hj => by omega⟩
        case round =>
          obtain ⟨k, rfl, hk, hno⟩ := hrel
          have HNo := Lib.hid hno
          clear hno
          by_cases hk2 : k < codes.length
          · obtain ⟨g1, cp1, e1, _, hcp1, hce⟩ := row_cells HCr.out hk2
            obtain ⟨g2, cp2, e2, _, hcp2, hne⟩ := row_cells HNr.out (j := k) (by omega)
            cases e1
            cases e2
            have x1 := hce k _ hk2 (show (strV codes)[k]? = some (.string (codes[k]?.getD ⟨#[]⟩)) by simp [hk2])
            have x2 := hne k _ (by omega) (show (intV nums)[k]? = some (.int .i64 (nums[k]?.getD 0)) by simp [show k < nums.length by omega])
            have hk3 : k < nums.length := by omega
            have q1 : (k : Int) < (codes.length : Int) := by omega
            have q2 : (0 : Int) ≤ (k : Int) := by omega
            have q3 : (k : Int) < (nums.length : Int) := by omega
            clear hce hne
            by_cases hb : begins S (codes[k]?.getD ⟨#[]⟩) = true
            · have hI := getI_some hk2 hb HNo.out
              have HX : Hid (getX codes nums S = nums[k]?.getD 0) := by show getX codes nums S = _; unfold getX; rw [hI]
              have HN : Hid (getN codes S = (codes[k]?.getD ⟨#[]⟩).size) := by show getN codes S = _; unfold getN; rw [hI]
              have HE : Hid (getE3 codes S = 0) := by show getE3 codes S = _; unfold getE3; rw [hI]
              generalize codes[k]?.getD ⟨#[]⟩ = t at *
              generalize nums[k]?.getD 0 = y at *
              have HBt := HBg t
              rw [hb] at HBt
              clear hI hb HBg HBg2
              go_wp2_with fail
              refine HBt.out.mono ?_
              rintro e w' ⟨rfl, rfl⟩
              go_wp2_with fail
              go_quiet (fail)
              go_wp2
              go_ret3
              exact ⟨by rw [HG.out, HX.out, HN.out, HE.out]; rfl, HBw.out.trans (below_drewN _ _ _)⟩
            · have hb' : begins S (codes[k]?.getD ⟨#[]⟩) = false := by simpa using hb
              have HBt := HBg (codes[k]?.getD ⟨#[]⟩)
              rw [hb'] at HBt
              have HB' := Lib.hid hb'
              generalize hcd : codes[k]?.getD ⟨#[]⟩ = t at *
              have HCd := Lib.hid hcd
              clear hb hb' hcd HBg HBg2
              go_wp2_with fail
              refine HBt.out.mono ?_
              rintro e w' ⟨rfl, rfl⟩
              go_wp2
              go_round
              case rel => exact ⟨k + 1, by go_num, by omega, fun j hj => by
                by_cases e : j = k
                · subst e; rw [HCd.out]; exact HB'.out
                · exact HNo.out j (by omega)⟩
              case measure => simp [intOf]; omega
          · have hkn : k = codes.length := by omega
            subst k
            have hI := getI_none HNo.out
            have HX : Hid (getX codes nums S = 0) := by show getX codes nums S = _; unfold getX; rw [hI]
            have HN : Hid (getN codes S = 0) := by show getN codes S = _; unfold getN; rw [hI]
            have HE : Hid (getE3 codes S = if getMore codes S then 5 else 7) := by show getE3 codes S = _; unfold getE3; rw [hI]
            clear hI HBg
            go_wp2_with fail
            go_loop [13] (fun i => ∃ k : Nat, i = .int .i64 k ∧ k ≤ codes.length ∧ ∀ j, j < k → begins (codes[j]?.getD ⟨#[]⟩) S = false) (fun i => codes.length - (intOf i).toNat)
            case atStart => exact ⟨0, rfl, by omega, fun j hj => by omega⟩
            case round =>
              obtain ⟨k, rfl, hk, hno⟩ := hrel
              have HNo2 := Lib.hid hno
              clear hno
              by_cases hk2 : k < codes.length
              · obtain ⟨g1, cp1, e1, _, hcp1, hce⟩ := row_cells HCr.out hk2
                cases e1
                have x1 := hce k _ hk2 (show (strV codes)[k]? = some (.string (codes[k]?.getD ⟨#[]⟩)) by simp [hk2])
                clear hce
                by_cases hb : begins (codes[k]?.getD ⟨#[]⟩) S = true
                · have HM := Lib.hid (getMore_true hk2 hb)
                  have HBt := HBg2 (codes[k]?.getD ⟨#[]⟩)
                  rw [hb] at HBt
                  generalize codes[k]?.getD ⟨#[]⟩ = t at *
                  clear hb HBg2
                  go_wp2_with fail
                  refine HBt.out.mono ?_
                  rintro e w' ⟨rfl, rfl⟩
                  go_wp2
                  go_ret3
                  exact ⟨by rw [HG.out, HX.out, HN.out, HE.out, HM.out]; rfl, HBw.out⟩
                · have hb' : begins (codes[k]?.getD ⟨#[]⟩) S = false := by simpa using hb
                  have HBt := HBg2 (codes[k]?.getD ⟨#[]⟩)
                  rw [hb'] at HBt
                  have HB' := Lib.hid hb'
                  generalize hcd : codes[k]?.getD ⟨#[]⟩ = t at *
                  have HCd := Lib.hid hcd
                  clear hb hb' hcd HBg2
                  go_wp2_with fail
                  refine HBt.out.mono ?_
                  rintro e w' ⟨rfl, rfl⟩
                  go_wp2
                  go_round
                  case rel => exact ⟨k + 1, by go_num, by omega, fun j hj => by
                    by_cases e : j = k
                    · subst e; rw [HCd.out]; exact HB'.out
                    · exact HNo2.out j (by omega)⟩
                  case measure => simp [intOf]; omega
              · have hkn : k = codes.length := by omega
                subst k
                have HM := Lib.hid (getMore_false HNo2.out)
                clear HBg2
                go_wp2
                go_ret3
                exact ⟨by rw [HG.out, HX.out, HN.out, HE.out, HM.out]; rfl, HBw.out⟩

end Go.Proofs.YtbcfiafgolcbpaaGreatDoor

/- Append of one-cell elements of any type to a row that the call owns, from whatever slice; rows of values that came in. -/
namespace Go.Proofs.YtbcfiafgolcbpaaGreatDoor
open Go.RowKit Go.Shelf
set_option linter.unusedVariables false

/-- a slice whose cells are known, in a block below n₀ -/
def RowV (n₀ : Nat) (w : World) (a : Option Addr) (len cap : Nat) (vs : List Value) : Prop :=
  vs.length = len ∧ len ≤ cap ∧ cap ≤ 9223372036854775807 ∧ (cap = 0 ∨ ∃ b off, a = some ⟨b, off, none⟩ ∧ b < n₀ ∧ ∀ j u, vs[j]? = some u → w.cell? ⟨b, off + j, none⟩ = some u)
theorem RowV.below {n₀ : Nat} {w w' : World} {a : Option Addr} {len cap : Nat} {vs : List Value} (h : RowV n₀ w a len cap vs) (hb : Below n₀ w w') : RowV n₀ w' a len cap vs := by
  obtain ⟨h1, h2, h3, h4⟩ := h
  exact ⟨h1, h2, h3, h4.imp id fun ⟨b, off, e, hlt, hc⟩ => ⟨b, off, e, hlt, fun j u hu => (hb.cell (p := ⟨b, off + j, none⟩) hlt).trans (hc j u hu)⟩⟩
theorem RowV.src {n₀ : Nat} {w : World} {a : Option Addr} {len cap : Nat} {vs : List Value} (h : RowV n₀ w a len cap vs) : Src w a len vs := by
  obtain ⟨h1, h2, h3, h4⟩ := h
  refine ⟨h1, ?_⟩
  rcases h4 with rfl | ⟨b, off, rfl, _, hc⟩
  · left; omega
  · right
    refine ⟨_, rfl, fun j u hu => ?_⟩
    have hadd : (⟨b, off, none⟩ : Addr).add j = ⟨b, off + j, none⟩ := by unfold Addr.add; split <;> simp_all
    rw [hadd]
    exact hc j u hu
theorem RowV.nocap {n₀ : Nat} {w : World} {a : Option Addr} {len cap : Nat} {vs : List Value} (h : RowV n₀ w a len cap vs) : a = none → cap = 0 := by
  rcases h.2.2.2 with h | ⟨b, off, rfl, _⟩
  · exact fun _ => h
  · exact fun e => by cases e
theorem RowV.cells {n₀ : Nat} {w : World} {a : Option Addr} {len cap : Nat} {vs : List Value} (h : RowV n₀ w a len cap vs) (h0 : 0 < len) : ∃ b off, a = some ⟨b, off, none⟩ ∧ b < n₀ ∧ ∀ j u, vs[j]? = some u → w.cell? ⟨b, off + j, none⟩ = some u := by
  rcases h.2.2.2 with h' | h'
  · have := h.2.1; omega
  · exact h'

/-- what an append leaves -/
def AppendedV (e : TypeId) (w w' : World) (base : Nat) (v v' : Value) (n : Nat) (xs : List Value) : Prop :=
  w'.ownsRow base e 1 v' n xs ∧ w.grownBy w' v.ownBlock ∧ ∀ k, v'.ownBlock = some k → v.ownBlock = some k ∨ w.heap.size ≤ k

theorem run_append_v {w : World} (t e : TypeId) (i : TypeInfo) (z : Value) (by_ : Nat) (ht : Tryz.prog.underlying t = some (.slice e)) (hi : Tryz.prog.info? e = some i) (hz0 : i.zero = some z) (hz1 : i.size = 1) (hz2 : i.bytes = by_) (hzc : z.cells.size = 1)
    (base : Nat) (v : Value) (n : Nat) (xs : List Value) (hown : w.ownsRow base e 1 v n xs) (A : Option Addr) (m c : Nat) (news : List Value) (hs : Src w A m news) (hnc : A = none → c = 0)
    (h1 : ∀ u ∈ news, u.oneCell' = true) (hfit : (n + m) * by_ ≤ 140737488355328) (hfit2 : n + m ≤ 140737488355328) (hbase : base ≤ w.heap.size) (ty : TypeId) :
    ∃ v' w', (Builtin.append_ #[t, t] ty #[v, .slice A m c]).run Tryz.prog w = .ok v' w' ∧ AppendedV e w w' base v v' (n + m) (xs ++ news) := by
  cases A with
  | none =>
    have hm : m = 0 := by
      rcases hs.2 with h | ⟨ad, e, _⟩
      · exact h
      · cases e
    subst hm
    have hn : news = [] := List.eq_nil_of_length_eq_zero hs.1
    subst hn
    obtain rfl := hnc rfl
    exact ⟨v, w, run_append_owned_none w base t ty e i 1 ht hi v n xs hown, by simpa using hown, World.grownBy.refl w _, fun k hk => .inl hk⟩
  | some ad =>
    obtain ⟨v', w', hr, h2, h3, _⟩ := run_append_own (P := Tryz.prog) w base t ty e i z 1 by_ ht hi hz0 hz1 hz2 hzc (by decide) v n xs hown ad m c news (by rw [hs.1]; omega) hs.at_ h1 (by unfold maxLen; omega) hfit hbase
    exact ⟨v', w', hr, h2, h3, append_where w t ty e i z 1 by_ ht hi hz0 hz1 hz2 hzc (by decide) base v n xs hown ad m c news (by rw [hs.1]; omega) hs.at_ h1 (by unfold maxLen; omega) hfit hr⟩

theorem wp_append_v {w : World} {o : Oper} {a : Act} {K : Act → World → Prop} {Q : Exit → Act → World → Prop} (s x : Operand) (t e : TypeId) (i : TypeInfo) (z : Value) (by_ : Nat)
    (ho : o.op = .call { callee := .builtin .append, args := #[s, x], argTypes := #[t, t] }) (ht : Tryz.prog.underlying t = some (.slice e)) (hi : Tryz.prog.info? e = some i) (hz0 : i.zero = some z) (hz1 : i.size = 1) (hz2 : i.bytes = by_) (hzc : z.cells.size = 1)
    (base : Nat) (v : Value) (n : Nat) (xs : List Value) (hv : a.eval s = v) (hown : w.ownsRow base e 1 v n xs)
    (A : Option Addr) (m c : Nat) (news : List Value) (hx : a.eval x = .slice A m c) (hs : Src w A m news) (hnc : A = none → c = 0) (h1 : ∀ u ∈ news, u.oneCell' = true) (hfit : (n + m) * by_ ≤ 140737488355328) (hfit2 : n + m ≤ 140737488355328) (hbase : base ≤ w.heap.size)
    (h : ∀ v' w', AppendedV e w w' base v v' (n + m) (xs ++ news) → K (a.put o.dst v') w') : o.wp Tryz.prog a w K Q := by
  obtain ⟨v', w', hrun, hd⟩ := run_append_v (w := w) t e i z by_ ht hi hz0 hz1 hz2 hzc base v n xs hown A m c news hs hnc h1 hfit hfit2 hbase o.type
  unfold Oper.wp execOp
  simp only [ho, resolve, invoke, builtin, Sem.run_bind, Sem.run_pure, Result.andThen_ok, List.map_toArray, List.map_cons, List.map_nil, hv, hx, hrun]
  exact h v' w' hd
theorem wpList_append_v {w : World} {ops : Array Oper} {rest : List Oper} {o : Oper} {a : Act} {Q : Exit → Act → World → Prop} (hgd : o.guard = none) (s x : Operand) (t e : TypeId) (i : TypeInfo) (z : Value) (by_ : Nat)
    (ho : o.op = .call { callee := .builtin .append, args := #[s, x], argTypes := #[t, t] }) (ht : Tryz.prog.underlying t = some (.slice e)) (hi : Tryz.prog.info? e = some i) (hz0 : i.zero = some z) (hz1 : i.size = 1) (hz2 : i.bytes = by_) (hzc : z.cells.size = 1)
    (base : Nat) (v : Value) (n : Nat) (xs : List Value) (hv : a.eval s = v) (hown : w.ownsRow base e 1 v n xs)
    (A : Option Addr) (m c : Nat) (news : List Value) (hx : a.eval x = .slice A m c) (hs : Src w A m news) (hnc : A = none → c = 0) (h1 : ∀ u ∈ news, u.oneCell' = true) (hfit : (n + m) * by_ ≤ 140737488355328) (hfit2 : n + m ≤ 140737488355328) (hbase : base ≤ w.heap.size)
    (h : ∀ v' w', AppendedV e w w' base v v' (n + m) (xs ++ news) → wpList Tryz.prog ops Q rest (a.put o.dst v') w') : wpList Tryz.prog ops Q (o :: rest) a w :=
  wpList_plain hgd fun _ hK => wp_append_v s x t e i z by_ ho ht hi hz0 hz1 hz2 hzc base v n xs hv hown A m c news hx hs hnc h1 hfit hfit2 hbase fun v' w' hd => hK _ _ (h v' w' hd)

theorem Tryz.info9 : (Tryz.prog.info? 9).map (fun i => (i.zero, i.size, i.bytes)) = some (some (.string ⟨#[]⟩), 1, 16) := by kernel_rfl
theorem Tryz.underlying91x : Tryz.prog.underlying 91 = some (.slice 9) := by kernel_rfl
theorem strV_one {xs : List ByteArray} : ∀ u ∈ strV xs, u.oneCell' = true := by
  intro u hu; simp at hu; obtain ⟨z, _, rfl⟩ := hu; rfl
theorem intV_one {xs : List Int} : ∀ u ∈ intV xs, u.oneCell' = true := by
  intro u hu; simp at hu; obtain ⟨z, _, rfl⟩ := hu; rfl

end Go.Proofs.YtbcfiafgolcbpaaGreatDoor

/- The contract of the reference's Make (praxinoscoperef03). -/
namespace Go.Proofs.YtbcfiafgolcbpaaGreatDoor
open Go.RowKit Go.Shelf
set_option linter.unusedVariables false

/-- does a code begin another one, or are two the same? -/
def clashAt (codes : List ByteArray) (i k : Nat) : Bool := decide (i ≠ k) && begins (codes[i]?.getD ⟨#[]⟩) (codes[k]?.getD ⟨#[]⟩)
def clash (codes : List ByteArray) : Bool := (List.range codes.length).any fun i => (List.range codes.length).any fun k => clashAt codes i k
/-- what Make answers -/
def makeE (codes : List ByteArray) (nums : List Int) : Int :=
  if codes.length ≠ nums.length ∨ codes.length = 0 ∨ 300 < codes.length then 2
  else if codes.all codeB then (if clash codes then 14 else 0) else 2
theorem clash_true {codes : List ByteArray} {i k : Nat} (hi : i < codes.length) (hk : k < codes.length) (h : clashAt codes i k = true) : clash codes = true := by
  unfold clash
  rw [List.any_eq_true]
  refine ⟨i, by simpa using hi, ?_⟩
  rw [List.any_eq_true]
  exact ⟨k, by simpa using hk, h⟩
theorem clash_false {codes : List ByteArray} (h : ∀ i, i < codes.length → ∀ k, k < codes.length → clashAt codes i k = false) : clash codes = false := by
  unfold clash
  rw [List.any_eq_false]
  intro i hi
  rw [Bool.not_eq_true, List.any_eq_false]
  intro k hk
  rw [Bool.not_eq_true]
  exact h i (by simpa using hi) k (by simpa using hk)
theorem all_codes {codes : List ByteArray} (h : ∀ j, j < codes.length → codeB (codes[j]?.getD ⟨#[]⟩) = true) : codes.all codeB = true := by
  rw [List.all_eq_true]
  intro s hs
  obtain ⟨j, hj, rfl⟩ := List.getElem_of_mem hs
  simpa [hj] using h j hj
theorem not_all {codes : List ByteArray} {j : Nat} (hj : j < codes.length) (h : codeB (codes[j]?.getD ⟨#[]⟩) = false) : codes.all codeB = false := by
  rw [List.all_eq_false]
  exact ⟨codes[j], List.getElem_mem _, by simpa [hj] using h⟩

theorem below_undrew2' {n : Nat} {a b : World} (h : Below n a b) : Below n a b.drew := ⟨h.os, h.tape, h.output, h.size, h.block⟩
/-- what a call of a Make may leave -/
def Made3 (w w' : World) (e : Ending) (codes : List ByteArray) (nums : List Int) : Prop :=
  Below w.heap.size w w' ∧ ((makeE codes nums = 0 ∧ ∃ b, e = .returned (.tuple #[.pointer (some ⟨b, 0, none⟩), .int .i64 0]) ∧ IsT w.heap.size w' b codes nums) ∨
    (makeE codes nums ≠ 0 ∧ e = .returned (.tuple #[.pointer none, .int .i64 (makeE codes nums)])))

theorem Tryz.info3y : (Tryz.prog.info? 3).map (fun i => (i.zero, i.size, i.bytes)) = some (some (.int .i64 0), 1, 8) := by kernel_rfl
theorem Tryz.underlying38y : Tryz.prog.underlying 38 = some (.slice 3) := by kernel_rfl
theorem ownsRow_base {w : World} {base base' n : Nat} {e : TypeId} {v : Value} {xs : List Value} (h : w.ownsRow base e 1 v n xs) (hb : base' ≤ base) : w.ownsRow base' e 1 v n xs := by
  refine ⟨h.1, ?_⟩
  rcases h.2 with h | ⟨g, cap, cur, e, hg, r⟩
  · exact .inl h
  · exact .inr ⟨g, cap, cur, e, by omega, r⟩
theorem first_v {e t : TypeId} {w w1 : World} {n : Nat} {v1 : Value} {xs : List Value} (h : AppendedV e (w.alloc (.cells #[] t (0, 0))) w1 w.heap.size (.slice (some ⟨w.heap.size, 0, none⟩) 0 0) v1 (0 + n) ([] ++ xs)) :
    w1.ownsRow w.heap.size e 1 v1 n xs ∧ Below w.heap.size w w1 := by
  have hrow1 := h.1
  rw [Nat.zero_add, List.nil_append] at hrow1
  exact ⟨hrow1, ((Below.refl _ w).alloc (Nat.le_refl _) _).grown h.2.1 (by simp) (fun k e => by simp [Value.ownBlock] at e; omega)⟩

set_option maxRecDepth 100000 in
set_option maxHeartbeats 4000000 in
theorem tmake_any {w : World} {a a' : Option Addr} {len cap len' cap' : Nat} {codes : List ByteArray} {nums : List Int} (hC : RowV w.heap.size w a len cap (strV codes)) (hN : RowV w.heap.size w a' len' cap' (intV nums)) (hsz : ∀ s ∈ codes, s.size ≤ 9223372036854775807) :
    Calls Tryz.prog 85 #[.slice a len cap, .slice a' len' cap'] w fun e w' => Made3 w w' e codes nums := by
  have e1 : codes.length = len := by have := hC.1; simpa using this
  have e2 : nums.length = len' := by have := hN.1; simpa using this
  subst e1
  subst e2
  have hc1 := hC.2.1
  have hc2 := hC.2.2.1
  have hd1 := hN.2.1
  have hd2 := hN.2.2.1
  have HC := Lib.hid hC
  have HN := Lib.hid hN
  have HSz : Hid (∀ j, j < codes.length → (codes[j]?.getD ⟨#[]⟩).size ≤ 9223372036854775807) := fun j hj => by
    have := hsz codes[j] (List.getElem_mem _)
    simpa [hj] using this
  clear hC hN hsz
  by_cases hbad : codes.length ≠ nums.length ∨ codes.length = 0 ∨ 300 < codes.length
  · have HM : Hid (makeE codes nums = 2) := by show makeE codes nums = 2; unfold makeE; rw [if_pos hbad]
    have fin : Hid (∀ e, e = Ending.returned (.tuple #[.pointer none, .int .i64 2]) → Made3 w w e codes nums) := fun e he => ⟨Below.refl _ _, .inr ⟨by rw [HM.out]; decide, by rw [HM.out]; exact he⟩⟩
    by_cases h1 : codes.length = nums.length
    · by_cases h2 : codes.length = 0
      · have t1 : ((codes.length : Int) != (nums.length : Int)) = false := by rw [bne_eq_false_iff_eq]; omega
        have t2 : ((codes.length : Int) == 0) = true := by rw [beq_iff_eq]; omega
        clear hbad h1 h2
        go_enter Tryz.func85, Tryz.ntmps85
        go_wp2
        go_ret2
        exact fin.out _ rfl
      · have t1 : ((codes.length : Int) != (nums.length : Int)) = false := by rw [bne_eq_false_iff_eq]; omega
        have t2 : ((codes.length : Int) == 0) = false := by rw [beq_eq_false_iff_ne]; omega
        have t3 : decide (300 < (codes.length : Int)) = true := decide_eq_true (by omega)
        clear hbad h1 h2
        go_enter Tryz.func85, Tryz.ntmps85
        go_wp2
        go_ret2
        exact fin.out _ rfl
    · have t1 : ((codes.length : Int) != (nums.length : Int)) = true := by rw [bne_iff_ne]; omega
      clear hbad h1
      go_enter Tryz.func85, Tryz.ntmps85
      go_wp2
      go_ret2
      exact fin.out _ rfl
  have HM : Hid (makeE codes nums = if codes.all codeB then (if clash codes then 14 else 0) else 2) := by show makeE codes nums = _; unfold makeE; rw [if_neg hbad]
  have hle : codes.length = nums.length := by omega
  have h300 : codes.length ≤ 300 := by omega
  have h0 : 0 < codes.length := by omega
  obtain ⟨bc, oc, rfl, hbc, hcc⟩ := HC.out.cells h0
  have HCc : Hid (∀ w', Below w.heap.size w w' → ∀ j, j < codes.length → w'.cell? ⟨bc, oc + j, none⟩ = some (.string (codes[j]?.getD ⟨#[]⟩))) := fun w' hb j hj => (hb.cell (p := ⟨bc, oc + j, none⟩) hbc).trans (hcc j _ (by simp [hj]))
  clear hbad hcc
  have t1 : ((codes.length : Int) != (nums.length : Int)) = false := by rw [bne_eq_false_iff_eq]; omega
  have t2 : ((codes.length : Int) == 0) = false := by rw [beq_eq_false_iff_ne]; omega
  have t3 : decide (300 < (codes.length : Int)) = false := decide_eq_false (by omega)
  have HLe := Lib.hid hle
  clear hle
  go_enter Tryz.func85, Tryz.ntmps85
  go_wp2_with fail
  clear t1 t2 t3
  go_loop [6] (fun i => ∃ k : Nat, i = .int .i64 k ∧ k ≤ codes.length ∧ ∀ j, j < k → codeB (codes[j]?.getD ⟨#[]⟩) = true) (fun i => codes.length - (intOf i).toNat)
  case atStart => exact ⟨0, rfl, by omega, fun j hj => by omega⟩
  case round =>
    obtain ⟨k, rfl, hk, hall⟩ := hrel
    have HAll := Lib.hid hall
    clear hall
    by_cases hk2 : k < codes.length
    · have x1 := HCc.out w (Below.refl _ _) k hk2
      have HCo := Lib.hid (tcode_any (codes[k]?.getD ⟨#[]⟩) w (HSz.out k hk2))
      by_cases hcb : codeB (codes[k]?.getD ⟨#[]⟩) = true
      · rw [hcb] at HCo
        have HCb := Lib.hid hcb
        generalize hcd : codes[k]?.getD ⟨#[]⟩ = t at *
        have HCd := Lib.hid hcd
        clear hcb hcd
        go_wp2_with fail
        refine HCo.out.mono ?_
        rintro e w' ⟨rfl, rfl⟩
        go_wp2
        go_round
        case rel => exact ⟨k + 1, by go_num, by omega, fun j hj => by
          by_cases e : j = k
          · subst e; rw [HCd.out]; exact HCb.out
          · exact HAll.out j (by omega)⟩
        case measure => simp [intOf]; omega
      · have hcb' : codeB (codes[k]?.getD ⟨#[]⟩) = false := by simpa using hcb
        rw [hcb'] at HCo
        have HM2 : Hid (makeE codes nums = 2) := by show makeE codes nums = 2; rw [HM.out, not_all hk2 hcb']; rfl
        generalize codes[k]?.getD ⟨#[]⟩ = t at *
        clear hcb hcb'
        go_wp2_with fail
        refine HCo.out.mono ?_
        rintro e w' ⟨rfl, rfl⟩
        go_wp2
        go_ret2
        exact ⟨Below.refl _ _, .inr ⟨by rw [HM2.out]; decide, by rw [HM2.out]; rfl⟩⟩
    · have hkn : k = codes.length := by omega
      subst k
      have hM3 : makeE codes nums = if clash codes then 14 else 0 := by rw [HM.out, all_codes HAll.out]; rfl
      have HM3 := Lib.hid hM3
      clear HM HAll hM3
      go_wp2_with fail
      go_loopw [7, 8] (fun i _ wr => ∃ k : Nat, i = .int .i64 k ∧ k ≤ codes.length ∧ (∀ j, j < k → ∀ l, l < codes.length → clashAt codes j l = false) ∧ Below w.heap.size w wr) (fun i _ _ => codes.length - (intOf i).toNat)
      case atStart => exact ⟨0, rfl, by omega, fun j hj => by omega, Below.refl _ _⟩
      case round =>
        obtain ⟨i, rfl, hi, hno, hB⟩ := hrel
        have HNo := Lib.hid hno
        have HB := Lib.hid hB
        clear hno hB
        by_cases hi2 : i < codes.length
        · have hd0 : decide ((i : Int) < (codes.length : Int)) = true := decide_eq_true (by omega)
          go_wp2_with fail
          clear hd0
          go_loopw [8] (fun l wr => ∃ k : Nat, l = .int .i64 k ∧ k ≤ codes.length ∧ (∀ j, j < k → clashAt codes i j = false) ∧ Below w.heap.size w wr) (fun l _ => codes.length - (intOf l).toNat)
          case atStart => exact ⟨0, rfl, by omega, fun j hj => by omega, HB.out⟩
          case round =>
            obtain ⟨k, rfl, hk, hno2, hB2⟩ := hrel
            have HNo2 := Lib.hid hno2
            have HB2 := Lib.hid hB2
            clear hno2 hB2
            by_cases hk2 : k < codes.length
            · by_cases hik : i = k
              · have t1 : ((i : Int) != (k : Int)) = false := by rw [bne_eq_false_iff_eq]; omega
                have HCl : Hid (clashAt codes i k = false) := by show clashAt codes i k = false; unfold clashAt; rw [decide_eq_false (by omega), Bool.false_and]
                clear hik
                go_wp2_with fail
                go_quiet (fail)
                clear t1
                go_wp2
                go_roundw
                case rel => exact ⟨k + 1, by go_num, by omega, fun j hj => by
                  by_cases e : j = k
                  · rw [e]; exact HCl.out
                  · exact HNo2.out j (by omega), HB2.out.trans (below_drewN _ _ _)⟩
                case measure => simp [intOf]; omega
              · have t1 : ((i : Int) != (k : Int)) = true := by rw [bne_iff_ne]; omega
                have x1 := HCc.out _ HB2.out i hi2
                have x2 := HCc.out _ HB2.out k hk2
                have q1 : (i : Int) < (codes.length : Int) := by omega
                have q2 : (k : Int) < (codes.length : Int) := by omega
                have q3 : (0 : Int) ≤ (i : Int) := by omega
                have q4 : (0 : Int) ≤ (k : Int) := by omega
                have hcl : clashAt codes i k = begins (codes[i]?.getD ⟨#[]⟩) (codes[k]?.getD ⟨#[]⟩) := by unfold clashAt; rw [decide_eq_true hik, Bool.true_and]
                have HBg := fun w' => Lib.hid (tbegins_any (codes[i]?.getD ⟨#[]⟩) (codes[k]?.getD ⟨#[]⟩) w')
                rw [← hcl] at HBg
                generalize codes[i]?.getD ⟨#[]⟩ = s1 at *
                generalize codes[k]?.getD ⟨#[]⟩ = s2 at *
                by_cases hc : clashAt codes i k = true
                · have HM4 : Hid (makeE codes nums = 14) := by show makeE codes nums = 14; rw [HM3.out, clash_true hi2 hk2 hc]; rfl
                  rw [hc] at HBg
                  clear hc hcl hik
                  go_wp2_with fail
                  go_region_held3 (fun w' => w'.cell? ⟨bc, oc + i, none⟩ = some (.string s1) ∧ w'.cell? ⟨bc, oc + k, none⟩ = some (.string s2)) (first | go_keep)
                    (first | (go_at_call 113; refine (HBg _).out.mono ?_; rintro e w5 ⟨rfl, rfl⟩))
                  go_wp2
                  go_ret2
                  exact ⟨below_undrew2' HB2.out, .inr ⟨by rw [HM4.out]; decide, by rw [HM4.out]; rfl⟩⟩
                · have hc' : clashAt codes i k = false := by simpa using hc
                  rw [hc'] at HBg
                  have HCl := Lib.hid hc'
                  clear hc hc' hcl hik
                  go_wp2_with fail
                  go_region_held3 (fun w' => w'.cell? ⟨bc, oc + i, none⟩ = some (.string s1) ∧ w'.cell? ⟨bc, oc + k, none⟩ = some (.string s2)) (first | go_keep)
                    (first | (go_at_call 113; refine (HBg _).out.mono ?_; rintro e w5 ⟨rfl, rfl⟩))
                  clear t1 q1 q2 q3 q4
                  go_wp2
                  go_roundw
                  case rel => exact ⟨k + 1, by go_num, by omega, fun j hj => by
                    by_cases e : j = k
                    · rw [e]; exact HCl.out
                    · exact HNo2.out j (by omega), below_undrew2' HB2.out⟩
                  case measure => simp [intOf]; omega
            · have hkn : k = codes.length := by omega
              subst k
              go_wp2
              go_roundw
              case rel => exact ⟨i + 1, by go_num, by omega, fun j hj l hl => by
                by_cases e : j = i
                · rw [e]; exact HNo2.out l hl
                · exact HNo.out j (by omega) l hl, HB2.out⟩
              case measure => simp [intOf]; omega
        · have hin : i = codes.length := by omega
          subst i
          have HM4 : Hid (makeE codes nums = 0) := by show makeE codes nums = 0; rw [HM3.out, clash_false HNo.out]; rfl
          have HCs := Lib.hid (HC.out.below HB.out).src
          have HNs : Hid (∀ w', Below wr.heap.size wr w' → Src w' a' nums.length (intV nums)) := fun w' hb => (HN.out.below (below_chain HB.out (Nat.le_refl _) hb)).src
          have HNc := Lib.hid HN.out.nocap
          have hs := HB.out.size
          have hn300 : nums.length ≤ 300 := by have := HLe.out; omega
          obtain ⟨i1, hi1, hz10, hz11, hz12⟩ := info_parts Tryz.info9
          obtain ⟨i2, hi2', hz20, hz21, hz22⟩ := info_parts Tryz.info3y
          go_wp2_with (at_builtin; first
            | (refine wpList_append_v rfl (.tmp 62) (.tmp 63) 91 9 i1 (.string ⟨#[]⟩) 16 rfl Tryz.underlying91x hi1 hz10 hz11 hz12 rfl wr.heap.size (.slice (some ⟨wr.heap.size, 0, none⟩) 0 0) 0 [] rfl (own_empty _ _) (some ⟨bc, oc, none⟩) codes.length cap (strV codes) rfl (HCs.out.alloc _) (fun e => nomatch e) strV_one (by omega) (by omega) (by simp) ?_; intro v1 w1 hap1; have HA1 := Lib.hid (first_v hap1); obtain ⟨av1, cv1, rfl⟩ := row_form (first_v hap1).1; clear hap1)
            | (refine wpList_append_v rfl (.tmp 65) (.tmp 66) 38 3 i2 (.int .i64 0) 8 rfl Tryz.underlying38y hi2' hz20 hz21 hz22 rfl w1.heap.size (.slice (some ⟨w1.heap.size, 0, none⟩) 0 0) 0 [] rfl (own_empty _ _) a' nums.length cap' (intV nums) rfl ((HNs.out _ HA1.out.2).alloc _) HNc.out intV_one (by omega) (by omega) (by simp) ?_; intro v2 w2 hap2; have HA2 := Lib.hid (first_v hap2); obtain ⟨av2, cv2, rfl⟩ := row_form (first_v hap2).1; clear hap2))
          go_ret2
          have hb2 : Below w.heap.size w w2 := below_chain (below_chain HB.out (Nat.le_refl _) HA1.out.2) (Nat.le_refl _) HA2.out.2
          have hs1 := HA1.out.2.size
          have hr1 := ownsRow_bar HA1.out.1 (bar_of_below (S := fun _ => False) HA2.out.2) (fun _ _ e => e)
          have hb3 : Below w2.heap.size w2 (w2.alloc (tCells (.slice av1 codes.length cv1) (.slice av2 nums.length cv2))) := (Below.refl _ _).alloc (Nat.le_refl _) _
          refine ⟨below_chain hb2 (Nat.le_refl _) hb3, .inl ⟨HM4.out, w2.heap.size, rfl, _, _, hb2.size, World.alloc_heap_new _ _, ?_, ?_, HLe.out.symm, h300⟩⟩
          · exact ownsRow_base (ownsRow_bar hr1 (bar_of_below (S := fun _ => False) hb3) (fun _ _ e => e)) hs
          · exact ownsRow_base (ownsRow_bar HA2.out.1 (bar_of_below (S := fun _ => False) hb3) (fun _ _ e => e)) (by omega)

end Go.Proofs.YtbcfiafgolcbpaaGreatDoor
