/- What coeff's functions must answer, as one record. coeff's signed and short: a range over the table's func. coeff's short: a range over the table's func. coeff's Get, Put, Short: what they answer. The contracts of coeff's Short, Put and Get: the record. -/
import Derived.Test.YtbcfiafgolcbpaaGreatDoorERef3
import Derived.Test.YtbcfiafgolcbpaaGreatDoorFld
import Derived.Test.YtbcfiafgolcbpaaGreatDoorQueue
import Derived.Test.YtbcfiafgolcbpaaGreatDoorEText
import Derived.Test.YtbcfiafgolcbpaaGreatDoorETab
/- What coeff's functions must answer, as one record. -/
namespace Go.Proofs.YtbcfiafgolcbpaaGreatDoor
open Go.RowKit Go.Shelf
set_option linter.unusedVariables false

/-- what the library's listed variables hold -/
def Lay8 (w : World) : Prop := Spc w ∧ Tab2 w
theorem Lay8.below {w w' : World} (h : Lay8 w) (hb : Below w.heap.size w w') : Lay8 w' := ⟨h.1.below hb, h.2.below hb⟩

end Go.Proofs.YtbcfiafgolcbpaaGreatDoor

/- coeff's signed and short: a range over the table's func. -/
namespace Go.Proofs.YtbcfiafgolcbpaaGreatDoor
open Go.RowKit Go.Shelf
set_option linter.unusedVariables false
attribute [local go_sem] Oper.semAt_some

theorem etable_T (n : Nat) (hn : 9 ≤ n) (m bb : Nat) (first : Bool) (w : World) (hm : m ≤ w.heap.size) (hbb : bb < w.heap.size) (hgm : 1 < m) (hcb : w.cell? ⟨bb, 0, none⟩ = some (.bool first)) (hS : Spc w) :
    SeqT Fence.wide n Tryz.prog 131 #[.pointer (some ⟨bb, 0, none⟩)] (encE first) (KpB m bb bb) 63 w := fun l J Jx W hW hJ hJx hY h0 =>
  etable1_in n hn l m bb first J Jx W (Nat.le_trans hm hW.size) (Nat.lt_of_lt_of_le hbb hW.size) hgm hJ hJx hY ((hW.cell (p := ⟨bb, 0, none⟩) hbb).trans hcb) (hS.below hW) h0

/-! ### signed -/
/-- what is told where a code of the table and a text meet -/
def sigC (c : ByteArray) (p : Nat × Nat) (S : ByteArray) : Got :=
  if begins c S = true then badG 5 else ⟨p.1, if S.data.toList[c.size]?.getD 48 = 49 then -(p.2 : Int) else p.2, false, c.size + 1, 0⟩
def stopB (c S : ByteArray) : Bool := begins c S || begins S c
/-- the boxes of signed's results -/
structure SRes (b : Nat) (g : Got) (W : World) : Prop where
  p : ∃ t, W.heap[b + 1]? = some (.cells #[.int .i64 g.run, .int .i64 g.level] t (0, 0))
  n : ∃ t, W.heap[b + 1 + 1]? = some (.cells #[.int .i64 g.many] t (0, 0))
  e : ∃ t, W.heap[b + 1 + 1 + 1]? = some (.cells #[.int .i64 g.err] t (0, 0))
theorem SRes.later {b B : Nat} {g : Got} {W W' : World} (h : SRes b g W) (hb : Below B W W') (hB : b + 4 ≤ B) : SRes b g W' := by
  obtain ⟨⟨t1, h1⟩, ⟨t2, h2⟩, ⟨t3, h3⟩⟩ := h
  exact ⟨⟨t1, (hb.block _ (by omega)).trans h1⟩, ⟨t2, (hb.block _ (by omega)).trans h2⟩, ⟨t3, (hb.block _ (by omega)).trans h3⟩⟩
theorem SRes.store {b : Nat} {g0 : Got} {W : World} (h : SRes b g0 W) (r l m e : Int) (o : Bool) : SRes b ⟨r, l, o, m, e⟩ ((((W.setCell ⟨b + 1, 0, none⟩ (.int .i64 r)).setCell ⟨b + 1, 1, none⟩ (.int .i64 l)).setCell ⟨b + 1 + 1, 0, none⟩ (.int .i64 m)).setCell ⟨b + 1 + 1 + 1, 0, none⟩ (.int .i64 e)) := by
  obtain ⟨⟨t1, h1⟩, ⟨t2, h2⟩, ⟨t3, h3⟩⟩ := h
  have k1 := heap_setCell_same _ (b + 1) 1 _ _ (.int .i64 l) (heap_setCell_same W (b + 1) 0 _ _ (.int .i64 r) h1)
  have k2 : ((W.setCell ⟨b + 1, 0, none⟩ (.int .i64 r)).setCell ⟨b + 1, 1, none⟩ (.int .i64 l)).heap[b + 1 + 1]? = some (.cells #[.int .i64 g0.many] t2 (0, 0)) := by
    rw [heap_setCell_other _ _ _ _ (by simp <;> omega), heap_setCell_other _ _ _ _ (by simp <;> omega)]; exact h2
  have k3 : (((W.setCell ⟨b + 1, 0, none⟩ (.int .i64 r)).setCell ⟨b + 1, 1, none⟩ (.int .i64 l)).setCell ⟨b + 1 + 1, 0, none⟩ (.int .i64 m)).heap[b + 1 + 1 + 1]? = some (.cells #[.int .i64 g0.err] t3 (0, 0)) := by
    rw [heap_setCell_other _ _ _ _ (by simp <;> omega), heap_setCell_other _ _ _ _ (by simp <;> omega), heap_setCell_other _ _ _ _ (by simp <;> omega)]; exact h3
  refine ⟨⟨t1, ?_⟩, ⟨t2, ?_⟩, ⟨t3, heap_setCell_same _ (b + 1 + 1 + 1) 0 _ _ (.int .i64 e) k3⟩⟩
  · rw [heap_setCell_other _ _ _ _ (by simp <;> omega), heap_setCell_other _ _ _ _ (by simp <;> omega)]
    exact k1
  · rw [heap_setCell_other _ _ _ _ (by simp <;> omega)]
    exact heap_setCell_same _ (b + 1 + 1) 0 _ _ (.int .i64 m) k2
structure SInv (w : World) (S : ByteArray) (first : Bool) (x : Nat) (W : World) : Prop where
  below : Below w.heap.size w W
  text : ∃ t, W.heap[w.heap.size]? = some (.cells #[.string S] t (0, 0))
  res : SRes w.heap.size ⟨0, 0, false, 0, 0⟩ W
  no : ∀ j, j < x → stopB (codeF first j) S = false
structure SEnd (w : World) (S : ByteArray) (first : Bool) (x : Nat) (W : World) : Prop where
  below : Below w.heap.size w W
  res : SRes w.heap.size (sigC (codeF first x) (pairAt x) S) W
  no : ∀ j, j < x → stopB (codeF first j) S = false
  here : stopB (codeF first x) S = true
/-- the result of signed -/
def SignedR (S : ByteArray) (first : Bool) (e : Ending) : Prop :=
  (∃ k, k < 63 ∧ (∀ j, j < k → stopB (codeF first j) S = false) ∧ stopB (codeF first k) S = true ∧ e = .returned (threeV (sigC (codeF first k) (pairAt k) S))) ∨
  ((∀ j, j < 63 → stopB (codeF first j) S = false) ∧ e = .returned (threeV (badG 7)))

theorem codeF_small (first : Bool) (k : Nat) : (codeF first k).size ≤ 13 := by
  unfold codeF
  split
  · decide
  · by_cases h : k < 63
    · exact (codeAt_one h).2.2
    · unfold codeAt
      rw [List.getElem?_eq_none (by rw [codes8_length]; omega)]
      decide

theorem begins_strict {S c : ByteArray} (h : begins S c = true) (h2 : begins c S = false) : c.size < S.size := by
  have h1 := begins_size h
  false_or_by_contra
  rename_i hn
  have e : c = S := by
    unfold begins at h
    rw [decide_eq_true_iff] at h
    apply ByteArray.ext
    apply Array.toList_inj.1
    exact h.eq_of_length (by simp; omega)
  rw [e] at h2
  have h3 : begins S S = true := by unfold begins; exact decide_eq_true (List.prefix_refl _)
  rw [h3] at h2
  cases h2
theorem at_list8 (s : ByteArray) {t : Nat} (h : t < s.size) : s.data.toList[t]?.getD 48 = s[t] := by
  have h2 : t < s.data.toList.length := by simpa using h
  rw [List.getElem?_eq_getElem h2]
  simp
  rfl

set_option maxRecDepth 100000 in
set_option maxHeartbeats 8000000 in
theorem signed_in (n : Nat) (hn : 12 ≤ n) (S : ByteArray) (hS20 : S.size ≤ 20) (first : Bool) (w : World) (hSp : Spc w) :
    CallsIn Fence.wide n Tryz.prog 111 #[.string S, .bool first] w fun e w' => SignedR S first e ∧ Below w.heap.size w w' := by
  have hn1 : 1 ≤ n := by omega
  have hn2 : 1 ≤ n - 1 := by omega
  have hn3 : 1 ≤ n - 1 - 1 := by omega
  have hgm : 1 < w.heap.size := World.block_lt_of_cell? w _ (hSp 0 (by decide))
  have HT := Lib.hid (fun W => etable_in Fence.wide (n - 1) trivial rfl first W)
  have HSp := Lib.hid (fun w' (hb : Below w.heap.size w w') => hSp.below hb)
  clear hSp
  refine callsIn_of_wp_marks Tryz.func111 rfl trivial ?_ rfl
  simp only [Tryz.ntmps111, List.size_toArray, List.length_cons, List.length_nil, Nat.reduceAdd, Nat.reduceSub, Array.replicate_succ, Array.replicate_zero, List.push_toArray, List.append_toArray, List.nil_append, List.cons_append]
  gi_wp2_with (refine ⟨trivial, ?_⟩; gi_at_call 116; refine (HT.out _).mono ?_; rintro e w' ⟨rfl, rfl⟩)
  have hB5 : Below w.heap.size w (((((w.alloc (Obj.cells #[Value.string S] 9)).alloc (Obj.cells #[Value.int IntKind.i64 0, Value.int IntKind.i64 0] 66)).alloc (Obj.cells #[Value.int IntKind.i64 0] 3)).alloc (Obj.cells #[Value.int IntKind.i64 0] 28)).alloc (Obj.cells #[Value.bool first] 4)) :=
    (((((Below.refl _ w).alloc (Nat.le_refl _) _).alloc (by simp) _).alloc (by simp; omega) _).alloc (by simp; omega) _).alloc (by simp; omega) _
  have h50 : (((((w.alloc (Obj.cells #[Value.string S] 9)).alloc (Obj.cells #[Value.int IntKind.i64 0, Value.int IntKind.i64 0] 66)).alloc (Obj.cells #[Value.int IntKind.i64 0] 3)).alloc (Obj.cells #[Value.int IntKind.i64 0] 28)).alloc (Obj.cells #[Value.bool first] 4)).heap[w.heap.size]? = some (Obj.cells #[Value.string S] 9) := heap_keep (heap_keep (heap_keep (heap_keep (heap_new _ rfl _) _) _) _) _
  have h51 : (((((w.alloc (Obj.cells #[Value.string S] 9)).alloc (Obj.cells #[Value.int IntKind.i64 0, Value.int IntKind.i64 0] 66)).alloc (Obj.cells #[Value.int IntKind.i64 0] 3)).alloc (Obj.cells #[Value.int IntKind.i64 0] 28)).alloc (Obj.cells #[Value.bool first] 4)).heap[w.heap.size + 1]? = some (Obj.cells #[Value.int IntKind.i64 0, Value.int IntKind.i64 0] 66) := heap_keep (heap_keep (heap_keep (heap_new _ (by simp) _) _) _) _
  have h52 : (((((w.alloc (Obj.cells #[Value.string S] 9)).alloc (Obj.cells #[Value.int IntKind.i64 0, Value.int IntKind.i64 0] 66)).alloc (Obj.cells #[Value.int IntKind.i64 0] 3)).alloc (Obj.cells #[Value.int IntKind.i64 0] 28)).alloc (Obj.cells #[Value.bool first] 4)).heap[w.heap.size + 1 + 1]? = some (Obj.cells #[Value.int IntKind.i64 0] 3) := heap_keep (heap_keep (heap_new _ (by simp) _) _) _
  have h53 : (((((w.alloc (Obj.cells #[Value.string S] 9)).alloc (Obj.cells #[Value.int IntKind.i64 0, Value.int IntKind.i64 0] 66)).alloc (Obj.cells #[Value.int IntKind.i64 0] 3)).alloc (Obj.cells #[Value.int IntKind.i64 0] 28)).alloc (Obj.cells #[Value.bool first] 4)).heap[w.heap.size + 1 + 1 + 1]? = some (Obj.cells #[Value.int IntKind.i64 0] 28) := heap_keep (heap_new _ (by simp) _) _
  have h54 : (((((w.alloc (Obj.cells #[Value.string S] 9)).alloc (Obj.cells #[Value.int IntKind.i64 0, Value.int IntKind.i64 0] 66)).alloc (Obj.cells #[Value.int IntKind.i64 0] 3)).alloc (Obj.cells #[Value.int IntKind.i64 0] 28)).alloc (Obj.cells #[Value.bool first] 4)).heap[w.heap.size + 1 + 1 + 1 + 1]? = some (Obj.cells #[Value.bool first] 4) := heap_new _ (by simp) _
  have h5z : (((((w.alloc (Obj.cells #[Value.string S] 9)).alloc (Obj.cells #[Value.int IntKind.i64 0, Value.int IntKind.i64 0] 66)).alloc (Obj.cells #[Value.int IntKind.i64 0] 3)).alloc (Obj.cells #[Value.int IntKind.i64 0] 28)).alloc (Obj.cells #[Value.bool first] 4)).heap.size = w.heap.size + 5 := by simp
  generalize ((((w.alloc (Obj.cells #[Value.string S] 9)).alloc (Obj.cells #[Value.int IntKind.i64 0, Value.int IntKind.i64 0] 66)).alloc (Obj.cells #[Value.int IntKind.i64 0] 3)).alloc (Obj.cells #[Value.int IntKind.i64 0] 28)).alloc (Obj.cells #[Value.bool first] 4) = w5 at *
  refine wpIn_range_T rfl hn1 (gf := 131) (lb := #[.pointer (some ⟨w.heap.size + 1 + 1 + 1 + 1, 0, none⟩)]) rfl trivial (enters_of Tryz.func131 (by kernel_rfl) rfl)
    (etable_T (n - 1) (by omega) w.heap.size (w.heap.size + 1 + 1 + 1 + 1) first w5 (by omega) (by omega) hgm (one_cell h54).1 (HSp.out _ hB5))
    KpB.t (fun W' r' o' h => KpB.b (w := w5) (by omega) (by omega) (by omega) W' _ _ o' (by omega) h rfl rfl) (Below.refl _ _) (fun _ => rfl)
    (fun x Wx => SInv w S first x Wx)
    (fun c x Wx => c = .ret ∧ SEnd w S first x Wx)
    ?hI ?hIx ?h0 ?hround ?hdone ?hstop
  case hI =>
    rintro x A B ⟨a1, ⟨t2, a2⟩, a3, a4⟩ hb
    exact ⟨a1.trans (hb.mono (by omega)), ⟨t2, (hb.block _ (by omega)).trans a2⟩, a3.later hb (by omega), a4⟩
  case hIx =>
    rintro c x A B ⟨rfl, a1, a3, a4, a5⟩ hb
    exact ⟨rfl, a1.trans (hb.mono (by omega)), a3.later hb (by omega), a4, a5⟩
  case h0 => exact ⟨hB5, ⟨_, h50⟩, ⟨⟨_, h51⟩, ⟨_, h52⟩, ⟨_, h53⟩⟩, fun j hj => by omega⟩
  case hround =>
    rintro x Wx hI hxz hxN
    obtain ⟨pa, pb, hp⟩ : ∃ a b, pairAt x = (a, b) := ⟨_, _, rfl⟩
    have hcs := codeF_small first x
    have hps := pairAt_small (k := x)
    simp only [encE]
    rw [hp] at hps ⊢
    simp only at hps ⊢
    gi_wp2
    refine ⟨KeepsHi.alloc _ _ _, ⟨(Below.refl _ Wx).alloc (by omega) _, World.cell?_alloc_old _ _ _ (by simp; omega), World.cell?_alloc_old _ _ _ (by simp; omega)⟩, fun W2 hb2 hz2 hot => ?_⟩
    have hbW : Below w5.heap.size Wx W2 := ((Below.refl _ Wx).alloc (by omega) _).trans hb2
    have hpb := (hot Wx.heap.size (by omega)).trans (World.alloc_heap_new Wx _)
    obtain ⟨a1, ⟨t2, a2⟩, a3, a4⟩ := hI
    have i1 := a1.trans (hbW.mono (by omega))
    have i2 := (hbW.block w.heap.size (by omega)).trans a2
    have i3 := a3.later hbW (by omega)
    have hz : W2.heap.size = Wx.heap.size + 1 := by rw [hz2]; simp
    obtain ⟨p0, p1, q0, q1⟩ := pair_cells hpb
    obtain ⟨c0, _⟩ := one_cell i2
    obtain ⟨⟨s1, j1⟩, ⟨s2, j2⟩, ⟨s3, j3⟩⟩ := i3
    obtain ⟨r0, r1, v0, v1⟩ := pair_cells j1
    obtain ⟨r2, v2⟩ := one_cell j2
    obtain ⟨r3, v3⟩ := one_cell j3
    have HI1 := Lib.hid i1
    have HI2 := Lib.hid i2
    have HI3 : Hid (SRes w.heap.size ⟨0, 0, false, 0, 0⟩ W2) := ⟨⟨s1, j1⟩, ⟨s2, j2⟩, ⟨s3, j3⟩⟩
    have HNo := Lib.hid a4
    have HPp := Lib.hid hp
    clear i1 i2 j1 j2 j3 hb2 hot hbW hpb a1 a2 a3 a4 hp
    have KM : Hid (∀ (r l m e : Int), KeepsMid w5.heap.size Wx.heap.size W2 ((((W2.setCell ⟨w.heap.size + 1, 0, none⟩ (.int .i64 r)).setCell ⟨w.heap.size + 1, 1, none⟩ (.int .i64 l)).setCell ⟨w.heap.size + 1 + 1, 0, none⟩ (.int .i64 m)).setCell ⟨w.heap.size + 1 + 1 + 1, 0, none⟩ (.int .i64 e))) := fun r l m e =>
      ((((KeepsMid.refl _ _ _).set _ _ (.inl (by simp; omega))).set _ _ (.inl (by simp; omega))).set _ _ (.inl (by simp; omega))).set _ _ (.inl (by simp; omega))
    have KB : Hid (∀ (W : World), Below w.heap.size w W → ∀ (r l m e : Int), Below w.heap.size w ((((W.setCell ⟨w.heap.size + 1, 0, none⟩ (.int .i64 r)).setCell ⟨w.heap.size + 1, 1, none⟩ (.int .i64 l)).setCell ⟨w.heap.size + 1 + 1, 0, none⟩ (.int .i64 m)).setCell ⟨w.heap.size + 1 + 1 + 1, 0, none⟩ (.int .i64 e))) := fun W h r l m e =>
      (((h.setCell (p := ⟨w.heap.size + 1, 0, none⟩) (by simp) _).setCell (p := ⟨w.heap.size + 1, 1, none⟩) (by simp) _).setCell (p := ⟨w.heap.size + 1 + 1, 0, none⟩) (by simp; omega) _).setCell (p := ⟨w.heap.size + 1 + 1 + 1, 0, none⟩) (by simp; omega) _
    have HP1 := Lib.hid (hasPrefix_any (codeF first x) S W2)
    have HP2 := Lib.hid (hasPrefix_any S (codeF first x) W2)
    cases h1 : begins (codeF first x) S with
    | true =>
      rw [h1] at HP1
      have hst : stopB (codeF first x) S = true := by unfold stopB; rw [h1]; rfl
      have hsg : sigC (codeF first x) (pa, pb) S = ⟨0, 0, false, 0, 5⟩ := by unfold sigC; rw [if_pos h1]
      have HSt := Lib.hid hst
      have HSg := Lib.hid hsg
      clear hst hsg h1
      gi_wp2_with fail
      refine ⟨trivial, ?_⟩
      refine (CallsIn.inRound _ (callsIn_wide.2 HP1.out)).mono ?_
      rintro e w' ⟨rfl, rfl⟩
      gi_wp2
      refine ⟨KM.out _ _ _ _, rfl, KB.out _ HI1.out _ _ _ _, ?_, HNo.out, HSt.out⟩
      rw [HPp.out, HSg.out]
      exact HI3.out.store 0 0 0 5 false
    | false =>
      rw [h1] at HP1
      cases h2 : begins S (codeF first x) with
      | false =>
        rw [h2] at HP2
        have hst : stopB (codeF first x) S = false := by unfold stopB; rw [h1, h2]; rfl
        have HSt := Lib.hid hst
        clear hst h1 h2
        gi_wp2_with fail
        refine ⟨trivial, ?_⟩
        refine (CallsIn.inRound _ (callsIn_wide.2 HP1.out)).mono ?_
        rintro e w' ⟨rfl, rfl⟩
        gi_wp2_with fail
        refine ⟨trivial, ?_⟩
        refine (CallsIn.inRound _ (callsIn_wide.2 HP2.out)).mono ?_
        rintro e w' ⟨rfl, rfl⟩
        gi_wp2
        refine ⟨KeepsMid.refl _ _ _, KpB.rfl, HI1.out, ⟨_, HI2.out⟩, HI3.out, fun j hj => ?_⟩
        by_cases e : j = x
        · rw [e]; exact HSt.out
        · exact HNo.out j (by omega)
      | true =>
        rw [h2] at HP2
        have hlt := begins_strict h2 h1
        have hst : stopB (codeF first x) S = true := by unfold stopB; rw [h1, h2]; rfl
        have HSt := Lib.hid hst
        clear hst
        have hne : Wx.heap.size ≠ w.heap.size + 1 := by omega
        have hne2 : Wx.heap.size ≠ w.heap.size := by omega
        have KM2 : Hid (∀ (r l m e : Int), KeepsMid w5.heap.size Wx.heap.size W2 (((((W2.setCell ⟨Wx.heap.size, 1, none⟩ (.int .i64 (-(pb : Int)))).setCell ⟨w.heap.size + 1, 0, none⟩ (.int .i64 r)).setCell ⟨w.heap.size + 1, 1, none⟩ (.int .i64 l)).setCell ⟨w.heap.size + 1 + 1, 0, none⟩ (.int .i64 m)).setCell ⟨w.heap.size + 1 + 1 + 1, 0, none⟩ (.int .i64 e))) := fun r l m e =>
          (((((KeepsMid.refl _ _ _).set _ _ (.inr (by simp))).set _ _ (.inl (by simp; omega))).set _ _ (.inl (by simp; omega))).set _ _ (.inl (by simp; omega))).set _ _ (.inl (by simp; omega))
        have HI4 : Hid (SRes w.heap.size ⟨0, 0, false, 0, 0⟩ (W2.setCell ⟨Wx.heap.size, 1, none⟩ (.int .i64 (-(pb : Int))))) := by
          obtain ⟨⟨t1, k1⟩, ⟨t2, k2⟩, ⟨t3, k3⟩⟩ := HI3.out
          exact ⟨⟨t1, (heap_setCell_other _ _ _ _ (by simp; omega)).trans k1⟩, ⟨t2, (heap_setCell_other _ _ _ _ (by simp; omega)).trans k2⟩, ⟨t3, (heap_setCell_other _ _ _ _ (by simp; omega)).trans k3⟩⟩
        by_cases hb : S[(codeF first x).size] = 49
        · have hsg : sigC (codeF first x) (pa, pb) S = ⟨pa, -(pb : Int), false, (codeF first x).size + 1, 0⟩ := by
            unfold sigC
            rw [if_neg (by rw [h1]; decide), at_list8 S hlt]
            simp only
            rw [if_pos hb]
          have e1 : ((S[(codeF first x).size].toNat : Int) == 49) = true := by
            rw [hb]; rfl
          have HSg := Lib.hid hsg
          clear hsg h1 h2 hb
          gi_wp2_with fail
          refine ⟨trivial, ?_⟩
          refine (CallsIn.inRound _ (callsIn_wide.2 HP1.out)).mono ?_
          rintro e w' ⟨rfl, rfl⟩
          gi_wp2_with fail
          refine ⟨trivial, ?_⟩
          refine (CallsIn.inRound _ (callsIn_wide.2 HP2.out)).mono ?_
          rintro e w' ⟨rfl, rfl⟩
          gi_wp2
          refine ⟨KM2.out _ _ _ _, rfl, KB.out _ (HI1.out.setCell (p := ⟨Wx.heap.size, 1, none⟩) (by simp; omega) _) _ _ _ _, ?_, HNo.out, HSt.out⟩
          rw [HPp.out, HSg.out]
          exact HI4.out.store _ _ _ _ false
        · have hsg : sigC (codeF first x) (pa, pb) S = ⟨pa, (pb : Int), false, (codeF first x).size + 1, 0⟩ := by
            unfold sigC
            rw [if_neg (by rw [h1]; decide), at_list8 S hlt]
            simp only
            rw [if_neg hb]
          have e1 : ((S[(codeF first x).size].toNat : Int) == 49) = false := by
            rw [beq_eq_false_iff_ne]
            intro e
            apply hb
            apply UInt8.toNat_inj.1
            rw [show (49 : UInt8).toNat = 49 from rfl]
            omega
          have HSg := Lib.hid hsg
          clear hsg h1 h2 hb
          gi_wp2_with fail
          refine ⟨trivial, ?_⟩
          refine (CallsIn.inRound _ (callsIn_wide.2 HP1.out)).mono ?_
          rintro e w' ⟨rfl, rfl⟩
          gi_wp2_with fail
          refine ⟨trivial, ?_⟩
          refine (CallsIn.inRound _ (callsIn_wide.2 HP2.out)).mono ?_
          rintro e w' ⟨rfl, rfl⟩
          gi_wp2
          refine ⟨KM.out _ _ _ _, rfl, KB.out _ HI1.out _ _ _ _, ?_, HNo.out, HSt.out⟩
          rw [HPp.out, HSg.out]
          exact HI3.out.store _ _ _ _ false
  case hdone =>
    rintro D W' rfl hI hD
    obtain ⟨a1, a2, a3, a4⟩ := hI
    have A3 := Lib.hid a3
    obtain ⟨⟨t1, b1⟩, ⟨t2, b2⟩, ⟨t3, b3⟩⟩ := a3
    obtain ⟨r0, r1, v0, v1⟩ := pair_cells b1
    obtain ⟨r2, v2⟩ := one_cell b2
    obtain ⟨r3, v3⟩ := one_cell b3
    clear b1 b2 b3
    gi_wp2
    have hX := A3.out.store 0 0 0 7 false
    have hBX : Below w.heap.size w ((((W'.setCell ⟨w.heap.size + 1, 0, none⟩ (.int .i64 0)).setCell ⟨w.heap.size + 1, 1, none⟩ (.int .i64 0)).setCell ⟨w.heap.size + 1 + 1, 0, none⟩ (.int .i64 0)).setCell ⟨w.heap.size + 1 + 1 + 1, 0, none⟩ (.int .i64 7)) := (((a1.setCell (p := ⟨w.heap.size + 1, 0, none⟩) (by simp) _).setCell (p := ⟨w.heap.size + 1, 1, none⟩) (by simp) _).setCell (p := ⟨w.heap.size + 1 + 1, 0, none⟩) (by simp; omega) _).setCell (p := ⟨w.heap.size + 1 + 1 + 1, 0, none⟩) (by simp; omega) _
    have hDX : ((((W'.setCell ⟨w.heap.size + 1, 0, none⟩ (.int .i64 0)).setCell ⟨w.heap.size + 1, 1, none⟩ (.int .i64 0)).setCell ⟨w.heap.size + 1 + 1, 0, none⟩ (.int .i64 0)).setCell ⟨w.heap.size + 1 + 1 + 1, 0, none⟩ (.int .i64 7)).heap[w.heap.size + 5]? = some (.deferred (some [])) := by
      rw [heap_setCell_other _ _ _ _ (by simp), heap_setCell_other _ _ _ _ (by simp), heap_setCell_other _ _ _ _ (by simp), heap_setCell_other _ _ _ _ (by simp), ← h5z]
      exact hD
    refine leaves_marks (B := w.heap.size + 5) [_] (w.heap.size + 6) _ ⟨w.heap.size + 5, rfl, Nat.le_refl _, by omega, hDX, trivial⟩ (fun W3 hb => ?_)
    obtain ⟨⟨t1, k1⟩, ⟨t2, k2⟩, ⟨t3, k3⟩⟩ := hX.later hb (by omega)
    obtain ⟨q0, q1, _, _⟩ := pair_cells k1
    obtain ⟨q2, _⟩ := one_cell k2
    obtain ⟨q3, _⟩ := one_cell k3
    exact ⟨threeV (badG 7), by simp [results, Tryz.f111, go_sem, q0, q1, q2, q3], .inr ⟨a4, rfl⟩, hBX.trans (hb.mono (by omega))⟩
  case hstop =>
    rintro D c x W' rfl hx ⟨rfl, a1, a3, a4, a5⟩ hD
    gi_wp2
    refine leaves_marks (B := w.heap.size + 5) [_] (w.heap.size + 6) _ ⟨w5.heap.size, rfl, by omega, by omega, hD, trivial⟩ (fun W3 hb => ?_)
    obtain ⟨⟨t1, k1⟩, ⟨t2, k2⟩, ⟨t3, k3⟩⟩ := a3.later hb (by omega)
    obtain ⟨q0, q1, _, _⟩ := pair_cells k1
    obtain ⟨q2, _⟩ := one_cell k2
    obtain ⟨q3, _⟩ := one_cell k3
    exact ⟨threeV (sigC (codeF first x) (pairAt x) S), by simp [results, Tryz.f111, go_sem, q0, q1, q2, q3], .inl ⟨x, hx, a4, a5, rfl⟩, a1.trans (hb.mono (by omega))⟩

theorem signed_any (S : ByteArray) (hS20 : S.size ≤ 20) (first : Bool) (w : World) (hSp : Spc w) :
    Calls Tryz.prog 111 #[.string S, .bool first] w fun e w' => SignedR S first e ∧ Below w.heap.size w w' := callsIn_wide.1 (signed_in 12 (by omega) S hS20 first w hSp)

end Go.Proofs.YtbcfiafgolcbpaaGreatDoor

/- coeff's short: a range over the table's func. -/
namespace Go.Proofs.YtbcfiafgolcbpaaGreatDoor
open Go.RowKit Go.Shelf
set_option linter.unusedVariables false
attribute [local go_sem] Oper.semAt_some

/-- a level without its sign, as the program has it -/
def absL (l : Int) : Int := if l < 0 then IntKind.i64.wrap (-l) else l
theorem match_abs {r l : Int} (h1 : -9223372036854775808 ≤ l) (h2 : l ≤ 9223372036854775807) {k : Nat} (hk : k < 63) : matchP r l (pairAt k) = (((pairAt k).1 : Int) == r && ((pairAt k).2 : Int) == absL l) := by
  obtain ⟨s1, s2⟩ := pairAt_small (k := k)
  have s3 := pairAt_one hk
  generalize pairAt k = p at *
  obtain ⟨a, b⟩ := p
  unfold matchP absL
  simp only at *
  rw [Bool.eq_iff_iff, decide_eq_true_iff, Bool.and_eq_true, beq_iff_eq, beq_iff_eq]
  rw [IntKind.wrap_i64]
  split <;> omega
structure TInv (w : World) (r l L : Int) (sg : ByteArray) (first : Bool) (x : Nat) (W : World) : Prop where
  below : Below w.heap.size w W
  p : ∃ t, W.heap[w.heap.size]? = some (.cells #[.int .i64 r, .int .i64 l] t (0, 0))
  a : ∃ t, W.heap[w.heap.size + 1]? = some (.cells #[.string ⟨#[]⟩] t (0, 0))
  b : ∃ t, W.heap[w.heap.size + 1 + 1]? = some (.cells #[.bool false] t (0, 0))
  lv : ∃ t, W.heap[w.heap.size + 1 + 1 + 1]? = some (.cells #[.int .i64 L] t (0, 0))
  sg : ∃ t, W.heap[w.heap.size + 1 + 1 + 1 + 1]? = some (.cells #[.string sg] t (0, 0))
  no : ∀ j, j < x → matchP r l (pairAt j) = false
theorem TInv.later {w W W' : World} {r l L : Int} {sg : ByteArray} {first : Bool} {x B : Nat} (h : TInv w r l L sg first x W) (hb : Below B W W') (hB : w.heap.size + 5 ≤ B) : TInv w r l L sg first x W' := by
  obtain ⟨h0, ⟨t1, h1⟩, ⟨t2, h2⟩, ⟨t3, h3⟩, ⟨t4, h4⟩, ⟨t5, h5⟩, h6⟩ := h
  exact ⟨h0.trans (hb.mono (by omega)), ⟨t1, (hb.block _ (by omega)).trans h1⟩, ⟨t2, (hb.block _ (by omega)).trans h2⟩, ⟨t3, (hb.block _ (by omega)).trans h3⟩, ⟨t4, (hb.block _ (by omega)).trans h4⟩, ⟨t5, (hb.block _ (by omega)).trans h5⟩, h6⟩
structure TEnd (w : World) (r l : Int) (sg : ByteArray) (first : Bool) (x : Nat) (W : World) : Prop where
  below : Below w.heap.size w W
  a : ∃ t, W.heap[w.heap.size + 1]? = some (.cells #[.string (codeF first x ++ sg)] t (0, 0))
  b : ∃ t, W.heap[w.heap.size + 1 + 1]? = some (.cells #[.bool true] t (0, 0))
  no : ∀ j, j < x → matchP r l (pairAt j) = false
  here : matchP r l (pairAt x) = true

def shortS (first : Bool) (r l : Int) : ByteArray := match tabI r l with | some k => codeF first k ++ signS l | none => ⟨#[]⟩

set_option maxRecDepth 100000 in
set_option maxHeartbeats 8000000 in
theorem short_in (n : Nat) (hn : 12 ≤ n) (r l : Int) (hl1 : -9223372036854775808 ≤ l) (hl2 : l ≤ 9223372036854775807) (first : Bool) (w : World) (hSp : Spc w) :
    CallsIn Fence.wide n Tryz.prog 91 #[pairV r l, .bool first] w fun e w' => e = .returned (.tuple #[.string (shortS first r l), .bool (shortB r l)]) ∧ Below w.heap.size w w' := by
  have hn1 : 1 ≤ n := by omega
  have hn2 : 1 ≤ n - 1 := by omega
  have hn3 : 1 ≤ n - 1 - 1 := by omega
  have hgm : 1 < w.heap.size := World.block_lt_of_cell? w _ (hSp 0 (by decide))
  have HT := Lib.hid (fun W => etable_in Fence.wide (n - 1) trivial rfl first W)
  have HSp := Lib.hid (fun w' (hb : Below w.heap.size w w') => hSp.below hb)
  obtain ⟨L, hL⟩ : ∃ L, L = absL l := ⟨_, rfl⟩
  obtain ⟨sg, hsg⟩ : ∃ sg, sg = signS l := ⟨_, rfl⟩
  have hsz : sg.size = 1 := by rw [hsg]; unfold signS; split <;> rfl
  have HL := Lib.hid hL
  have HSgn := Lib.hid hsg
  have HM := Lib.hid (fun (k : Nat) (hk : k < 63) => match_abs (r := r) hl1 hl2 hk)
  rw [← hL] at HM
  have HR1 := Lib.hid (fun (h : ∀ j, j < 63 → matchP r l (pairAt j) = false) => (⟨by unfold shortS; rw [tabI_none h], by unfold shortB; rw [tabI_none h]; rfl⟩ : shortS first r l = ⟨#[]⟩ ∧ shortB r l = false))
  have HR2 := Lib.hid (fun (k : Nat) (hk : k < 63) (h1 : ∀ j, j < k → matchP r l (pairAt j) = false) (h2 : matchP r l (pairAt k) = true) => (⟨by unfold shortS; rw [tabI_some hk h2 h1, hsg], by unfold shortB; rw [tabI_some hk h2 h1]; rfl⟩ : shortS first r l = codeF first k ++ sg ∧ shortB r l = true))
  clear hSp
  refine callsIn_of_wp_marks Tryz.func91 rfl trivial ?_ rfl
  simp only [Tryz.ntmps91, List.size_toArray, List.length_cons, List.length_nil, Nat.reduceAdd, Nat.reduceSub, Array.replicate_succ, Array.replicate_zero, List.push_toArray, List.append_toArray, List.nil_append, List.cons_append]
  by_cases hneg : l < 0
  · have hLw : wrap64 (-l) = L := by rw [hL]; unfold absL; rw [if_pos hneg, wrap_i64_eq]
    have hsgn : sg = ⟨#[49]⟩ := by rw [hsg]; unfold signS; rw [if_pos hneg]; rfl
    clear hL hsg
    gi_wp2_with (refine ⟨trivial, ?_⟩; gi_at_call 116; refine (HT.out _).mono ?_; rintro e w' ⟨rfl, rfl⟩)
    subst hsgn
    have hB5 : Below w.heap.size w ((((((w.alloc (Obj.cells #[Value.int IntKind.i64 r, Value.int IntKind.i64 l] 66)).alloc (Obj.cells #[Value.string ⟨#[]⟩] 9)).alloc (Obj.cells #[Value.bool false] 4)).alloc (Obj.cells #[Value.int IntKind.i64 L] 3)).alloc (Obj.cells #[Value.string ⟨#[49]⟩] 9)).alloc (Obj.cells #[Value.bool first] 4)) :=
      ((((((Below.refl _ w).alloc (Nat.le_refl _) _).alloc (by simp) _).alloc (by simp; omega) _).alloc (by simp; omega) _).alloc (by simp; omega) _).alloc (by simp; omega) _
    have h50 : ((((((w.alloc (Obj.cells #[Value.int IntKind.i64 r, Value.int IntKind.i64 l] 66)).alloc (Obj.cells #[Value.string ⟨#[]⟩] 9)).alloc (Obj.cells #[Value.bool false] 4)).alloc (Obj.cells #[Value.int IntKind.i64 L] 3)).alloc (Obj.cells #[Value.string ⟨#[49]⟩] 9)).alloc (Obj.cells #[Value.bool first] 4)).heap[w.heap.size]? = some (Obj.cells #[Value.int IntKind.i64 r, Value.int IntKind.i64 l] 66) := heap_keep (heap_keep (heap_keep (heap_keep (heap_keep (heap_new _ rfl _) _) _) _) _) _
    have h51 : ((((((w.alloc (Obj.cells #[Value.int IntKind.i64 r, Value.int IntKind.i64 l] 66)).alloc (Obj.cells #[Value.string ⟨#[]⟩] 9)).alloc (Obj.cells #[Value.bool false] 4)).alloc (Obj.cells #[Value.int IntKind.i64 L] 3)).alloc (Obj.cells #[Value.string ⟨#[49]⟩] 9)).alloc (Obj.cells #[Value.bool first] 4)).heap[w.heap.size + 1]? = some (Obj.cells #[Value.string ⟨#[]⟩] 9) := heap_keep (heap_keep (heap_keep (heap_keep (heap_new _ (by simp) _) _) _) _) _
    have h52 : ((((((w.alloc (Obj.cells #[Value.int IntKind.i64 r, Value.int IntKind.i64 l] 66)).alloc (Obj.cells #[Value.string ⟨#[]⟩] 9)).alloc (Obj.cells #[Value.bool false] 4)).alloc (Obj.cells #[Value.int IntKind.i64 L] 3)).alloc (Obj.cells #[Value.string ⟨#[49]⟩] 9)).alloc (Obj.cells #[Value.bool first] 4)).heap[w.heap.size + 1 + 1]? = some (Obj.cells #[Value.bool false] 4) := heap_keep (heap_keep (heap_keep (heap_new _ (by simp) _) _) _) _
    have h53 : ((((((w.alloc (Obj.cells #[Value.int IntKind.i64 r, Value.int IntKind.i64 l] 66)).alloc (Obj.cells #[Value.string ⟨#[]⟩] 9)).alloc (Obj.cells #[Value.bool false] 4)).alloc (Obj.cells #[Value.int IntKind.i64 L] 3)).alloc (Obj.cells #[Value.string ⟨#[49]⟩] 9)).alloc (Obj.cells #[Value.bool first] 4)).heap[w.heap.size + 1 + 1 + 1]? = some (Obj.cells #[Value.int IntKind.i64 L] 3) := heap_keep (heap_keep (heap_new _ (by simp) _) _) _
    have h54 : ((((((w.alloc (Obj.cells #[Value.int IntKind.i64 r, Value.int IntKind.i64 l] 66)).alloc (Obj.cells #[Value.string ⟨#[]⟩] 9)).alloc (Obj.cells #[Value.bool false] 4)).alloc (Obj.cells #[Value.int IntKind.i64 L] 3)).alloc (Obj.cells #[Value.string ⟨#[49]⟩] 9)).alloc (Obj.cells #[Value.bool first] 4)).heap[w.heap.size + 1 + 1 + 1 + 1]? = some (Obj.cells #[Value.string ⟨#[49]⟩] 9) := heap_keep (heap_new _ (by simp) _) _
    have h55 : ((((((w.alloc (Obj.cells #[Value.int IntKind.i64 r, Value.int IntKind.i64 l] 66)).alloc (Obj.cells #[Value.string ⟨#[]⟩] 9)).alloc (Obj.cells #[Value.bool false] 4)).alloc (Obj.cells #[Value.int IntKind.i64 L] 3)).alloc (Obj.cells #[Value.string ⟨#[49]⟩] 9)).alloc (Obj.cells #[Value.bool first] 4)).heap[w.heap.size + 1 + 1 + 1 + 1 + 1]? = some (Obj.cells #[Value.bool first] 4) := heap_new _ (by simp) _
    have h5z : ((((((w.alloc (Obj.cells #[Value.int IntKind.i64 r, Value.int IntKind.i64 l] 66)).alloc (Obj.cells #[Value.string ⟨#[]⟩] 9)).alloc (Obj.cells #[Value.bool false] 4)).alloc (Obj.cells #[Value.int IntKind.i64 L] 3)).alloc (Obj.cells #[Value.string ⟨#[49]⟩] 9)).alloc (Obj.cells #[Value.bool first] 4)).heap.size = w.heap.size + 6 := by simp
    generalize (((((w.alloc (Obj.cells #[Value.int IntKind.i64 r, Value.int IntKind.i64 l] 66)).alloc (Obj.cells #[Value.string ⟨#[]⟩] 9)).alloc (Obj.cells #[Value.bool false] 4)).alloc (Obj.cells #[Value.int IntKind.i64 L] 3)).alloc (Obj.cells #[Value.string ⟨#[49]⟩] 9)).alloc (Obj.cells #[Value.bool first] 4) = w5 at *
    refine wpIn_range_T rfl hn1 (gf := 131) (lb := #[.pointer (some ⟨w.heap.size + 1 + 1 + 1 + 1 + 1, 0, none⟩)]) rfl trivial (enters_of Tryz.func131 (by kernel_rfl) rfl)
      (etable_T (n - 1) (by omega) w.heap.size (w.heap.size + 1 + 1 + 1 + 1 + 1) first w5 (by omega) (by omega) hgm (one_cell h55).1 (HSp.out _ hB5))
      KpB.t (fun W' r' o' h => KpB.b (w := w5) (by omega) (by omega) (by omega) W' _ _ o' (by omega) h rfl rfl) (Below.refl _ _) (fun _ => rfl)
      (fun x Wx => TInv w r l L ⟨#[49]⟩ first x Wx)
      (fun c x Wx => c = .ret ∧ TEnd w r l ⟨#[49]⟩ first x Wx)
      ?hI ?hIx ?h0 ?hround ?hdone ?hstop
    case hI =>
      intro x A B h hb
      exact h.later hb (by omega)
    case hIx =>
      rintro c x A B ⟨rfl, a1, ⟨t1, a2⟩, ⟨t2, a3⟩, a4, a5⟩ hb
      exact ⟨rfl, a1.trans (hb.mono (by omega)), ⟨t1, (hb.block _ (by omega)).trans a2⟩, ⟨t2, (hb.block _ (by omega)).trans a3⟩, a4, a5⟩
    case h0 => exact ⟨hB5, ⟨_, h50⟩, ⟨_, h51⟩, ⟨_, h52⟩, ⟨_, h53⟩, ⟨_, h54⟩, fun j hj => by omega⟩
    case hround =>
      rintro x Wx hI hxz hxN
      obtain ⟨pa, pb, hp⟩ : ∃ a b, pairAt x = (a, b) := ⟨_, _, rfl⟩
      have hcs := codeF_small first x
      have hmt := HM.out x hxN
      rw [hp] at hmt
      simp only [encE]
      rw [hp]
      simp only at hmt ⊢
      gi_wp2
      refine ⟨KeepsHi.alloc _ _ _, ⟨(Below.refl _ Wx).alloc (by omega) _, World.cell?_alloc_old _ _ _ (by simp; omega), World.cell?_alloc_old _ _ _ (by simp; omega)⟩, fun W2 hb2 hz2 hot => ?_⟩
      have hbW : Below w5.heap.size Wx W2 := ((Below.refl _ Wx).alloc (by omega) _).trans hb2
      have hpb := (hot Wx.heap.size (by omega)).trans (World.alloc_heap_new Wx _)
      have hI2 := hI.later hbW (by omega)
      have hz : W2.heap.size = Wx.heap.size + 1 := by rw [hz2]; simp
      have HI2 := Lib.hid hI2
      obtain ⟨i0, ⟨t1, i1⟩, ⟨t2, i2⟩, ⟨t3, i3⟩, ⟨t4, i4⟩, ⟨t5, i5⟩, i6⟩ := hI2
      obtain ⟨p0, p1, q0, q1⟩ := pair_cells hpb
      obtain ⟨c0, c1, _, _⟩ := pair_cells i1
      obtain ⟨r1, v1⟩ := one_cell i2
      obtain ⟨r2, v2⟩ := one_cell i3
      obtain ⟨r3, v3⟩ := one_cell i4
      obtain ⟨r4, v4⟩ := one_cell i5
      have HI2' : Hid (W2.heap[w.heap.size + 1]? = _) := i2
      have HI3' : Hid (W2.heap[w.heap.size + 1 + 1]? = _) := i3
      have HI0 := Lib.hid i0
      have HI6 := Lib.hid i6
      have heq := fun W => pair_eq (pa : Int) (pb : Int) r L W
      have HMt := Lib.hid hmt
      have HPp := Lib.hid hp
      clear i0 i1 i2 i3 i4 i5 i6 hb2 hot hbW hpb hI hmt hp
      cases hm : ((pa : Int) == r && (pb : Int) == L) with
      | false =>
        rw [hm] at heq
        have hm2 : matchP r l (pairAt x) = false := by rw [HPp.out, HMt.out, hm]
        have HM2 := Lib.hid hm2
        clear hm hm2
        gi_wp2
        refine ⟨KeepsMid.refl _ _ _, KpB.rfl, ⟨HI0.out, HI2.out.p, HI2.out.a, HI2.out.b, HI2.out.lv, HI2.out.sg, fun j hj => ?_⟩⟩
        by_cases e : j = x
        · rw [e]; exact HM2.out
        · exact HI6.out j (by omega)
      | true =>
        rw [hm] at heq
        have hm2 : matchP r l (pairAt x) = true := by rw [HPp.out, HMt.out, hm]
        have HM2 := Lib.hid hm2
        clear hm hm2
        gi_wp2
        refine ⟨((KeepsMid.refl _ _ _).set _ _ (.inl (by simp; omega))).set _ _ (.inl (by simp; omega)), rfl, (HI0.out.setCell (p := ⟨w.heap.size + 1, 0, none⟩) (by simp) _).setCell (p := ⟨w.heap.size + 1 + 1, 0, none⟩) (by simp; omega) _, ⟨t2, ?_⟩, ⟨t3, ?_⟩, HI6.out, HM2.out⟩
        · rw [heap_setCell_other _ _ _ _ (by simp <;> omega)]
          exact heap_setCell_same _ (w.heap.size + 1) 0 _ _ _ HI2'.out
        · exact heap_setCell_same _ (w.heap.size + 1 + 1) 0 _ _ _ ((heap_setCell_other _ _ _ _ (by simp <;> omega)).trans HI3'.out)
    case hdone =>
      rintro D W' rfl hI hD
      obtain ⟨i0, ⟨t1, i1⟩, ⟨t2, i2⟩, ⟨t3, i3⟩, ⟨t4, i4⟩, ⟨t5, i5⟩, i6⟩ := hI
      obtain ⟨r1, v1⟩ := one_cell i2
      obtain ⟨r2, v2⟩ := one_cell i3
      obtain ⟨R1, R2⟩ := HR1.out i6
      have HI2' : Hid (W'.heap[w.heap.size + 1]? = _) := i2
      have HI3' : Hid (W'.heap[w.heap.size + 1 + 1]? = _) := i3
      have HR1' := Lib.hid R1
      have HR2' := Lib.hid R2
      clear i1 i2 i3 i4 i5 R1 R2
      gi_wp2
      have hX1 : ((W'.setCell ⟨w.heap.size + 1, 0, none⟩ (.string ⟨#[]⟩)).setCell ⟨w.heap.size + 1 + 1, 0, none⟩ (.bool false)).heap[w.heap.size + 1]? = some (.cells #[.string ⟨#[]⟩] t2 (0, 0)) := by
        rw [heap_setCell_other _ _ _ _ (by simp <;> omega)]
        exact heap_setCell_same _ (w.heap.size + 1) 0 _ _ _ HI2'.out
      have hX2 : ((W'.setCell ⟨w.heap.size + 1, 0, none⟩ (.string ⟨#[]⟩)).setCell ⟨w.heap.size + 1 + 1, 0, none⟩ (.bool false)).heap[w.heap.size + 1 + 1]? = some (.cells #[.bool false] t3 (0, 0)) :=
        heap_setCell_same _ (w.heap.size + 1 + 1) 0 _ _ _ ((heap_setCell_other _ _ _ _ (by simp <;> omega)).trans HI3'.out)
      have hBX : Below w.heap.size w ((W'.setCell ⟨w.heap.size + 1, 0, none⟩ (.string ⟨#[]⟩)).setCell ⟨w.heap.size + 1 + 1, 0, none⟩ (.bool false)) := (i0.setCell (p := ⟨w.heap.size + 1, 0, none⟩) (by simp) _).setCell (p := ⟨w.heap.size + 1 + 1, 0, none⟩) (by simp; omega) _
      have hDX : ((W'.setCell ⟨w.heap.size + 1, 0, none⟩ (.string ⟨#[]⟩)).setCell ⟨w.heap.size + 1 + 1, 0, none⟩ (.bool false)).heap[w5.heap.size]? = some (.deferred (some [])) := by
        rw [heap_setCell_other _ _ _ _ (by simp <;> omega), heap_setCell_other _ _ _ _ (by simp <;> omega)]
        exact hD
      have hDX5 := hDX
      refine leaves_marks (B := w.heap.size + 6) [_] (w.heap.size + 7) _ ⟨w5.heap.size, rfl, by omega, by omega, hDX, trivial⟩ (fun W3 hb => ?_)
      obtain ⟨q0, _⟩ := one_cell ((hb.block (w.heap.size + 1) (by omega)).trans hX1)
      obtain ⟨q1, _⟩ := one_cell ((hb.block (w.heap.size + 1 + 1) (by omega)).trans hX2)
      exact ⟨.tuple #[.string ⟨#[]⟩, .bool false], by simp [results, Tryz.f91, go_sem, q0, q1], by rw [HR1'.out, HR2'.out], hBX.trans (hb.mono (by omega))⟩
    case hstop =>
      rintro D c x W' rfl hx ⟨rfl, i0, ⟨t1, i1⟩, ⟨t2, i2⟩, i3, i4⟩ hD
      obtain ⟨R1, R2⟩ := HR2.out x hx i3 i4
      have HR1' := Lib.hid R1
      have HR2' := Lib.hid R2
      clear R1 R2
      gi_wp2
      refine leaves_marks (B := w.heap.size + 6) [_] (w.heap.size + 7) _ ⟨w5.heap.size, rfl, by omega, by omega, hD, trivial⟩ (fun W3 hb => ?_)
      obtain ⟨q0, _⟩ := one_cell ((hb.block (w.heap.size + 1) (by omega)).trans i1)
      obtain ⟨q1, _⟩ := one_cell ((hb.block (w.heap.size + 1 + 1) (by omega)).trans i2)
      exact ⟨.tuple #[.string (codeF first x ++ ⟨#[49]⟩), .bool true], by simp [results, Tryz.f91, go_sem, q0, q1], by rw [HR1'.out, HR2'.out], i0.trans (hb.mono (by omega))⟩
  · have hLl : L = l := by rw [hL]; unfold absL; rw [if_neg hneg]
    have hsgn : sg = ⟨#[48]⟩ := by rw [hsg]; unfold signS; rw [if_neg hneg]; rfl
    clear hL hsg
    gi_wp2_with (refine ⟨trivial, ?_⟩; gi_at_call 116; refine (HT.out _).mono ?_; rintro e w' ⟨rfl, rfl⟩)
    subst hsgn
    rw [hLl] at HM
    have hB5 : Below w.heap.size w ((((((w.alloc (Obj.cells #[Value.int IntKind.i64 r, Value.int IntKind.i64 l] 66)).alloc (Obj.cells #[Value.string ⟨#[]⟩] 9)).alloc (Obj.cells #[Value.bool false] 4)).alloc (Obj.cells #[Value.int IntKind.i64 l] 3)).alloc (Obj.cells #[Value.string ⟨#[48]⟩] 9)).alloc (Obj.cells #[Value.bool first] 4)) :=
      ((((((Below.refl _ w).alloc (Nat.le_refl _) _).alloc (by simp) _).alloc (by simp; omega) _).alloc (by simp; omega) _).alloc (by simp; omega) _).alloc (by simp; omega) _
    have h50 : ((((((w.alloc (Obj.cells #[Value.int IntKind.i64 r, Value.int IntKind.i64 l] 66)).alloc (Obj.cells #[Value.string ⟨#[]⟩] 9)).alloc (Obj.cells #[Value.bool false] 4)).alloc (Obj.cells #[Value.int IntKind.i64 l] 3)).alloc (Obj.cells #[Value.string ⟨#[48]⟩] 9)).alloc (Obj.cells #[Value.bool first] 4)).heap[w.heap.size]? = some (Obj.cells #[Value.int IntKind.i64 r, Value.int IntKind.i64 l] 66) := heap_keep (heap_keep (heap_keep (heap_keep (heap_keep (heap_new _ rfl _) _) _) _) _) _
    have h51 : ((((((w.alloc (Obj.cells #[Value.int IntKind.i64 r, Value.int IntKind.i64 l] 66)).alloc (Obj.cells #[Value.string ⟨#[]⟩] 9)).alloc (Obj.cells #[Value.bool false] 4)).alloc (Obj.cells #[Value.int IntKind.i64 l] 3)).alloc (Obj.cells #[Value.string ⟨#[48]⟩] 9)).alloc (Obj.cells #[Value.bool first] 4)).heap[w.heap.size + 1]? = some (Obj.cells #[Value.string ⟨#[]⟩] 9) := heap_keep (heap_keep (heap_keep (heap_keep (heap_new _ (by simp) _) _) _) _) _
    have h52 : ((((((w.alloc (Obj.cells #[Value.int IntKind.i64 r, Value.int IntKind.i64 l] 66)).alloc (Obj.cells #[Value.string ⟨#[]⟩] 9)).alloc (Obj.cells #[Value.bool false] 4)).alloc (Obj.cells #[Value.int IntKind.i64 l] 3)).alloc (Obj.cells #[Value.string ⟨#[48]⟩] 9)).alloc (Obj.cells #[Value.bool first] 4)).heap[w.heap.size + 1 + 1]? = some (Obj.cells #[Value.bool false] 4) := heap_keep (heap_keep (heap_keep (heap_new _ (by simp) _) _) _) _
    have h53 : ((((((w.alloc (Obj.cells #[Value.int IntKind.i64 r, Value.int IntKind.i64 l] 66)).alloc (Obj.cells #[Value.string ⟨#[]⟩] 9)).alloc (Obj.cells #[Value.bool false] 4)).alloc (Obj.cells #[Value.int IntKind.i64 l] 3)).alloc (Obj.cells #[Value.string ⟨#[48]⟩] 9)).alloc (Obj.cells #[Value.bool first] 4)).heap[w.heap.size + 1 + 1 + 1]? = some (Obj.cells #[Value.int IntKind.i64 l] 3) := heap_keep (heap_keep (heap_new _ (by simp) _) _) _
    have h54 : ((((((w.alloc (Obj.cells #[Value.int IntKind.i64 r, Value.int IntKind.i64 l] 66)).alloc (Obj.cells #[Value.string ⟨#[]⟩] 9)).alloc (Obj.cells #[Value.bool false] 4)).alloc (Obj.cells #[Value.int IntKind.i64 l] 3)).alloc (Obj.cells #[Value.string ⟨#[48]⟩] 9)).alloc (Obj.cells #[Value.bool first] 4)).heap[w.heap.size + 1 + 1 + 1 + 1]? = some (Obj.cells #[Value.string ⟨#[48]⟩] 9) := heap_keep (heap_new _ (by simp) _) _
    have h55 : ((((((w.alloc (Obj.cells #[Value.int IntKind.i64 r, Value.int IntKind.i64 l] 66)).alloc (Obj.cells #[Value.string ⟨#[]⟩] 9)).alloc (Obj.cells #[Value.bool false] 4)).alloc (Obj.cells #[Value.int IntKind.i64 l] 3)).alloc (Obj.cells #[Value.string ⟨#[48]⟩] 9)).alloc (Obj.cells #[Value.bool first] 4)).heap[w.heap.size + 1 + 1 + 1 + 1 + 1]? = some (Obj.cells #[Value.bool first] 4) := heap_new _ (by simp) _
    have h5z : ((((((w.alloc (Obj.cells #[Value.int IntKind.i64 r, Value.int IntKind.i64 l] 66)).alloc (Obj.cells #[Value.string ⟨#[]⟩] 9)).alloc (Obj.cells #[Value.bool false] 4)).alloc (Obj.cells #[Value.int IntKind.i64 l] 3)).alloc (Obj.cells #[Value.string ⟨#[48]⟩] 9)).alloc (Obj.cells #[Value.bool first] 4)).heap.size = w.heap.size + 6 := by simp
    generalize (((((w.alloc (Obj.cells #[Value.int IntKind.i64 r, Value.int IntKind.i64 l] 66)).alloc (Obj.cells #[Value.string ⟨#[]⟩] 9)).alloc (Obj.cells #[Value.bool false] 4)).alloc (Obj.cells #[Value.int IntKind.i64 l] 3)).alloc (Obj.cells #[Value.string ⟨#[48]⟩] 9)).alloc (Obj.cells #[Value.bool first] 4) = w5 at *
    refine wpIn_range_T rfl hn1 (gf := 131) (lb := #[.pointer (some ⟨w.heap.size + 1 + 1 + 1 + 1 + 1, 0, none⟩)]) rfl trivial (enters_of Tryz.func131 (by kernel_rfl) rfl)
      (etable_T (n - 1) (by omega) w.heap.size (w.heap.size + 1 + 1 + 1 + 1 + 1) first w5 (by omega) (by omega) hgm (one_cell h55).1 (HSp.out _ hB5))
      KpB.t (fun W' r' o' h => KpB.b (w := w5) (by omega) (by omega) (by omega) W' _ _ o' (by omega) h rfl rfl) (Below.refl _ _) (fun _ => rfl)
      (fun x Wx => TInv w r l l ⟨#[48]⟩ first x Wx)
      (fun c x Wx => c = .ret ∧ TEnd w r l ⟨#[48]⟩ first x Wx)
      ?hI ?hIx ?h0 ?hround ?hdone ?hstop
    case hI =>
      intro x A B h hb
      exact h.later hb (by omega)
    case hIx =>
      rintro c x A B ⟨rfl, a1, ⟨t1, a2⟩, ⟨t2, a3⟩, a4, a5⟩ hb
      exact ⟨rfl, a1.trans (hb.mono (by omega)), ⟨t1, (hb.block _ (by omega)).trans a2⟩, ⟨t2, (hb.block _ (by omega)).trans a3⟩, a4, a5⟩
    case h0 => exact ⟨hB5, ⟨_, h50⟩, ⟨_, h51⟩, ⟨_, h52⟩, ⟨_, h53⟩, ⟨_, h54⟩, fun j hj => by omega⟩
    case hround =>
      rintro x Wx hI hxz hxN
      obtain ⟨pa, pb, hp⟩ : ∃ a b, pairAt x = (a, b) := ⟨_, _, rfl⟩
      have hcs := codeF_small first x
      have hmt := HM.out x hxN
      rw [hp] at hmt
      simp only [encE]
      rw [hp]
      simp only at hmt ⊢
      gi_wp2
      refine ⟨KeepsHi.alloc _ _ _, ⟨(Below.refl _ Wx).alloc (by omega) _, World.cell?_alloc_old _ _ _ (by simp; omega), World.cell?_alloc_old _ _ _ (by simp; omega)⟩, fun W2 hb2 hz2 hot => ?_⟩
      have hbW : Below w5.heap.size Wx W2 := ((Below.refl _ Wx).alloc (by omega) _).trans hb2
      have hpb := (hot Wx.heap.size (by omega)).trans (World.alloc_heap_new Wx _)
      have hI2 := hI.later hbW (by omega)
      have hz : W2.heap.size = Wx.heap.size + 1 := by rw [hz2]; simp
      have HI2 := Lib.hid hI2
      obtain ⟨i0, ⟨t1, i1⟩, ⟨t2, i2⟩, ⟨t3, i3⟩, ⟨t4, i4⟩, ⟨t5, i5⟩, i6⟩ := hI2
      obtain ⟨p0, p1, q0, q1⟩ := pair_cells hpb
      obtain ⟨c0, c1, _, _⟩ := pair_cells i1
      obtain ⟨r1, v1⟩ := one_cell i2
      obtain ⟨r2, v2⟩ := one_cell i3
      obtain ⟨r3, v3⟩ := one_cell i4
      obtain ⟨r4, v4⟩ := one_cell i5
      have HI2' : Hid (W2.heap[w.heap.size + 1]? = _) := i2
      have HI3' : Hid (W2.heap[w.heap.size + 1 + 1]? = _) := i3
      have HI0 := Lib.hid i0
      have HI6 := Lib.hid i6
      have heq := fun W => pair_eq (pa : Int) (pb : Int) r l W
      have HMt := Lib.hid hmt
      have HPp := Lib.hid hp
      clear i0 i1 i2 i3 i4 i5 i6 hb2 hot hbW hpb hI hmt hp
      cases hm : ((pa : Int) == r && (pb : Int) == l) with
      | false =>
        rw [hm] at heq
        have hm2 : matchP r l (pairAt x) = false := by rw [HPp.out, HMt.out, hm]
        have HM2 := Lib.hid hm2
        clear hm hm2
        gi_wp2
        refine ⟨KeepsMid.refl _ _ _, KpB.rfl, ⟨HI0.out, HI2.out.p, HI2.out.a, HI2.out.b, HI2.out.lv, HI2.out.sg, fun j hj => ?_⟩⟩
        by_cases e : j = x
        · rw [e]; exact HM2.out
        · exact HI6.out j (by omega)
      | true =>
        rw [hm] at heq
        have hm2 : matchP r l (pairAt x) = true := by rw [HPp.out, HMt.out, hm]
        have HM2 := Lib.hid hm2
        clear hm hm2
        gi_wp2
        refine ⟨((KeepsMid.refl _ _ _).set _ _ (.inl (by simp; omega))).set _ _ (.inl (by simp; omega)), rfl, (HI0.out.setCell (p := ⟨w.heap.size + 1, 0, none⟩) (by simp) _).setCell (p := ⟨w.heap.size + 1 + 1, 0, none⟩) (by simp; omega) _, ⟨t2, ?_⟩, ⟨t3, ?_⟩, HI6.out, HM2.out⟩
        · rw [heap_setCell_other _ _ _ _ (by simp <;> omega)]
          exact heap_setCell_same _ (w.heap.size + 1) 0 _ _ _ HI2'.out
        · exact heap_setCell_same _ (w.heap.size + 1 + 1) 0 _ _ _ ((heap_setCell_other _ _ _ _ (by simp <;> omega)).trans HI3'.out)
    case hdone =>
      rintro D W' rfl hI hD
      obtain ⟨i0, ⟨t1, i1⟩, ⟨t2, i2⟩, ⟨t3, i3⟩, ⟨t4, i4⟩, ⟨t5, i5⟩, i6⟩ := hI
      obtain ⟨r1, v1⟩ := one_cell i2
      obtain ⟨r2, v2⟩ := one_cell i3
      obtain ⟨R1, R2⟩ := HR1.out i6
      have HI2' : Hid (W'.heap[w.heap.size + 1]? = _) := i2
      have HI3' : Hid (W'.heap[w.heap.size + 1 + 1]? = _) := i3
      have HR1' := Lib.hid R1
      have HR2' := Lib.hid R2
      clear i1 i2 i3 i4 i5 R1 R2
      gi_wp2
      have hX1 : ((W'.setCell ⟨w.heap.size + 1, 0, none⟩ (.string ⟨#[]⟩)).setCell ⟨w.heap.size + 1 + 1, 0, none⟩ (.bool false)).heap[w.heap.size + 1]? = some (.cells #[.string ⟨#[]⟩] t2 (0, 0)) := by
        rw [heap_setCell_other _ _ _ _ (by simp <;> omega)]
        exact heap_setCell_same _ (w.heap.size + 1) 0 _ _ _ HI2'.out
      have hX2 : ((W'.setCell ⟨w.heap.size + 1, 0, none⟩ (.string ⟨#[]⟩)).setCell ⟨w.heap.size + 1 + 1, 0, none⟩ (.bool false)).heap[w.heap.size + 1 + 1]? = some (.cells #[.bool false] t3 (0, 0)) :=
        heap_setCell_same _ (w.heap.size + 1 + 1) 0 _ _ _ ((heap_setCell_other _ _ _ _ (by simp <;> omega)).trans HI3'.out)
      have hBX : Below w.heap.size w ((W'.setCell ⟨w.heap.size + 1, 0, none⟩ (.string ⟨#[]⟩)).setCell ⟨w.heap.size + 1 + 1, 0, none⟩ (.bool false)) := (i0.setCell (p := ⟨w.heap.size + 1, 0, none⟩) (by simp) _).setCell (p := ⟨w.heap.size + 1 + 1, 0, none⟩) (by simp; omega) _
      have hDX : ((W'.setCell ⟨w.heap.size + 1, 0, none⟩ (.string ⟨#[]⟩)).setCell ⟨w.heap.size + 1 + 1, 0, none⟩ (.bool false)).heap[w5.heap.size]? = some (.deferred (some [])) := by
        rw [heap_setCell_other _ _ _ _ (by simp <;> omega), heap_setCell_other _ _ _ _ (by simp <;> omega)]
        exact hD
      have hDX5 := hDX
      refine leaves_marks (B := w.heap.size + 6) [_] (w.heap.size + 7) _ ⟨w5.heap.size, rfl, by omega, by omega, hDX, trivial⟩ (fun W3 hb => ?_)
      obtain ⟨q0, _⟩ := one_cell ((hb.block (w.heap.size + 1) (by omega)).trans hX1)
      obtain ⟨q1, _⟩ := one_cell ((hb.block (w.heap.size + 1 + 1) (by omega)).trans hX2)
      exact ⟨.tuple #[.string ⟨#[]⟩, .bool false], by simp [results, Tryz.f91, go_sem, q0, q1], by rw [HR1'.out, HR2'.out], hBX.trans (hb.mono (by omega))⟩
    case hstop =>
      rintro D c x W' rfl hx ⟨rfl, i0, ⟨t1, i1⟩, ⟨t2, i2⟩, i3, i4⟩ hD
      obtain ⟨R1, R2⟩ := HR2.out x hx i3 i4
      have HR1' := Lib.hid R1
      have HR2' := Lib.hid R2
      clear R1 R2
      gi_wp2
      refine leaves_marks (B := w.heap.size + 6) [_] (w.heap.size + 7) _ ⟨w5.heap.size, rfl, by omega, by omega, hD, trivial⟩ (fun W3 hb => ?_)
      obtain ⟨q0, _⟩ := one_cell ((hb.block (w.heap.size + 1) (by omega)).trans i1)
      obtain ⟨q1, _⟩ := one_cell ((hb.block (w.heap.size + 1 + 1) (by omega)).trans i2)
      exact ⟨.tuple #[.string (codeF first x ++ ⟨#[48]⟩), .bool true], by simp [results, Tryz.f91, go_sem, q0, q1], by rw [HR1'.out, HR2'.out], i0.trans (hb.mono (by omega))⟩

theorem short_any (r l : Int) (hl1 : -9223372036854775808 ≤ l) (hl2 : l ≤ 9223372036854775807) (first : Bool) (w : World) (hSp : Spc w) :
    Calls Tryz.prog 91 #[pairV r l, .bool first] w fun e w' => e = .returned (.tuple #[.string (shortS first r l), .bool (shortB r l)]) ∧ Below w.heap.size w w' := callsIn_wide.1 (short_in 12 (by omega) r l hl1 hl2 first w hSp)

end Go.Proofs.YtbcfiafgolcbpaaGreatDoor

/- coeff's Get, Put, Short: what they answer. -/
/- What is told by a text of bits, and by the tree of all codes: the same. -/
namespace Go.Proofs.YtbcfiafgolcbpaaGreatDoor
open Go.RowKit Go.Shelf
set_option linter.unusedVariables false

theorem seen_begins_iff (zs : List UInt8) (a n : Nat) (c : ByteArray) : begins (seenB zs a n) c = true ↔ c.size ≤ n ∧ ∀ i, i < c.size → c.data.toList[i]? = some (UInt8.ofNat (48 + bt zs (a + i))) := by
  have hcl : c.data.toList.length = c.size := by simp
  have hsl : (seenB zs a n).data.toList = seenL zs a n := rfl
  have hn : (seenL zs a n).length = n := by simp [seenL]
  have hg : ∀ i, i < n → (seenL zs a n)[i]? = some (UInt8.ofNat (48 + bt zs (a + i))) := fun i hi => by
    unfold seenL
    rw [List.getElem?_map, List.getElem?_range hi]
    rfl
  unfold begins
  rw [decide_eq_true_iff, hsl]
  constructor
  · intro h
    have hle := h.length_le
    rw [hcl, hn] at hle
    refine ⟨hle, fun i hi => ?_⟩
    obtain ⟨t, ht⟩ := h
    have h2 := hg i (by omega)
    rw [← ht, List.getElem?_append_left (by rw [hcl]; exact hi)] at h2
    exact h2
  · rintro ⟨hle, h⟩
    rw [List.prefix_iff_eq_take]
    apply List.ext_getElem?
    intro i
    by_cases hi : i < c.size
    · rw [List.getElem?_take, if_pos (by rw [hcl]; exact hi), h i hi, hg i (by omega)]
    · rw [List.getElem?_eq_none (by rw [hcl]; omega), List.getElem?_eq_none (by simp; omega)]
theorem seen_begins_eq (zs : List UInt8) (a n m : Nat) (c : ByteArray) (h1 : c.size ≤ n) (h2 : c.size ≤ m) : begins (seenB zs a n) c = begins (seenB zs a m) c := by
  rw [Bool.eq_iff_iff, seen_begins_iff, seen_begins_iff]
  exact ⟨fun h => ⟨h2, h.2⟩, fun h => ⟨h1, h.2⟩⟩
theorem findIdx_congr {α : Type} {p q : α → Bool} : ∀ (l : List α), (∀ x ∈ l, p x = q x) → l.findIdx? p = l.findIdx? q
  | [], _ => rfl
  | a :: l, h => by
    rw [List.findIdx?_cons, List.findIdx?_cons, h a (by simp), findIdx_congr l (fun x hx => h x (by simp [hx]))]
theorem gotS_look (first : Bool) (zs : List UInt8) (a : Nat) : gotS first zs a (seenB zs a (seenN zs a)) = gotS first zs a (seenB zs a (lookN zs a)) := by
  by_cases hm : 8 * zs.length - a ≤ 20
  · rw [show seenN zs a = lookN zs a by unfold seenN lookN; omega]
  · have h1 : 20 ≤ seenN zs a := by unfold seenN; omega
    have h2 : lookN zs a = 20 := by unfold lookN; omega
    have e1 : getI (codesF first) (seenB zs a (seenN zs a)) = getI (codesF first) (seenB zs a (lookN zs a)) :=
      findIdx_congr _ (fun c hc => seen_begins_eq zs a _ _ c (by have := (codesF_bits first c hc).2.2; omega) (by have := (codesF_bits first c hc).2.2; omega))
    have e2 : ∀ n, 20 ≤ n → getMore (codesF first) (seenB zs a n) = false := fun n hn => by
      unfold getMore
      rw [List.any_eq_false]
      intro c hc
      have := (codesF_bits first c hc).2.2
      rw [begins_lt (by rw [seenB_size]; omega)]
      decide
    unfold gotS
    rw [e1, e2 _ h1, e2 (lookN zs a) (by omega)]

theorem esc_at (first : Bool) : ∃ k, k < (codesF first).length ∧ (codesF first)[k]?.getD ⟨#[]⟩ = esc8 ∧ ¬ k < 63 ∧ ¬ (first = false ∧ k = 63) := by
  cases first
  · exact ⟨64, by decide, by decide +kernel, by omega, by simp⟩
  · exact ⟨63, by decide, by decide +kernel, by omega, by simp⟩
theorem gotS_esc {first : Bool} {zs : List UInt8} {a : Nat} {S : ByteArray} (h : begins S esc8 = true) : gotS first zs a S = escG zs a := by
  obtain ⟨k, h1, h2, h3, h4⟩ := esc_at first
  have hI := codes_one (clashF first) h1 (by rw [h2]; exact h)
  unfold gotS
  rw [hI]
  simp only
  rw [if_neg h3, if_neg h4]
theorem gotS_end {zs : List UInt8} {a : Nat} {S : ByteArray} (h : begins S end8 = true) : gotS false zs a S = ⟨0, 0, true, 2, 0⟩ := by
  have hI := codes_one (clashF false) (k := 63) (by decide) (by rw [show (codesF false)[63]?.getD ⟨#[]⟩ = end8 by decide +kernel]; exact h)
  unfold gotS
  rw [hI]
  rfl

theorem stopB_iff (c S : ByteArray) : stopB c S = true ↔ begins c S = true ∨ begins S c = true := by unfold stopB; rw [Bool.or_eq_true]
theorem stopB_no {c S : ByteArray} (h : stopB c S = false) : begins c S = false ∧ begins S c = false := by unfold stopB at h; simpa using h
/-- what begins the escape or the end, but is neither, begins a code of the table -/
theorem begin_esc {first : Bool} {S : ByteArray} (h : begins esc8 S = true) (h2 : begins S esc8 = false) : begins (codeF first 6) S = true := by
  have hlt := begins_strict h h2
  unfold begins at *
  rw [decide_eq_true_iff] at *
  have h5 : S.data.toList <+: [48, 48, 48, 48, 48] := by
    have e : esc8.data.toList = [48, 48, 48, 48, 48, 49] := by decide +kernel
    rw [e] at h
    rw [List.prefix_iff_eq_take] at h ⊢
    have hl : S.data.toList.length ≤ 5 := by
      have : esc8.size = 6 := by decide +kernel
      simp
      omega
    have e2 : [48, 48, 48, 48, 48, 49] = [48, 48, 48, 48, 48] ++ [(49 : UInt8)] := rfl
    rw [e2, List.take_append_of_le_length (by simpa using hl)] at h
    exact h
  exact h5.trans ((by decide +kernel : ∀ b, [48, 48, 48, 48, 48] <+: (codeF b 6).data.toList) first)
theorem begin_end {S : ByteArray} (h : begins end8 S = true) (h2 : begins S end8 = false) : begins (codeF false 0) S = true := by
  have hlt := begins_strict h h2
  unfold begins at *
  rw [decide_eq_true_iff] at *
  have h5 : S.data.toList <+: [49] := by
    have e : end8.data.toList = [49, 48] := by decide +kernel
    rw [e] at h
    rw [List.prefix_iff_eq_take] at h ⊢
    have hl : S.data.toList.length ≤ 1 := by
      have : end8.size = 2 := by decide +kernel
      simp
      omega
    have e2 : [49, 48] = [49] ++ [(48 : UInt8)] := rfl
    rw [e2, List.take_append_of_le_length (by simpa using hl)] at h
    exact h
  exact h5.trans (by decide +kernel : [49] <+: (codeF false 0).data.toList)

theorem codesF_end (first : Bool) : ∀ c ∈ codesF first, (∃ k, k < 63 ∧ c = codeF first k) ∨ c = esc8 ∨ (first = false ∧ c = end8) := by
  intro c hc
  unfold codesF at hc
  rw [List.mem_append] at hc
  rcases hc with hc | hc
  · obtain ⟨k, hk, rfl⟩ := List.mem_map.1 hc
    exact .inl ⟨k, by simpa using hk, rfl⟩
  · cases first
    · simp at hc
      rcases hc with rfl | rfl
      · exact .inr (.inr ⟨rfl, rfl⟩)
      · exact .inr (.inl rfl)
    · simp at hc
      exact .inr (.inl hc)
theorem begins_refl (S : ByteArray) : begins S S = true := by unfold begins; exact decide_eq_true (List.prefix_refl _)

theorem seen_bit (zs : List UInt8) (a n k : Nat) (h : k < n) : ((seenB zs a n).data.toList[k]?.getD 48 = 49) ↔ bt zs (a + k) = 1 := by
  have hb := bt_le zs (a + k)
  have e : (seenB zs a n).data.toList[k]? = some (UInt8.ofNat (48 + bt zs (a + k))) := by
    show (seenL zs a n)[k]? = _
    unfold seenL
    rw [List.getElem?_map, List.getElem?_range h]
    rfl
  rw [e]
  simp only [Option.getD_some]
  obtain h | h : bt zs (a + k) = 0 ∨ bt zs (a + k) = 1 := by omega
  · rw [h]; decide
  · rw [h]; decide

theorem gotS_sig {first : Bool} {zs : List UInt8} {a : Nat} {e : Ending} (h1 : begins (seenB zs a (lookN zs a)) esc8 = false) (h2 : first = true ∨ begins (seenB zs a (lookN zs a)) end8 = false)
    (hR : SignedR (seenB zs a (lookN zs a)) first e) : e = .returned (threeV (gotS first zs a (seenB zs a (lookN zs a)))) ∧ (gotS first zs a (seenB zs a (lookN zs a))).over = false := by
  have hSz := seenB_size zs a (lookN zs a)
  have hbit := fun k h => seen_bit zs a (lookN zs a) k h
  generalize seenB zs a (lookN zs a) = S at *
  have key : ∀ k, k < 63 → begins S (codeF first k) = true → getI (codesF first) S = some k := fun k hk hb =>
    codes_one (clashF first) (by rw [codesF_len]; split <;> omega) (by rw [(codesF_at first hk).1]; exact hb)
  rcases hR with ⟨k, hk, hno, hst, rfl⟩ | ⟨hno, rfl⟩
  · have hcs := codeF_small first k
    by_cases hb : begins S (codeF first k) = true
    · have hI := key k hk hb
      have hsz := begins_size hb
      unfold gotS
      rw [hI]
      simp only
      rw [if_pos hk]
      unfold sigC tabG
      by_cases hc : begins (codeF first k) S = true
      · have := begins_size hc
        rw [if_pos hc, if_pos (show 8 * zs.length ≤ a + (codeF first k).size by unfold lookN at hSz; omega)]
        exact ⟨by first | rfl | trivial, by first | rfl | trivial⟩
      · have hlt := begins_strict hb (by simpa using hc)
        rw [if_neg hc, if_neg (show ¬ 8 * zs.length ≤ a + (codeF first k).size by unfold lookN at hSz; omega)]
        have := hbit (codeF first k).size (by omega)
        by_cases h49 : bt zs (a + (codeF first k).size) = 1
        · rw [if_pos h49, if_pos (this.2 h49)]
          exact ⟨by first | rfl | trivial, by first | rfl | trivial⟩
        · rw [if_neg h49, if_neg (fun h => h49 (this.1 h))]
          exact ⟨by first | rfl | trivial, by first | rfl | trivial⟩
    · have hc : begins (codeF first k) S = true := ((stopB_iff _ _).1 hst).resolve_right hb
      have hI : getI (codesF first) S = none := by
        cases hg : getI (codesF first) S with
        | none => rfl
        | some j =>
          exfalso
          obtain ⟨j1, j2⟩ := getI_lt hg
          have hj := begins_transC hc j2
          have := codes_apart (clashF first) (i := k) (j := j) (by rw [codesF_len]; split <;> omega) j1 (by rw [(codesF_at first hk).1]; exact hj)
          subst this
          rw [(codesF_at first hk).1] at j2
          exact hb j2
      have hM : getMore (codesF first) S = true := getMore_true (k := k) (by rw [codesF_len]; split <;> omega) (by rw [(codesF_at first hk).1]; exact hc)
      unfold gotS sigC
      rw [hI, if_pos hc]
      simp only
      rw [if_pos hM]
      exact ⟨by first | rfl | trivial, by first | rfl | trivial⟩
  · have hI : getI (codesF first) S = none := by
      unfold getI
      rw [List.findIdx?_eq_none_iff]
      intro c hc
      rcases codesF_end first c hc with ⟨k, hk, rfl⟩ | rfl | ⟨rfl, rfl⟩
      · exact (stopB_no (hno k hk)).2
      · exact h1
      · exact h2.resolve_left (by decide)
    have hM : getMore (codesF first) S = false := by
      unfold getMore
      rw [List.any_eq_false]
      intro c hc
      rw [Bool.not_eq_true]
      rcases codesF_end first c hc with ⟨k, hk, rfl⟩ | rfl | ⟨rfl, rfl⟩
      · exact (stopB_no (hno k hk)).1
      · rw [Bool.eq_false_iff]
        intro h
        have := begin_esc (first := first) h h1
        rw [(stopB_no (hno 6 (by omega))).1] at this
        cases this
      · rw [Bool.eq_false_iff]
        intro h
        have := begin_end h (h2.resolve_left (by decide))
        rw [(stopB_no (hno 0 (by omega))).1] at this
        cases this
    unfold gotS
    rw [hI]
    simp only
    rw [hM, if_neg (by decide)]
    exact ⟨by first | rfl | trivial, by first | rfl | trivial⟩

end Go.Proofs.YtbcfiafgolcbpaaGreatDoor

/- The contracts of coeff's Short, Put and Get: the record. -/
namespace Go.Proofs.YtbcfiafgolcbpaaGreatDoor
open Go.RowKit Go.Shelf
set_option linter.unusedVariables false
set_option maxRecDepth 100000 in
set_option maxHeartbeats 2000000 in
theorem eput_any (r l : Int) (first : Bool) (w : World) (hT : Lay8 w) (hl1 : -9223372036854775808 ≤ l) (hl2 : l ≤ 9223372036854775807) :
    Calls Tryz.prog 62 #[pairV r l, .bool first] w fun e w' => e = .returned (.tuple #[.string (putS8 first r l), .int .i64 (putE8 r l)]) ∧ Below w.heap.size w w' := by
  have hb0 : Below w.heap.size w (w.alloc (.cells #[.int .i64 r, .int .i64 l] 66 (0, 0))) := (Below.refl _ w).alloc (Nat.le_refl _) _
  have HT := Lib.hid (fun w' (hb : Below w.heap.size w w') => hT.below hb)
  have HK := Lib.hid (fun w => eisPair_any r l w)
  have HS := Lib.hid (fun w hS => short_any r l hl1 hl2 first w hS)
  have HE := Lib.hid (fun w hT => eescape_any r l w hT)
  obtain ⟨z0, z1⟩ := two_cells w (.int .i64 r) (.int .i64 l) 66
  have hsz : (w.alloc (.cells #[.int .i64 r, .int .i64 l] 66 (0, 0))).heap.size = w.heap.size + 1 := by simp
  have HB0 := Lib.hid hb0
  clear hT hb0
  cases hp : isP r l with
  | false =>
    rw [hp] at HK
    rw [show putS8 first r l = ⟨#[]⟩ by unfold putS8; rw [hp]; rfl, show putE8 r l = 3 by unfold putE8; rw [hp]; rfl]
    go_enter Tryz.func62, Tryz.ntmps62
    go_wp2_with (go_at_call 90; refine (HK.out _).mono ?_; rintro e w2 ⟨rfl, rfl⟩)
    go_ret2
    exact ⟨rfl, HB0.out.alloc (by simp) _⟩
  | true =>
    rw [hp] at HK
    have hE8 : escS8 r l = escS r l := by unfold escS8; rw [hp]; rfl
    have hE0 : putE8 r l = 0 := by unfold putE8; rw [hp]; rfl
    rw [hE8, hE0] at HE
    rw [hE0, show putS8 first r l = putP first r l by unfold putS8; rw [hp]; rfl]
    clear hE8 hE0 hp
    cases ht : tabI r l with
    | none =>
      rw [show putP first r l = escS r l by unfold putP; rw [ht]]
      rw [show shortS first r l = ⟨#[]⟩ by unfold shortS; rw [ht], show shortB r l = false by unfold shortB; rw [ht]; rfl] at HS
      generalize escS r l = s at *
      clear ht
      go_enter Tryz.func62, Tryz.ntmps62
      go_wp2_with fail
      generalize w.alloc (.cells #[.int .i64 r, .int .i64 l] 66 (0, 0)) = w1 at *
      refine (HK.out _).mono ?_
      rintro e w2 ⟨rfl, hw2⟩
      have b2 : Below w1.heap.size w1 w2 := by rw [hw2]; exact (Below.refl _ _).alloc (Nat.le_refl _) _
      clear hw2
      have hx0 := (b2.cell (p := ⟨w.heap.size, 0, none⟩) (by simp; omega)).trans z0
      have hx1 := (b2.cell (p := ⟨w.heap.size, 1, none⟩) (by simp; omega)).trans z1
      have hs2 := b2.size
      have B2 := HB0.out.trans (b2.mono (by omega))
      clear b2 z0 z1
      go_wp2_with fail
      refine (HS.out _ (HT.out _ B2).1).mono ?_
      rintro e w3 ⟨rfl, b3⟩
      have y0 := (b3.cell (p := ⟨w.heap.size, 0, none⟩) (by simp; omega)).trans hx0
      have y1 := (b3.cell (p := ⟨w.heap.size, 1, none⟩) (by simp; omega)).trans hx1
      have B3 := B2.trans (b3.mono (by omega))
      have hs3 := b3.size
      clear hx0 hx1 b3
      go_wp2_with fail
      refine (HE.out _ (HT.out _ B3).2).mono ?_
      rintro e w4 ⟨rfl, b4⟩
      go_wp2
      go_ret2
      exact ⟨rfl, B3.trans (b4.mono (by omega))⟩
    | some k =>
      rw [show putP first r l = codeF first k ++ signS l by unfold putP; rw [ht]]
      rw [show shortS first r l = codeF first k ++ signS l by unfold shortS; rw [ht], show shortB r l = true by unfold shortB; rw [ht]; rfl] at HS
      generalize codeF first k ++ signS l = s at *
      clear ht
      go_enter Tryz.func62, Tryz.ntmps62
      go_wp2_with fail
      generalize w.alloc (.cells #[.int .i64 r, .int .i64 l] 66 (0, 0)) = w1 at *
      refine (HK.out _).mono ?_
      rintro e w2 ⟨rfl, hw2⟩
      have b2 : Below w1.heap.size w1 w2 := by rw [hw2]; exact (Below.refl _ _).alloc (Nat.le_refl _) _
      clear hw2
      have hx0 := (b2.cell (p := ⟨w.heap.size, 0, none⟩) (by simp; omega)).trans z0
      have hx1 := (b2.cell (p := ⟨w.heap.size, 1, none⟩) (by simp; omega)).trans z1
      have B2 := HB0.out.trans (b2.mono (by omega))
      have hs2 := b2.size
      clear b2 z0 z1
      go_wp2_with fail
      refine (HS.out _ (HT.out _ B2).1).mono ?_
      rintro e w3 ⟨rfl, b3⟩
      go_wp2
      go_ret2
      exact ⟨rfl, B2.trans (b3.mono (by omega))⟩

theorem escG_over (zs : List UInt8) (a : Nat) : (escG zs a).over = false := by
  unfold escG
  split
  · rfl
  · split <;> rfl
theorem esc8_eq : esc8 = ⟨#[48, 48, 48, 48, 48, 49]⟩ := by decide +kernel
theorem end8_eq : end8 = ⟨#[49, 48]⟩ := by decide +kernel

set_option maxRecDepth 100000 in
set_option maxHeartbeats 4000000 in
theorem eget_any {n₁ : Nat} {w : World} {sv : Value} {zs : List UInt8} (hB : Byt n₁ w sv zs) (hn : n₁ ≤ w.heap.size) (hl : zs.length ≤ 1099511627776) (hT : Lay8 w) (x : Int) (first : Bool) (hx : x ≤ 9223372036854775807) :
    Calls Tryz.prog 84 #[sv, .int .i64 x, .bool first] w fun e w' => e = .returned (gotV (got first zs x)) ∧ Below w.heap.size w w' := by
  have HBy := Lib.hid (fun w' (hb : Below w.heap.size w w') => hB.below (hb.mono hn))
  have HT := Lib.hid (fun w' (hb : Below w.heap.size w w') => hT.below hb)
  have hb0 : Below w.heap.size w (w.alloc (.cells #[.int .i64 0, .int .i64 0] 66 (0, 0))) := (Below.refl _ w).alloc (Nat.le_refl _) _
  have hbox := World.alloc_heap_new w (.cells #[.int .i64 0, .int .i64 0] 66 (0, 0))
  have hsz : (w.alloc (.cells #[.int .i64 0, .int .i64 0] 66 (0, 0))).heap.size = w.heap.size + 1 := by simp
  have HB0 := Lib.hid hb0
  clear hB hb0 hT
  by_cases h0 : x < 0
  · rw [show got first zs x = badG 3 by unfold got; rw [if_pos h0]]
    obtain ⟨c0, c1, f0, f1⟩ := pair_cells hbox
    go_enter Tryz.func84, Tryz.ntmps84
    go_wp2_with fail
    exact bodyPost_ret (v := gotV (badG 3)) (by simp [results, Tryz.f84, go_sem, c0, c1]) rfl ⟨rfl, HB0.out⟩
  · obtain ⟨A, rfl⟩ := Int.eq_ofNat_of_zero_le (show 0 ≤ x by omega)
    rw [show got first zs (A : Int) = gotS first zs A (seenB zs A (lookN zs A)) by unfold got; rw [if_neg (by omega), Int.toNat_natCast, gotS_look]]
    have HTx := Lib.hid (textAt_any (HBy.out _ HB0.out) hl A hx (HT.out _ HB0.out).2)
    have hSz := seenB_size zs A (lookN zs A)
    have HSig := Lib.hid (fun (h1 : begins (seenB zs A (lookN zs A)) esc8 = false) (h2 : first = true ∨ begins (seenB zs A (lookN zs A)) end8 = false) e (hR : SignedR (seenB zs A (lookN zs A)) first e) => gotS_sig h1 h2 hR)
    have HEs := Lib.hid (fun (h : begins (seenB zs A (lookN zs A)) esc8 = true) => gotS_esc (first := first) (zs := zs) (a := A) h)
    have HEn := Lib.hid (fun (h : begins (seenB zs A (lookN zs A)) end8 = true) => gotS_end (zs := zs) (a := A) h)
    have hlk : lookN zs A ≤ 20 ∧ lookN zs A ≤ 8 * zs.length - A := by unfold lookN; omega
    generalize seenB zs A (lookN zs A) = S at *
    have HPe : Hid (∀ w, Calls Tryz.prog 109 #[.string S, .string ⟨#[48, 48, 48, 48, 48, 49]⟩] w fun e w' => e = .returned (.bool (begins S esc8)) ∧ w = w') := fun w => by rw [esc8_eq]; exact hasPrefix_any S _ w
    have HPd : Hid (∀ w, Calls Tryz.prog 109 #[.string S, .string ⟨#[49, 48]⟩] w fun e w' => e = .returned (.bool (begins S end8)) ∧ w = w') := fun w => by rw [end8_eq]; exact hasPrefix_any S _ w
    have HSg := Lib.hid (fun w hS => signed_any S (by omega) first w hS)
    cases h1 : begins S esc8 with
    | true =>
      rw [h1] at HPe
      rw [HEs.out h1]
      have h6 := begins_size h1
      rw [show esc8.size = 6 by decide +kernel] at h6
      have hA6 : A + 6 ≤ 8 * zs.length := by omega
      have HEc := Lib.hid (fun w' (hb : Below w.heap.size w w') => escaped_any (HBy.out w' hb) (by have := hb.size; omega) hl A hA6)
      have hov := escG_over zs A
      generalize escG zs A = g at *
      clear h1 HEs HEn HSig
      go_enter Tryz.func84, Tryz.ntmps84
      go_wp2_with fail
      generalize w.alloc (.cells #[.int .i64 0, .int .i64 0] 66 (0, 0)) = w1 at *
      refine HTx.out.mono ?_
      rintro e w2 ⟨rfl, b2⟩
      have hs2 := b2.size
      have hh := (b2.block w.heap.size (by omega)).trans hbox
      have HB2 := Lib.hid (HB0.out.trans (b2.mono (by omega)))
      clear b2 hbox
      go_wp2_with fail
      refine (HPe.out _).mono ?_
      rintro e w' ⟨rfl, rfl⟩
      go_wp2_with fail
      refine (HEc.out _ HB2.out).mono ?_
      rintro e w3 ⟨rfl, b3⟩
      have hs3 := b3.size
      have hh3 := (b3.block w.heap.size (by omega)).trans hh
      obtain ⟨c0, c1, f0, f1⟩ := pair_cells hh3
      have hlt2 : w.heap.size < w3.heap.size := by omega
      have HB3 := Lib.hid (HB2.out.trans (b3.mono (by omega)))
      clear b3 hh hh3
      go_wp2
      refine bodyPost_ret (v := gotV ⟨g.run, g.level, false, g.many, g.err⟩) (by simp [results, Tryz.f84, go_sem, hlt2, c0, c1]) rfl ⟨by rw [← hov], ?_⟩
      exact ((HB3.out.setCell (p := ⟨w.heap.size, 0, none⟩) (Nat.le_refl _) _).setCell (p := ⟨w.heap.size, 1, none⟩) (Nat.le_refl _) _).alloc (by simp; omega) _
    | false =>
      rw [h1] at HPe
      cases first with
      | false =>
        cases h2 : begins S end8 with
        | true =>
          rw [h2] at HPd
          rw [HEn.out h2]
          clear h1 h2 HEs HEn HSig HSg
          go_enter Tryz.func84, Tryz.ntmps84
          go_wp2_with fail
          generalize w.alloc (.cells #[.int .i64 0, .int .i64 0] 66 (0, 0)) = w1 at *
          refine HTx.out.mono ?_
          rintro e w2 ⟨rfl, b2⟩
          have hs2 := b2.size
          have hh := (b2.block w.heap.size (by omega)).trans hbox
          have HB2 := Lib.hid (HB0.out.trans (b2.mono (by omega)))
          clear b2 hbox
          go_wp2_with fail
          refine (HPe.out _).mono ?_
          rintro e w' ⟨rfl, rfl⟩
          go_wp2_with fail
          refine (HPd.out _).mono ?_
          rintro e w' ⟨rfl, rfl⟩
          obtain ⟨c0, c1, f0, f1⟩ := pair_cells hh
          have hlt2 : w.heap.size < w2.heap.size := by omega
          go_wp2
          refine bodyPost_ret (v := gotV ⟨0, 0, true, 2, 0⟩) (by simp [results, Tryz.f84, go_sem, c0, c1]) rfl ⟨rfl, ?_⟩
          exact ((HB2.out.setCell (p := ⟨w.heap.size, 0, none⟩) (Nat.le_refl _) _).setCell (p := ⟨w.heap.size, 1, none⟩) (Nat.le_refl _) _)
        | false =>
          rw [h2] at HPd
          replace HSig := Lib.hid (HSig.out h1 (.inr h2))
          clear h1 h2 HEs HEn
          generalize gotS false zs A S = g at *
          go_enter Tryz.func84, Tryz.ntmps84
          go_wp2_with fail
          generalize w.alloc (.cells #[.int .i64 0, .int .i64 0] 66 (0, 0)) = w1 at *
          refine HTx.out.mono ?_
          rintro e w2 ⟨rfl, b2⟩
          have hs2 := b2.size
          have hh := (b2.block w.heap.size (by omega)).trans hbox
          have HB2 := Lib.hid (HB0.out.trans (b2.mono (by omega)))
          clear b2 hbox
          go_wp2_with fail
          refine (HPe.out _).mono ?_
          rintro e w' ⟨rfl, rfl⟩
          go_wp2_with fail
          refine (HPd.out _).mono ?_
          rintro e w' ⟨rfl, rfl⟩
          go_wp2_with fail
          refine (HSg.out _ (HT.out _ HB2.out).1).mono ?_
          rintro e w3 ⟨hR, b3⟩
          obtain ⟨rfl, hov⟩ := HSig.out _ hR
          clear hR
          have hs3 := b3.size
          have hh3 := (b3.block w.heap.size (by omega)).trans hh
          obtain ⟨c0, c1, f0, f1⟩ := pair_cells hh3
          have hlt2 : w.heap.size < w3.heap.size := by omega
          have HB3 := Lib.hid (HB2.out.trans (b3.mono (by omega)))
          clear b3 hh hh3
          go_wp2
          refine bodyPost_ret (v := gotV ⟨g.run, g.level, false, g.many, g.err⟩) (by simp [results, Tryz.f84, go_sem, hlt2, c0, c1]) rfl ⟨by rw [← hov], ?_⟩
          exact ((HB3.out.setCell (p := ⟨w.heap.size, 0, none⟩) (Nat.le_refl _) _).setCell (p := ⟨w.heap.size, 1, none⟩) (Nat.le_refl _) _).alloc (by simp; omega) _
      | true =>
        replace HSig := Lib.hid (HSig.out h1 (.inl rfl))
        clear h1 HEs HEn HPd
        generalize gotS true zs A S = g at *
        go_enter Tryz.func84, Tryz.ntmps84
        go_wp2_with fail
        generalize w.alloc (.cells #[.int .i64 0, .int .i64 0] 66 (0, 0)) = w1 at *
        refine HTx.out.mono ?_
        rintro e w2 ⟨rfl, b2⟩
        have hs2 := b2.size
        have hh := (b2.block w.heap.size (by omega)).trans hbox
        have HB2 := Lib.hid (HB0.out.trans (b2.mono (by omega)))
        clear b2 hbox
        go_wp2_with fail
        refine (HPe.out _).mono ?_
        rintro e w' ⟨rfl, rfl⟩
        go_wp2_with fail
        refine (HSg.out _ (HT.out _ HB2.out).1).mono ?_
        rintro e w3 ⟨hR, b3⟩
        obtain ⟨rfl, hov⟩ := HSig.out _ hR
        clear hR
        have hs3 := b3.size
        have hh3 := (b3.block w.heap.size (by omega)).trans hh
        obtain ⟨c0, c1, f0, f1⟩ := pair_cells hh3
        have hlt2 : w.heap.size < w3.heap.size := by omega
        have HB3 := Lib.hid (HB2.out.trans (b3.mono (by omega)))
        clear b3 hh hh3
        go_wp2
        refine bodyPost_ret (v := gotV ⟨g.run, g.level, false, g.many, g.err⟩) (by simp [results, Tryz.f84, go_sem, hlt2, c0, c1]) rfl ⟨by rw [← hov], ?_⟩
        exact ((HB3.out.setCell (p := ⟨w.heap.size, 0, none⟩) (Nat.le_refl _) _).setCell (p := ⟨w.heap.size, 1, none⟩) (Nat.le_refl _) _).alloc (by simp; omega) _

end Go.Proofs.YtbcfiafgolcbpaaGreatDoor
