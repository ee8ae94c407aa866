/- coeff's signed and short: a range over the table's func. -/
import Derived.Test.YtejcgkplcbapfaaDoorEText2
import Derived.Test.YtejcgkplcbapfaaDoorETab2
namespace Go.Proofs.YtejcgkplcbapfaaDoor
open Go.RowKit Go.Shelf
set_option linter.unusedVariables false
attribute [local go_sem] Oper.semAt_some

theorem etable_T (n : Nat) (hn : 9 ≤ n) (m bb : Nat) (first : Bool) (w : World) (hm : m ≤ w.heap.size) (hbb : bb < w.heap.size) (hgm : 0 < m) (hcb : w.cell? ⟨bb, 0, none⟩ = some (.bool first)) (hS : Spc w) :
    SeqT Fence.wide n Tryd.prog 54 #[.pointer (some ⟨bb, 0, none⟩)] (encE first) (KpB m bb bb) 63 w := fun l J Jx W hW hJ hJx hY h0 =>
  etable1_in n hn l m bb first J Jx W (Nat.le_trans hm hW.size) (Nat.lt_of_lt_of_le hbb hW.size) hgm hJ hJx hY ((hW.cell (p := ⟨bb, 0, none⟩) hbb).trans hcb) (hS.below hW) h0

/-! ### signed -/
/-- what is told where a code of the table and a text meet -/
def sigC (c : ByteArray) (p : Nat × Nat) (S : ByteArray) : Got :=
  if begins c S = true then badG 5 else ⟨p.1, if S.data.toList[c.size]?.getD 48 = 49 then -(p.2 : Int) else p.2, false, c.size + 1, 0⟩
def stopB (c S : ByteArray) : Bool := begins c S || begins S c
/-- the boxes of signed's results -/
structure SRes (b : Nat) (g : Got) (W : World) : Prop where
  p : ∃ t, W.heap[b + 1]? = some (.cells #[.int .i64 g.run, .int .i64 g.level] t (0, 0))
  n : ∃ t, W.heap[b + 1 + 1]? = some (.cells #[.int .i64 g.many] t (0, 0))
  e : ∃ t, W.heap[b + 1 + 1 + 1]? = some (.cells #[.int .i64 g.err] t (0, 0))
theorem SRes.later {b B : Nat} {g : Got} {W W' : World} (h : SRes b g W) (hb : Below B W W') (hB : b + 4 ≤ B) : SRes b g W' := by
  obtain ⟨⟨t1, h1⟩, ⟨t2, h2⟩, ⟨t3, h3⟩⟩ := h
  exact ⟨⟨t1, (hb.block _ (by omega)).trans h1⟩, ⟨t2, (hb.block _ (by omega)).trans h2⟩, ⟨t3, (hb.block _ (by omega)).trans h3⟩⟩
theorem SRes.store {b : Nat} {g0 : Got} {W : World} (h : SRes b g0 W) (r l m e : Int) (o : Bool) : SRes b ⟨r, l, o, m, e⟩ ((((W.setCell ⟨b + 1, 0, none⟩ (.int .i64 r)).setCell ⟨b + 1, 1, none⟩ (.int .i64 l)).setCell ⟨b + 1 + 1, 0, none⟩ (.int .i64 m)).setCell ⟨b + 1 + 1 + 1, 0, none⟩ (.int .i64 e)) := by
  obtain ⟨⟨t1, h1⟩, ⟨t2, h2⟩, ⟨t3, h3⟩⟩ := h
  have k1 := heap_setCell_same _ (b + 1) 1 _ _ (.int .i64 l) (heap_setCell_same W (b + 1) 0 _ _ (.int .i64 r) h1)
  have k2 : ((W.setCell ⟨b + 1, 0, none⟩ (.int .i64 r)).setCell ⟨b + 1, 1, none⟩ (.int .i64 l)).heap[b + 1 + 1]? = some (.cells #[.int .i64 g0.many] t2 (0, 0)) := by
    rw [heap_setCell_other _ _ _ _ (by simp <;> omega), heap_setCell_other _ _ _ _ (by simp <;> omega)]; exact h2
  have k3 : (((W.setCell ⟨b + 1, 0, none⟩ (.int .i64 r)).setCell ⟨b + 1, 1, none⟩ (.int .i64 l)).setCell ⟨b + 1 + 1, 0, none⟩ (.int .i64 m)).heap[b + 1 + 1 + 1]? = some (.cells #[.int .i64 g0.err] t3 (0, 0)) := by
    rw [heap_setCell_other _ _ _ _ (by simp <;> omega), heap_setCell_other _ _ _ _ (by simp <;> omega), heap_setCell_other _ _ _ _ (by simp <;> omega)]; exact h3
  refine ⟨⟨t1, ?_⟩, ⟨t2, ?_⟩, ⟨t3, heap_setCell_same _ (b + 1 + 1 + 1) 0 _ _ (.int .i64 e) k3⟩⟩
  · rw [heap_setCell_other _ _ _ _ (by simp <;> omega), heap_setCell_other _ _ _ _ (by simp <;> omega)]
    exact k1
  · rw [heap_setCell_other _ _ _ _ (by simp <;> omega)]
    exact heap_setCell_same _ (b + 1 + 1) 0 _ _ (.int .i64 m) k2
structure SInv (w : World) (S : ByteArray) (first : Bool) (x : Nat) (W : World) : Prop where
  below : Below w.heap.size w W
  text : ∃ t, W.heap[w.heap.size]? = some (.cells #[.string S] t (0, 0))
  res : SRes w.heap.size ⟨0, 0, false, 0, 0⟩ W
  no : ∀ j, j < x → stopB (codeF first j) S = false
structure SEnd (w : World) (S : ByteArray) (first : Bool) (x : Nat) (W : World) : Prop where
  below : Below w.heap.size w W
  res : SRes w.heap.size (sigC (codeF first x) (pairAt x) S) W
  no : ∀ j, j < x → stopB (codeF first j) S = false
  here : stopB (codeF first x) S = true
/-- the result of signed -/
def SignedR (S : ByteArray) (first : Bool) (e : Ending) : Prop :=
  (∃ k, k < 63 ∧ (∀ j, j < k → stopB (codeF first j) S = false) ∧ stopB (codeF first k) S = true ∧ e = .returned (threeV (sigC (codeF first k) (pairAt k) S))) ∨
  ((∀ j, j < 63 → stopB (codeF first j) S = false) ∧ e = .returned (threeV (badG 7)))

theorem codeF_small (first : Bool) (k : Nat) : (codeF first k).size ≤ 13 := by
  unfold codeF
  split
  · decide
  · by_cases h : k < 63
    · exact (codeAt_one h).2.2
    · unfold codeAt
      rw [List.getElem?_eq_none (by rw [codes8_length]; omega)]
      decide

theorem begins_strict {S c : ByteArray} (h : begins S c = true) (h2 : begins c S = false) : c.size < S.size := by
  have h1 := begins_size h
  false_or_by_contra
  rename_i hn
  have e : c = S := by
    unfold begins at h
    rw [decide_eq_true_iff] at h
    apply ByteArray.ext
    apply Array.toList_inj.1
    exact h.eq_of_length (by simp; omega)
  rw [e] at h2
  have h3 : begins S S = true := by unfold begins; exact decide_eq_true (List.prefix_refl _)
  rw [h3] at h2
  cases h2
theorem at_list8 (s : ByteArray) {t : Nat} (h : t < s.size) : s.data.toList[t]?.getD 48 = s[t] := by
  have h2 : t < s.data.toList.length := by simpa using h
  rw [List.getElem?_eq_getElem h2]
  simp
  rfl

set_option maxRecDepth 100000 in
set_option maxHeartbeats 8000000 in
theorem signed_in (n : Nat) (hn : 12 ≤ n) (S : ByteArray) (hS20 : S.size ≤ 20) (first : Bool) (w : World) (hSp : Spc w) :
    CallsIn Fence.wide n Tryd.prog 30 #[.string S, .bool first] w fun e w' => SignedR S first e ∧ Below w.heap.size w w' := by
  have hn1 : 1 ≤ n := by omega
  have hn2 : 1 ≤ n - 1 := by omega
  have hn3 : 1 ≤ n - 1 - 1 := by omega
  have hgm : 0 < w.heap.size := World.block_lt_of_cell? w _ (hSp 0 (by decide))
  have HT := Lib.hid (fun W => etable_in Fence.wide (n - 1) trivial rfl first W)
  have HSp := Lib.hid (fun w' (hb : Below w.heap.size w w') => hSp.below hb)
  clear hSp
  refine callsIn_of_wp_marks Tryd.func30 rfl trivial ?_ rfl
  simp only [Tryd.ntmps30, List.size_toArray, List.length_cons, List.length_nil, Nat.reduceAdd, Nat.reduceSub, Array.replicate_succ, Array.replicate_zero, List.push_toArray, List.append_toArray, List.nil_append, List.cons_append]
  gi_wp2_with (refine ⟨trivial, ?_⟩; gi_at_call 45; refine (HT.out _).mono ?_; rintro e w' ⟨rfl, rfl⟩)
  have hB5 : Below w.heap.size w (((((w.alloc (Obj.cells #[Value.string S] 9)).alloc (Obj.cells #[Value.int IntKind.i64 0, Value.int IntKind.i64 0] 26)).alloc (Obj.cells #[Value.int IntKind.i64 0] 3)).alloc (Obj.cells #[Value.int IntKind.i64 0] 27)).alloc (Obj.cells #[Value.bool first] 4)) :=
    (((((Below.refl _ w).alloc (Nat.le_refl _) _).alloc (by simp) _).alloc (by simp; omega) _).alloc (by simp; omega) _).alloc (by simp; omega) _
  have h50 : (((((w.alloc (Obj.cells #[Value.string S] 9)).alloc (Obj.cells #[Value.int IntKind.i64 0, Value.int IntKind.i64 0] 26)).alloc (Obj.cells #[Value.int IntKind.i64 0] 3)).alloc (Obj.cells #[Value.int IntKind.i64 0] 27)).alloc (Obj.cells #[Value.bool first] 4)).heap[w.heap.size]? = some (Obj.cells #[Value.string S] 9) := heap_keep (heap_keep (heap_keep (heap_keep (heap_new _ rfl _) _) _) _) _
  have h51 : (((((w.alloc (Obj.cells #[Value.string S] 9)).alloc (Obj.cells #[Value.int IntKind.i64 0, Value.int IntKind.i64 0] 26)).alloc (Obj.cells #[Value.int IntKind.i64 0] 3)).alloc (Obj.cells #[Value.int IntKind.i64 0] 27)).alloc (Obj.cells #[Value.bool first] 4)).heap[w.heap.size + 1]? = some (Obj.cells #[Value.int IntKind.i64 0, Value.int IntKind.i64 0] 26) := heap_keep (heap_keep (heap_keep (heap_new _ (by simp) _) _) _) _
  have h52 : (((((w.alloc (Obj.cells #[Value.string S] 9)).alloc (Obj.cells #[Value.int IntKind.i64 0, Value.int IntKind.i64 0] 26)).alloc (Obj.cells #[Value.int IntKind.i64 0] 3)).alloc (Obj.cells #[Value.int IntKind.i64 0] 27)).alloc (Obj.cells #[Value.bool first] 4)).heap[w.heap.size + 1 + 1]? = some (Obj.cells #[Value.int IntKind.i64 0] 3) := heap_keep (heap_keep (heap_new _ (by simp) _) _) _
  have h53 : (((((w.alloc (Obj.cells #[Value.string S] 9)).alloc (Obj.cells #[Value.int IntKind.i64 0, Value.int IntKind.i64 0] 26)).alloc (Obj.cells #[Value.int IntKind.i64 0] 3)).alloc (Obj.cells #[Value.int IntKind.i64 0] 27)).alloc (Obj.cells #[Value.bool first] 4)).heap[w.heap.size + 1 + 1 + 1]? = some (Obj.cells #[Value.int IntKind.i64 0] 27) := heap_keep (heap_new _ (by simp) _) _
  have h54 : (((((w.alloc (Obj.cells #[Value.string S] 9)).alloc (Obj.cells #[Value.int IntKind.i64 0, Value.int IntKind.i64 0] 26)).alloc (Obj.cells #[Value.int IntKind.i64 0] 3)).alloc (Obj.cells #[Value.int IntKind.i64 0] 27)).alloc (Obj.cells #[Value.bool first] 4)).heap[w.heap.size + 1 + 1 + 1 + 1]? = some (Obj.cells #[Value.bool first] 4) := heap_new _ (by simp) _
  have h5z : (((((w.alloc (Obj.cells #[Value.string S] 9)).alloc (Obj.cells #[Value.int IntKind.i64 0, Value.int IntKind.i64 0] 26)).alloc (Obj.cells #[Value.int IntKind.i64 0] 3)).alloc (Obj.cells #[Value.int IntKind.i64 0] 27)).alloc (Obj.cells #[Value.bool first] 4)).heap.size = w.heap.size + 5 := by simp
  generalize ((((w.alloc (Obj.cells #[Value.string S] 9)).alloc (Obj.cells #[Value.int IntKind.i64 0, Value.int IntKind.i64 0] 26)).alloc (Obj.cells #[Value.int IntKind.i64 0] 3)).alloc (Obj.cells #[Value.int IntKind.i64 0] 27)).alloc (Obj.cells #[Value.bool first] 4) = w5 at *
  refine wpIn_range_T rfl hn1 (gf := 54) (lb := #[.pointer (some ⟨w.heap.size + 1 + 1 + 1 + 1, 0, none⟩)]) rfl trivial (enters_of Tryd.func54 (by kernel_rfl) rfl)
    (etable_T (n - 1) (by omega) w.heap.size (w.heap.size + 1 + 1 + 1 + 1) first w5 (by omega) (by omega) hgm (one_cell h54).1 (HSp.out _ hB5))
    KpB.t (fun W' r' o' h => KpB.b (w := w5) (by omega) (by omega) (by omega) W' _ _ o' (by omega) h rfl rfl) (Below.refl _ _) (fun _ => rfl)
    (fun x Wx => SInv w S first x Wx)
    (fun c x Wx => c = .ret ∧ SEnd w S first x Wx)
    ?hI ?hIx ?h0 ?hround ?hdone ?hstop
  case hI =>
    rintro x A B ⟨a1, ⟨t2, a2⟩, a3, a4⟩ hb
    exact ⟨a1.trans (hb.mono (by omega)), ⟨t2, (hb.block _ (by omega)).trans a2⟩, a3.later hb (by omega), a4⟩
  case hIx =>
    rintro c x A B ⟨rfl, a1, a3, a4, a5⟩ hb
    exact ⟨rfl, a1.trans (hb.mono (by omega)), a3.later hb (by omega), a4, a5⟩
  case h0 => exact ⟨hB5, ⟨_, h50⟩, ⟨⟨_, h51⟩, ⟨_, h52⟩, ⟨_, h53⟩⟩, fun j hj => by omega⟩
  case hround =>
    rintro x Wx hI hxz hxN
    obtain ⟨pa, pb, hp⟩ : ∃ a b, pairAt x = (a, b) := ⟨_, _, rfl⟩
    have hcs := codeF_small first x
    have hps := pairAt_small (k := x)
    simp only [encE]
    rw [hp] at hps ⊢
    simp only at hps ⊢
    gi_wp2
    refine ⟨KeepsHi.alloc _ _ _, ⟨(Below.refl _ Wx).alloc (by omega) _, World.cell?_alloc_old _ _ _ (by simp; omega), World.cell?_alloc_old _ _ _ (by simp; omega)⟩, fun W2 hb2 hz2 hot => ?_⟩
    have hbW : Below w5.heap.size Wx W2 := ((Below.refl _ Wx).alloc (by omega) _).trans hb2
    have hpb := (hot Wx.heap.size (by omega)).trans (World.alloc_heap_new Wx _)
    obtain ⟨a1, ⟨t2, a2⟩, a3, a4⟩ := hI
    have i1 := a1.trans (hbW.mono (by omega))
    have i2 := (hbW.block w.heap.size (by omega)).trans a2
    have i3 := a3.later hbW (by omega)
    have hz : W2.heap.size = Wx.heap.size + 1 := by rw [hz2]; simp
    obtain ⟨p0, p1, q0, q1⟩ := pair_cells hpb
    obtain ⟨c0, _⟩ := one_cell i2
    obtain ⟨⟨s1, j1⟩, ⟨s2, j2⟩, ⟨s3, j3⟩⟩ := i3
    obtain ⟨r0, r1, v0, v1⟩ := pair_cells j1
    obtain ⟨r2, v2⟩ := one_cell j2
    obtain ⟨r3, v3⟩ := one_cell j3
    have HI1 := Lib.hid i1
    have HI2 := Lib.hid i2
    have HI3 : Hid (SRes w.heap.size ⟨0, 0, false, 0, 0⟩ W2) := ⟨⟨s1, j1⟩, ⟨s2, j2⟩, ⟨s3, j3⟩⟩
    have HNo := Lib.hid a4
    have HPp := Lib.hid hp
    clear i1 i2 j1 j2 j3 hb2 hot hbW hpb a1 a2 a3 a4 hp
    have KM : Hid (∀ (r l m e : Int), KeepsMid w5.heap.size Wx.heap.size W2 ((((W2.setCell ⟨w.heap.size + 1, 0, none⟩ (.int .i64 r)).setCell ⟨w.heap.size + 1, 1, none⟩ (.int .i64 l)).setCell ⟨w.heap.size + 1 + 1, 0, none⟩ (.int .i64 m)).setCell ⟨w.heap.size + 1 + 1 + 1, 0, none⟩ (.int .i64 e))) := fun r l m e =>
      ((((KeepsMid.refl _ _ _).set _ _ (.inl (by simp; omega))).set _ _ (.inl (by simp; omega))).set _ _ (.inl (by simp; omega))).set _ _ (.inl (by simp; omega))
    have KB : Hid (∀ (W : World), Below w.heap.size w W → ∀ (r l m e : Int), Below w.heap.size w ((((W.setCell ⟨w.heap.size + 1, 0, none⟩ (.int .i64 r)).setCell ⟨w.heap.size + 1, 1, none⟩ (.int .i64 l)).setCell ⟨w.heap.size + 1 + 1, 0, none⟩ (.int .i64 m)).setCell ⟨w.heap.size + 1 + 1 + 1, 0, none⟩ (.int .i64 e))) := fun W h r l m e =>
      (((h.setCell (p := ⟨w.heap.size + 1, 0, none⟩) (by simp) _).setCell (p := ⟨w.heap.size + 1, 1, none⟩) (by simp) _).setCell (p := ⟨w.heap.size + 1 + 1, 0, none⟩) (by simp; omega) _).setCell (p := ⟨w.heap.size + 1 + 1 + 1, 0, none⟩) (by simp; omega) _
    have HP1 := Lib.hid (hasPrefix_any (codeF first x) S W2)
    have HP2 := Lib.hid (hasPrefix_any S (codeF first x) W2)
    cases h1 : begins (codeF first x) S with
    | true =>
      rw [h1] at HP1
      have hst : stopB (codeF first x) S = true := by unfold stopB; rw [h1]; rfl
      have hsg : sigC (codeF first x) (pa, pb) S = ⟨0, 0, false, 0, 5⟩ := by unfold sigC; rw [if_pos h1]
      have HSt := Lib.hid hst
      have HSg := Lib.hid hsg
      clear hst hsg h1
      gi_wp2_with fail
      refine ⟨trivial, ?_⟩
      refine (CallsIn.inRound _ (callsIn_wide.2 HP1.out)).mono ?_
      rintro e w' ⟨rfl, rfl⟩
      gi_wp2
      refine ⟨KM.out _ _ _ _, rfl, KB.out _ HI1.out _ _ _ _, ?_, HNo.out, HSt.out⟩
      rw [HPp.out, HSg.out]
      exact HI3.out.store 0 0 0 5 false
    | false =>
      rw [h1] at HP1
      cases h2 : begins S (codeF first x) with
      | false =>
        rw [h2] at HP2
        have hst : stopB (codeF first x) S = false := by unfold stopB; rw [h1, h2]; rfl
        have HSt := Lib.hid hst
        clear hst h1 h2
        gi_wp2_with fail
        refine ⟨trivial, ?_⟩
        refine (CallsIn.inRound _ (callsIn_wide.2 HP1.out)).mono ?_
        rintro e w' ⟨rfl, rfl⟩
        gi_wp2_with fail
        refine ⟨trivial, ?_⟩
        refine (CallsIn.inRound _ (callsIn_wide.2 HP2.out)).mono ?_
        rintro e w' ⟨rfl, rfl⟩
        gi_wp2
        refine ⟨KeepsMid.refl _ _ _, KpB.rfl, HI1.out, ⟨_, HI2.out⟩, HI3.out, fun j hj => ?_⟩
        by_cases e : j = x
        · rw [e]; exact HSt.out
        · exact HNo.out j (by omega)
      | true =>
        rw [h2] at HP2
        have hlt := begins_strict h2 h1
        have hst : stopB (codeF first x) S = true := by unfold stopB; rw [h1, h2]; rfl
        have HSt := Lib.hid hst
        clear hst
        have hne : Wx.heap.size ≠ w.heap.size + 1 := by omega
        have hne2 : Wx.heap.size ≠ w.heap.size := by omega
        have KM2 : Hid (∀ (r l m e : Int), KeepsMid w5.heap.size Wx.heap.size W2 (((((W2.setCell ⟨Wx.heap.size, 1, none⟩ (.int .i64 (-(pb : Int)))).setCell ⟨w.heap.size + 1, 0, none⟩ (.int .i64 r)).setCell ⟨w.heap.size + 1, 1, none⟩ (.int .i64 l)).setCell ⟨w.heap.size + 1 + 1, 0, none⟩ (.int .i64 m)).setCell ⟨w.heap.size + 1 + 1 + 1, 0, none⟩ (.int .i64 e))) := fun r l m e =>
          (((((KeepsMid.refl _ _ _).set _ _ (.inr (by simp))).set _ _ (.inl (by simp; omega))).set _ _ (.inl (by simp; omega))).set _ _ (.inl (by simp; omega))).set _ _ (.inl (by simp; omega))
        have HI4 : Hid (SRes w.heap.size ⟨0, 0, false, 0, 0⟩ (W2.setCell ⟨Wx.heap.size, 1, none⟩ (.int .i64 (-(pb : Int))))) := by
          obtain ⟨⟨t1, k1⟩, ⟨t2, k2⟩, ⟨t3, k3⟩⟩ := HI3.out
          exact ⟨⟨t1, (heap_setCell_other _ _ _ _ (by simp; omega)).trans k1⟩, ⟨t2, (heap_setCell_other _ _ _ _ (by simp; omega)).trans k2⟩, ⟨t3, (heap_setCell_other _ _ _ _ (by simp; omega)).trans k3⟩⟩
        by_cases hb : S[(codeF first x).size] = 49
        · have hsg : sigC (codeF first x) (pa, pb) S = ⟨pa, -(pb : Int), false, (codeF first x).size + 1, 0⟩ := by
            unfold sigC
            rw [if_neg (by rw [h1]; decide), at_list8 S hlt]
            simp only
            rw [if_pos hb]
          have e1 : ((S[(codeF first x).size].toNat : Int) == 49) = true := by
            rw [hb]; rfl
          have HSg := Lib.hid hsg
          clear hsg h1 h2 hb
          gi_wp2_with fail
          refine ⟨trivial, ?_⟩
          refine (CallsIn.inRound _ (callsIn_wide.2 HP1.out)).mono ?_
          rintro e w' ⟨rfl, rfl⟩
          gi_wp2_with fail
          refine ⟨trivial, ?_⟩
          refine (CallsIn.inRound _ (callsIn_wide.2 HP2.out)).mono ?_
          rintro e w' ⟨rfl, rfl⟩
          gi_wp2
          refine ⟨KM2.out _ _ _ _, rfl, KB.out _ (HI1.out.setCell (p := ⟨Wx.heap.size, 1, none⟩) (by simp; omega) _) _ _ _ _, ?_, HNo.out, HSt.out⟩
          rw [HPp.out, HSg.out]
          exact HI4.out.store _ _ _ _ false
        · have hsg : sigC (codeF first x) (pa, pb) S = ⟨pa, (pb : Int), false, (codeF first x).size + 1, 0⟩ := by
            unfold sigC
            rw [if_neg (by rw [h1]; decide), at_list8 S hlt]
            simp only
            rw [if_neg hb]
          have e1 : ((S[(codeF first x).size].toNat : Int) == 49) = false := by
            rw [beq_eq_false_iff_ne]
            intro e
            apply hb
            apply UInt8.toNat_inj.1
            rw [show (49 : UInt8).toNat = 49 from rfl]
            omega
          have HSg := Lib.hid hsg
          clear hsg h1 h2 hb
          gi_wp2_with fail
          refine ⟨trivial, ?_⟩
          refine (CallsIn.inRound _ (callsIn_wide.2 HP1.out)).mono ?_
          rintro e w' ⟨rfl, rfl⟩
          gi_wp2_with fail
          refine ⟨trivial, ?_⟩
          refine (CallsIn.inRound _ (callsIn_wide.2 HP2.out)).mono ?_
          rintro e w' ⟨rfl, rfl⟩
          gi_wp2
          refine ⟨KM.out _ _ _ _, rfl, KB.out _ HI1.out _ _ _ _, ?_, HNo.out, HSt.out⟩
          rw [HPp.out, HSg.out]
          exact HI3.out.store _ _ _ _ false
  case hdone =>
    rintro D W' rfl hI hD
    obtain ⟨a1, a2, a3, a4⟩ := hI
    have A3 := Lib.hid a3
    obtain ⟨⟨t1, b1⟩, ⟨t2, b2⟩, ⟨t3, b3⟩⟩ := a3
    obtain ⟨r0, r1, v0, v1⟩ := pair_cells b1
    obtain ⟨r2, v2⟩ := one_cell b2
    obtain ⟨r3, v3⟩ := one_cell b3
    clear b1 b2 b3
    gi_wp2
    have hX := A3.out.store 0 0 0 7 false
    have hBX : Below w.heap.size w ((((W'.setCell ⟨w.heap.size + 1, 0, none⟩ (.int .i64 0)).setCell ⟨w.heap.size + 1, 1, none⟩ (.int .i64 0)).setCell ⟨w.heap.size + 1 + 1, 0, none⟩ (.int .i64 0)).setCell ⟨w.heap.size + 1 + 1 + 1, 0, none⟩ (.int .i64 7)) := (((a1.setCell (p := ⟨w.heap.size + 1, 0, none⟩) (by simp) _).setCell (p := ⟨w.heap.size + 1, 1, none⟩) (by simp) _).setCell (p := ⟨w.heap.size + 1 + 1, 0, none⟩) (by simp; omega) _).setCell (p := ⟨w.heap.size + 1 + 1 + 1, 0, none⟩) (by simp; omega) _
    have hDX : ((((W'.setCell ⟨w.heap.size + 1, 0, none⟩ (.int .i64 0)).setCell ⟨w.heap.size + 1, 1, none⟩ (.int .i64 0)).setCell ⟨w.heap.size + 1 + 1, 0, none⟩ (.int .i64 0)).setCell ⟨w.heap.size + 1 + 1 + 1, 0, none⟩ (.int .i64 7)).heap[w.heap.size + 5]? = some (.deferred (some [])) := by
      rw [heap_setCell_other _ _ _ _ (by simp), heap_setCell_other _ _ _ _ (by simp), heap_setCell_other _ _ _ _ (by simp), heap_setCell_other _ _ _ _ (by simp), ← h5z]
      exact hD
    refine leaves_marks (B := w.heap.size + 5) [_] (w.heap.size + 6) _ ⟨w.heap.size + 5, rfl, Nat.le_refl _, by omega, hDX, trivial⟩ (fun W3 hb => ?_)
    obtain ⟨⟨t1, k1⟩, ⟨t2, k2⟩, ⟨t3, k3⟩⟩ := hX.later hb (by omega)
    obtain ⟨q0, q1, _, _⟩ := pair_cells k1
    obtain ⟨q2, _⟩ := one_cell k2
    obtain ⟨q3, _⟩ := one_cell k3
    exact ⟨threeV (badG 7), by simp [results, Tryd.f30, go_sem, q0, q1, q2, q3], .inr ⟨a4, rfl⟩, hBX.trans (hb.mono (by omega))⟩
  case hstop =>
    rintro D c x W' rfl hx ⟨rfl, a1, a3, a4, a5⟩ hD
    gi_wp2
    refine leaves_marks (B := w.heap.size + 5) [_] (w.heap.size + 6) _ ⟨w5.heap.size, rfl, by omega, by omega, hD, trivial⟩ (fun W3 hb => ?_)
    obtain ⟨⟨t1, k1⟩, ⟨t2, k2⟩, ⟨t3, k3⟩⟩ := a3.later hb (by omega)
    obtain ⟨q0, q1, _, _⟩ := pair_cells k1
    obtain ⟨q2, _⟩ := one_cell k2
    obtain ⟨q3, _⟩ := one_cell k3
    exact ⟨threeV (sigC (codeF first x) (pairAt x) S), by simp [results, Tryd.f30, go_sem, q0, q1, q2, q3], .inl ⟨x, hx, a4, a5, rfl⟩, a1.trans (hb.mono (by omega))⟩

theorem signed_any (S : ByteArray) (hS20 : S.size ≤ 20) (first : Bool) (w : World) (hSp : Spc w) :
    Calls Tryd.prog 30 #[.string S, .bool first] w fun e w' => SignedR S first e ∧ Below w.heap.size w w' := callsIn_wide.1 (signed_in 12 (by omega) S hS20 first w hSp)

end Go.Proofs.YtejcgkplcbapfaaDoor
