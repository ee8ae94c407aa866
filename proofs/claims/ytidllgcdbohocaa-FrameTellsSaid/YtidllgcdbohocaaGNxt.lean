/- frame: group, Next, Corner. -/
import Derived.Test.YtidllgcdbohocaaGIter
namespace Go.Proofs.Ytidllgcdbohocaa
open Go.RowKit Go.Shelf Go.Sort
set_option linter.unusedVariables false
attribute [local go_sem] Oper.semAt_some

/-- a box of one cell, of three -/
def Box1 (W : World) (b : Nat) (v : Value) : Prop := ∃ t, W.heap[b]? = some (.cells #[v] t (0, 0))
def Box3 (W : World) (b : Nat) (u v x : Value) : Prop := ∃ t, W.heap[b]? = some (.cells #[u, v, x] t (0, 0))
theorem Box1.cell {W : World} {b : Nat} {v : Value} (h : Box1 W b v) : W.cell? ⟨b, 0, none⟩ = some v ∧ W.frozen? ⟨b, 0, none⟩ = false := by
  obtain ⟨t, h⟩ := h; exact one_cell h
theorem Box1.lt {W : World} {b : Nat} {v : Value} (h : Box1 W b v) : b < W.heap.size := by obtain ⟨t, h⟩ := h; exact (Array.getElem?_eq_some_iff.1 h).1
theorem Box3.lt {W : World} {b : Nat} {u v x : Value} (h : Box3 W b u v x) : b < W.heap.size := by obtain ⟨t, h⟩ := h; exact (Array.getElem?_eq_some_iff.1 h).1
theorem Box3.cell {W : World} {b : Nat} {u v x : Value} (h : Box3 W b u v x) : W.cell? ⟨b, 0, none⟩ = some u ∧ W.cell? ⟨b, 1, none⟩ = some v ∧ W.cell? ⟨b, 2, none⟩ = some x := by
  obtain ⟨t, h⟩ := h; simp [World.cell?, h]
theorem Box3.free {W : World} {b : Nat} {u v x : Value} (h : Box3 W b u v x) : W.frozen? ⟨b, 0, none⟩ = false ∧ W.frozen? ⟨b, 1, none⟩ = false ∧ W.frozen? ⟨b, 2, none⟩ = false := by
  obtain ⟨t, h⟩ := h; simp [World.frozen?, h]
theorem Box1.at {W W' : World} {b : Nat} {v : Value} (h : Box1 W b v) (e : W'.heap[b]? = W.heap[b]?) : Box1 W' b v := by obtain ⟨t, h⟩ := h; exact ⟨t, e.trans h⟩
theorem Box3.at {W W' : World} {b : Nat} {u v x : Value} (h : Box3 W b u v x) (e : W'.heap[b]? = W.heap[b]?) : Box3 W' b u v x := by obtain ⟨t, h⟩ := h; exact ⟨t, e.trans h⟩
theorem Box1.set {W : World} {b : Nat} {v : Value} (h : Box1 W b v) (u : Value) : Box1 (W.setCell ⟨b, 0, none⟩ u) b u := by obtain ⟨t, h⟩ := h; exact ⟨t, heap_setCell_same _ b 0 _ _ _ h⟩
theorem Box1.other {W : World} {b : Nat} {v : Value} (h : Box1 W b v) (p : Addr) (u : Value) (hp : p.block ≠ b) : Box1 (W.setCell p u) b v := h.at (heap_setCell_other W p b u (fun e => hp e.symm))
theorem Box3.other {W : World} {b : Nat} {v x y : Value} (h : Box3 W b v x y) (p : Addr) (u : Value) (hp : p.block ≠ b) : Box3 (W.setCell p u) b v x y := h.at (heap_setCell_other W p b u (fun e => hp e.symm))
theorem Box3.set {W : World} {b : Nat} {v x y : Value} (h : Box3 W b v x y) (v' x' y' : Value) : Box3 (((W.setCell ⟨b, 0, none⟩ v').setCell ⟨b, 1, none⟩ x').setCell ⟨b, 2, none⟩ y') b v' x' y' := by
  obtain ⟨t, h⟩ := h
  have h1 := heap_setCell_same W b 0 _ _ v' h
  have h2 := heap_setCell_same _ b 1 _ _ x' h1
  have h3 := heap_setCell_same _ b 2 _ _ y' h2
  exact ⟨t, by rw [h3]; rfl⟩

set_option maxRecDepth 100000 in
set_option maxHeartbeats 4000000 in
theorem fgroup_any {f w h nn : Int} {c r : Nat} (H : Fm f w h nn c r) (g : Int) (W : World) :
    Calls Try.prog 31 #[.int .i64 f, .int .i64 g] W fun e W' =>
      ((∃ k, k < c * r ∧ ((gpN c k : Nat) : Int) = g ∧ e = .returned (.tuple #[.agg #[.int .i64 g, .int .i64 (gpX c k : Nat), .int .i64 (gpY c k : Nat)], .int .i64 0])) ∨
       ((∀ k, k < c * r → ((gpN c k : Nat) : Int) ≠ g) ∧ e = .returned (.tuple #[.agg #[.int .i64 0, .int .i64 0, .int .i64 0], .int .i64 8]))) ∧ Below W.heap.size W W' := by
  have HG := Lib.hid (fun w => fgroups_in Fence.wide (40 - 1) trivial rfl f w)
  have hcr := H.cr
  have HT := Lib.hid (fun (n : Nat) (hn : 1 ≤ n) (bb : Nat) (Kp : World → World → Prop) (w0 : World) => fgroups_T H n hn bb Kp w0)
  clear H
  generalize hcN : c * r = N at *
  refine (callsIn_wide (n := 40)).1 ?_
  refine callsIn_of_wp_marks Try.func31 rfl trivial ?_ rfl
  simp only [Try.ntmps31, List.size_toArray, List.length_cons, List.length_nil, Nat.reduceAdd, Nat.reduceSub, Array.replicate_succ, Array.replicate_zero, List.push_toArray, List.append_toArray, List.nil_append, List.cons_append]
  gi_wp2_with (refine ⟨trivial, ?_⟩; gi_at_call 30; refine (HG.out _).mono ?_; rintro e w' ⟨rfl, rfl⟩)
  obtain ⟨w1, hw⟩ : ∃ w1, ((((W.alloc (Obj.cells #[Value.int IntKind.i64 g] 3)).alloc (Obj.cells #[Value.int IntKind.i64 0, Value.int IntKind.i64 0, Value.int IntKind.i64 0] 57)).alloc (Obj.cells #[Value.int IntKind.i64 0] 22)).alloc (Obj.cells #[Value.int IntKind.i64 f] 47)) = w1 := ⟨_, rfl⟩
  rw [hw]
  have hz1 : w1.heap.size = W.heap.size + 4 := by rw [← hw]; simp
  have hb1 : Below W.heap.size W w1 := by rw [← hw]; exact ((((Below.refl _ W).alloc (Nat.le_refl _) _).alloc (by simp) _).alloc (by simp; omega) _).alloc (by simp; omega) _
  have q0 : Box1 w1 W.heap.size (.int .i64 g) := by rw [← hw]; exact ⟨_, heap_keep (heap_keep (heap_keep (heap_new _ rfl _) _) _) _⟩
  have q1 : Box3 w1 (W.heap.size + 1) (.int .i64 0) (.int .i64 0) (.int .i64 0) := by rw [← hw]; exact ⟨_, heap_keep (heap_keep (heap_new _ (by simp) _) _) _⟩
  have q2 : Box1 w1 (W.heap.size + 1 + 1) (.int .i64 0) := by rw [← hw]; exact ⟨_, heap_keep (heap_new _ (by simp) _) _⟩
  have q3 : Box1 w1 (W.heap.size + 1 + 1 + 1) (.int .i64 f) := by rw [← hw]; exact ⟨_, heap_new _ (by simp) _⟩
  clear hw
  refine wpIn_range_T rfl (by omega) (gf := 37) (lb := #[.pointer (some ⟨W.heap.size + 1 + 1 + 1, 0, none⟩)]) rfl trivial (enters_of Try.func37 (by kernel_rfl) rfl)
    (HT.out (40 - 1) (by omega) (W.heap.size + 1 + 1 + 1) (fun _ _ => True) w1 (by omega) q3.cell.1) (fun _ _ => trivial) (fun _ _ _ _ => trivial) (Below.refl _ _) (fun _ => rfl)
    (fun x Wx => (∀ k, k < x → ((gpN c k : Nat) : Int) ≠ g) ∧ Box1 Wx W.heap.size (.int .i64 g) ∧ Box3 Wx (W.heap.size + 1) (.int .i64 0) (.int .i64 0) (.int .i64 0) ∧ Box1 Wx (W.heap.size + 1 + 1) (.int .i64 0) ∧ Below W.heap.size W Wx)
    (fun c' x Wx => c' = .ret ∧ ((gpN c x : Nat) : Int) = g ∧ Box3 Wx (W.heap.size + 1) (.int .i64 g) (.int .i64 (gpX c x : Nat)) (.int .i64 (gpY c x : Nat)) ∧ Box1 Wx (W.heap.size + 1 + 1) (.int .i64 0) ∧ Below W.heap.size W Wx)
    ?hI ?hIx ?h0 ?hround ?hdone ?hstop
  case hI =>
    rintro x A B ⟨h1, h2, h3, h4, h5⟩ hb
    exact ⟨h1, h2.at (hb.block _ (by omega)), h3.at (hb.block _ (by omega)), h4.at (hb.block _ (by omega)), h5.trans (hb.mono (by omega))⟩
  case hIx =>
    rintro c' x A B ⟨h1, h2, h3, h4, h5⟩ hb
    exact ⟨h1, h2, h3.at (hb.block _ (by omega)), h4.at (hb.block _ (by omega)), h5.trans (hb.mono (by omega))⟩
  case h0 => exact ⟨fun k hk => by omega, q0, q1, q2, hb1⟩
  case hround =>
    rintro x Wx ⟨h1, h2, h3, h4, h5⟩ hxz hx
    clear q0 q1 q2 q3 hb1
    gi_wp2
    refine ⟨KeepsHi.alloc _ _ _, trivial, fun W2 hb2 hz2 hot => ?_⟩
    have hz2' : W2.heap.size = Wx.heap.size + 1 := by rw [hz2]; simp
    have hgb : Box3 W2 Wx.heap.size (.int .i64 (gpN c x : Nat)) (.int .i64 (gpX c x : Nat)) (.int .i64 (gpY c x : Nat)) := ⟨_, by rw [hot _ (by omega)]; exact World.alloc_heap_new _ _⟩
    have hk : ∀ b, b < W.heap.size + 4 → W2.heap[b]? = Wx.heap[b]? := fun b hb => by rw [hot _ (by omega), Below.heap_alloc _ _ _ (by omega)]
    replace h2 := h2.at (hk _ (by omega))
    replace h3 := h3.at (hk _ (by omega))
    replace h4 := h4.at (hk _ (by omega))
    replace h5 : Below W.heap.size W W2 := h5.trans (((Below.refl W.heap.size Wx).alloc (by omega) _).trans (hb2.mono (by omega)))
    obtain ⟨c0, f0⟩ := h2.cell
    obtain ⟨g0, g1, g2⟩ := hgb.cell
    obtain ⟨r0, r1, r2⟩ := h3.cell
    obtain ⟨y0, y1, y2⟩ := h3.free
    obtain ⟨e0, e1⟩ := h4.cell
    have H1 := Lib.hid h1
    have H2 := Lib.hid h2
    have H3 := Lib.hid h3
    have H4 := Lib.hid h4
    have H5 := Lib.hid h5
    clear h1 h2 h3 h4 h5 hb2 hz2 hot hk hgb
    by_cases hg : ((gpN c x : Nat) : Int) = g
    · subst hg
      have t1 : (((gpN c x : Nat) : Int) == ((gpN c x : Nat) : Int)) = true := by simp
      gi_wp2
      refine ⟨((((KeepsMid.refl _ _ _).set _ _ (.inl ?_)).set _ _ (.inl ?_)).set _ _ (.inl ?_)).set _ _ (.inl ?_), rfl, rfl, (H3.out.set _ _ _).other _ _ (by simp), (((H4.out.other _ _ (by simp)).other _ _ (by simp)).other _ _ (by simp)).set _, (((H5.out.setCell ?_ _).setCell ?_ _).setCell ?_ _).setCell ?_ _⟩
      all_goals (simp; try omega)
    · have t1 : (((gpN c x : Nat) : Int) == g) = false := by rw [beq_eq_false_iff_ne]; exact hg
      have HN := Lib.hid hg
      clear hg
      generalize gpX c x = gx at *
      generalize gpY c x = gy at *
      gi_wp2
      exact ⟨KeepsMid.refl _ _ _, trivial, fun k hk => by
        by_cases e : k = x
        · rw [e]; exact HN.out
        · exact H1.out k (by omega), H2.out, H3.out, H4.out, H5.out⟩
  case hdone =>
    rintro D W' rfl ⟨h1, h2, h3, h4, h5⟩ hD
    obtain ⟨r0, r1, r2⟩ := h3.cell
    obtain ⟨y0, y1, y2⟩ := h3.free
    obtain ⟨e0, e1⟩ := h4.cell
    have H3 := Lib.hid h3
    have H4 := Lib.hid h4
    have H1 := Lib.hid h1
    have H5 := Lib.hid h5
    clear h1 h2 h3 h4 h5
    gi_wp2
    refine leaves_one (D := w1.heap.size) ?_ (fun W3 hb => ?_)
    · rw [heap_setCell_other _ _ _ _ (by simp; omega), heap_setCell_other _ _ _ _ (by simp; omega), heap_setCell_other _ _ _ _ (by simp; omega), heap_setCell_other _ _ _ _ (by simp; omega)]
      exact hD
    · have k3 := ((H3.out.set (.int .i64 0) (.int .i64 0) (.int .i64 0)).other ⟨W.heap.size + 1 + 1, 0, none⟩ (.int .i64 8) (by simp)).at (hb.block _ (by have := H3.out.lt; simp; omega) (by omega))
      have k4 := ((((H4.out.other ⟨W.heap.size + 1, 0, none⟩ (.int .i64 0) (by simp)).other ⟨W.heap.size + 1, 1, none⟩ (.int .i64 0) (by simp)).other ⟨W.heap.size + 1, 2, none⟩ (.int .i64 0) (by simp)).set (.int .i64 8)).at (hb.block _ (by have := H4.out.lt; simp; omega) (by omega))
      obtain ⟨z0, z1, z2⟩ := k3.cell
      obtain ⟨z3, -⟩ := k4.cell
      refine ⟨.tuple #[.agg #[.int .i64 0, .int .i64 0, .int .i64 0], .int .i64 8], by simp [results, Try.f31, go_sem, z0, z1, z2, z3], .inr ⟨H1.out, rfl⟩, ?_⟩
      have hb5 : Below W.heap.size W ((((W'.setCell ⟨W.heap.size + 1, 0, none⟩ (.int .i64 0)).setCell ⟨W.heap.size + 1, 1, none⟩ (.int .i64 0)).setCell ⟨W.heap.size + 1, 2, none⟩ (.int .i64 0)).setCell ⟨W.heap.size + 1 + 1, 0, none⟩ (.int .i64 8)) := by
        refine (((H5.out.setCell ?_ _).setCell ?_ _).setCell ?_ _).setCell ?_ _
        all_goals (simp; try omega)
      exact hb5.trans (hb.below hb5.size (fun j hj e => by omega))
  case hstop =>
    rintro D c' x W' rfl hx ⟨rfl, h2, h3, h4, h5⟩ hD
    have H3 := Lib.hid h3
    have H4 := Lib.hid h4
    have H5 := Lib.hid h5
    clear h3 h4 h5
    gi_wp2
    refine leaves_one (D := w1.heap.size) hD (fun W3 hb => ?_)
    obtain ⟨z0, z1, z2⟩ := (H3.out.at (hb.block _ H3.out.lt (by omega))).cell
    obtain ⟨z3, -⟩ := (H4.out.at (hb.block _ H4.out.lt (by omega))).cell
    exact ⟨.tuple #[.agg #[.int .i64 g, .int .i64 (gpX c x : Nat), .int .i64 (gpY c x : Nat)], .int .i64 0], by simp [results, Try.f31, go_sem, z0, z1, z2, z3], .inl ⟨x, hx, h2, rfl⟩, H5.out.trans (hb.below H5.out.size (fun j hj e => by omega))⟩

/-- the number ahead of group k: 0 ahead of the first one -/
def pvN (c k : Nat) : Int := if k = 0 then 0 else ((gpN c (k - 1) : Nat) : Int)
theorem pvN_succ (c k : Nat) : pvN c (k + 1) = ((gpN c k : Nat) : Int) := by unfold pvN; rw [if_neg (by omega)]; rfl

set_option maxRecDepth 100000 in
set_option maxHeartbeats 4000000 in
theorem next13_any {f w h nn : Int} {c r : Nat} (H : Fm f w h nn c r) (g : Int) (W : World) :
    Calls Try.prog 12 #[.int .i64 f, .int .i64 g] W fun e W' =>
      ((∃ k, k < c * r ∧ pvN c k = g ∧ e = .returned (.tuple #[.int .i64 (gpN c k : Nat), .int .i64 0])) ∨
       ((∀ k, k < c * r → pvN c k ≠ g) ∧ ((pvN c (c * r) = g ∧ e = .returned (.tuple #[.int .i64 0, .int .i64 0])) ∨ (pvN c (c * r) ≠ g ∧ e = .returned (.tuple #[.int .i64 0, .int .i64 8]))))) ∧ Below W.heap.size W W' := by
  have HG := Lib.hid (fun w => fgroups_in Fence.wide (40 - 1) trivial rfl f w)
  have HK := Lib.hid (fun W => fknown_any H W)
  have hcr := H.cr
  have HT := Lib.hid (fun (n : Nat) (hn : 1 ≤ n) (bb : Nat) (Kp : World → World → Prop) (w0 : World) => fgroups_T H n hn bb Kp w0)
  clear H
  generalize hcN : c * r = N at *
  refine (callsIn_wide (n := 40)).1 ?_
  refine callsIn_of_wp_marks Try.func12 rfl trivial ?_ rfl
  simp only [Try.ntmps12, List.size_toArray, List.length_cons, List.length_nil, Nat.reduceAdd, Nat.reduceSub, Array.replicate_succ, Array.replicate_zero, List.push_toArray, List.append_toArray, List.nil_append, List.cons_append]
  gi_wp2_with (first | (refine ⟨trivial, ?_⟩; gi_at_call 30; refine (HG.out _).mono ?_; rintro e w' ⟨rfl, rfl⟩) | (refine ⟨trivial, ?_⟩; gi_at_call 27; refine (callsIn_wide.2 (HK.out _)).mono ?_; rintro e w' ⟨rfl, rfl⟩))
  obtain ⟨w1, hw⟩ : ∃ w1, (((((W.alloc (Obj.cells #[Value.int IntKind.i64 g] 3)).alloc (Obj.cells #[Value.int IntKind.i64 0] 3)).alloc (Obj.cells #[Value.int IntKind.i64 0] 22)).alloc (Obj.cells #[Value.int IntKind.i64 0] 3)).alloc (Obj.cells #[Value.int IntKind.i64 f] 47)) = w1 := ⟨_, rfl⟩
  rw [hw]
  have hz1 : w1.heap.size = W.heap.size + 5 := by rw [← hw]; simp
  have hb1 : Below W.heap.size W w1 := by rw [← hw]; exact (((((Below.refl _ W).alloc (Nat.le_refl _) _).alloc (by simp) _).alloc (by simp; omega) _).alloc (by simp; omega) _).alloc (by simp; omega) _
  have q0 : Box1 w1 W.heap.size (.int .i64 g) := by rw [← hw]; exact ⟨_, heap_keep (heap_keep (heap_keep (heap_keep (heap_new _ rfl _) _) _) _) _⟩
  have q1 : Box1 w1 (W.heap.size + 1) (.int .i64 0) := by rw [← hw]; exact ⟨_, heap_keep (heap_keep (heap_keep (heap_new _ (by simp) _) _) _) _⟩
  have q2 : Box1 w1 (W.heap.size + 1 + 1) (.int .i64 0) := by rw [← hw]; exact ⟨_, heap_keep (heap_keep (heap_new _ (by simp) _) _) _⟩
  have q3 : Box1 w1 (W.heap.size + 1 + 1 + 1) (.int .i64 0) := by rw [← hw]; exact ⟨_, heap_keep (heap_new _ (by simp) _) _⟩
  have q4 : Box1 w1 (W.heap.size + 1 + 1 + 1 + 1) (.int .i64 f) := by rw [← hw]; exact ⟨_, heap_new _ (by simp) _⟩
  clear hw
  refine wpIn_range_T rfl (by omega) (gf := 37) (lb := #[.pointer (some ⟨W.heap.size + 1 + 1 + 1 + 1, 0, none⟩)]) rfl trivial (enters_of Try.func37 (by kernel_rfl) rfl)
    (HT.out (40 - 1) (by omega) (W.heap.size + 1 + 1 + 1 + 1) (fun _ _ => True) w1 (by omega) q4.cell.1) (fun _ _ => trivial) (fun _ _ _ _ => trivial) (Below.refl _ _) (fun _ => rfl)
    (fun x Wx => (∀ k, k < x → pvN c k ≠ g) ∧ Box1 Wx W.heap.size (.int .i64 g) ∧ Box1 Wx (W.heap.size + 1) (.int .i64 0) ∧ Box1 Wx (W.heap.size + 1 + 1) (.int .i64 0) ∧ Box1 Wx (W.heap.size + 1 + 1 + 1) (.int .i64 (pvN c x)) ∧ Below W.heap.size W Wx)
    (fun c' x Wx => c' = .ret ∧ pvN c x = g ∧ Box1 Wx (W.heap.size + 1) (.int .i64 (gpN c x : Nat)) ∧ Box1 Wx (W.heap.size + 1 + 1) (.int .i64 0) ∧ Below W.heap.size W Wx)
    ?hI ?hIx ?h0 ?hround ?hdone ?hstop
  case hI =>
    rintro x A B ⟨h1, h2, h3, h4, h6, h5⟩ hb
    exact ⟨h1, h2.at (hb.block _ (by omega)), h3.at (hb.block _ (by omega)), h4.at (hb.block _ (by omega)), h6.at (hb.block _ (by omega)), h5.trans (hb.mono (by omega))⟩
  case hIx =>
    rintro c' x A B ⟨h1, h2, h3, h4, h5⟩ hb
    exact ⟨h1, h2, h3.at (hb.block _ (by omega)), h4.at (hb.block _ (by omega)), h5.trans (hb.mono (by omega))⟩
  case h0 => exact ⟨fun k hk => by omega, q0, q1, q2, q3, hb1⟩
  case hround =>
    rintro x Wx ⟨h1, h2, h3, h4, h6, h5⟩ hxz hx
    clear q0 q1 q2 q3 q4 hb1
    gi_wp2
    refine ⟨KeepsHi.alloc _ _ _, trivial, fun W2 hb2 hz2 hot => ?_⟩
    have hz2' : W2.heap.size = Wx.heap.size + 1 := by rw [hz2]; simp
    have hgb : Box3 W2 Wx.heap.size (.int .i64 (gpN c x : Nat)) (.int .i64 (gpX c x : Nat)) (.int .i64 (gpY c x : Nat)) := ⟨_, by rw [hot _ (by omega)]; exact World.alloc_heap_new _ _⟩
    have hk : ∀ b, b < W.heap.size + 4 → W2.heap[b]? = Wx.heap[b]? := fun b hb => by rw [hot _ (by omega), Below.heap_alloc _ _ _ (by omega)]
    replace h2 := h2.at (hk _ (by omega))
    replace h3 := h3.at (hk _ (by omega))
    replace h4 := h4.at (hk _ (by omega))
    replace h6 := h6.at (hk _ (by omega))
    replace h5 : Below W.heap.size W W2 := h5.trans (((Below.refl W.heap.size Wx).alloc (by omega) _).trans (hb2.mono (by omega)))
    obtain ⟨c0, f0⟩ := h2.cell
    obtain ⟨g0, -, -⟩ := hgb.cell
    obtain ⟨r0, r1⟩ := h3.cell
    obtain ⟨e0, e1⟩ := h4.cell
    obtain ⟨a0, a1⟩ := h6.cell
    have H1 := Lib.hid h1
    have H2 := Lib.hid h2
    have H3 := Lib.hid h3
    have H4 := Lib.hid h4
    have H5 := Lib.hid h5
    have H6 := Lib.hid h6
    have HP := Lib.hid (pvN_succ c x)
    clear h1 h2 h3 h4 h5 h6 hb2 hz2 hot hk hgb
    by_cases hg : pvN c x = g
    · have HG2 := Lib.hid hg
      have t1 : (pvN c x == g) = true := by rw [beq_iff_eq]; exact hg
      clear hg
      gi_wp2
      refine ⟨((KeepsMid.refl _ _ _).set _ _ (.inl ?_)).set _ _ (.inl ?_), rfl, HG2.out, (H3.out.set _).other _ _ (by simp), ((H4.out.other _ _ (by simp)).set _), (H5.out.setCell ?_ _).setCell ?_ _⟩
      all_goals (simp; try omega)
    · have t1 : (pvN c x == g) = false := by rw [beq_eq_false_iff_ne]; exact hg
      have HN := Lib.hid hg
      clear hg
      generalize gpX c x = gx at *
      generalize gpY c x = gy at *
      gi_wp2
      refine ⟨(KeepsMid.refl _ _ _).set _ _ (.inl ?_), trivial, fun k hk => ?_, H2.out.other _ _ (by simp <;> omega), H3.out.other _ _ (by simp <;> omega), H4.out.other _ _ (by simp <;> omega), by rw [HP.out]; exact H6.out.set _, H5.out.setCell ?_ _⟩
      · simp; omega
      · by_cases e : k = x
        · rw [e]; exact HN.out
        · exact H1.out k (by omega)
      · simp; omega
  case hdone =>
    rintro D W' rfl ⟨h1, h2, h3, h4, h6, h5⟩ hD
    obtain ⟨c0, f0⟩ := h2.cell
    obtain ⟨r0, r1⟩ := h3.cell
    obtain ⟨e0, e1⟩ := h4.cell
    obtain ⟨a0, a1⟩ := h6.cell
    have H3 := Lib.hid h3
    have H4 := Lib.hid h4
    have H1 := Lib.hid h1
    have H5 := Lib.hid h5
    clear h1 h2 h3 h4 h5 h6
    have fin : ∀ z, ((pvN c N = g ∧ z = 0) ∨ (pvN c N ≠ g ∧ z = 8)) → ∀ W3, Bar (fun k => k = w1.heap.size) ((W'.setCell ⟨W.heap.size + 1, 0, none⟩ (.int .i64 0)).setCell ⟨W.heap.size + 1 + 1, 0, none⟩ (.int .i64 z)) W3 →
        W3.cell? ⟨W.heap.size + 1, 0, none⟩ = some (.int .i64 0) ∧ W3.cell? ⟨W.heap.size + 1 + 1, 0, none⟩ = some (.int .i64 z) ∧ Below W.heap.size W W3 := fun z hz W3 hb => by
      have k3 := ((H3.out.set (.int .i64 0)).other ⟨W.heap.size + 1 + 1, 0, none⟩ (.int .i64 z) (by simp)).at (hb.block _ (by have := H3.out.lt; simp; omega) (by omega))
      have k4 := ((H4.out.other ⟨W.heap.size + 1, 0, none⟩ (.int .i64 0) (by simp)).set (.int .i64 z)).at (hb.block _ (by have := H4.out.lt; simp; omega) (by omega))
      have hb5 : Below W.heap.size W ((W'.setCell ⟨W.heap.size + 1, 0, none⟩ (.int .i64 0)).setCell ⟨W.heap.size + 1 + 1, 0, none⟩ (.int .i64 z)) := by
        refine (H5.out.setCell ?_ _).setCell ?_ _
        all_goals (simp; try omega)
      exact ⟨k3.cell.1, k4.cell.1, hb5.trans (hb.below hb5.size (fun j hj e => by omega))⟩
    have FIN := Lib.hid fin
    clear fin
    have hDD : ∀ z, ((W'.setCell ⟨W.heap.size + 1, 0, none⟩ (.int .i64 0)).setCell ⟨W.heap.size + 1 + 1, 0, none⟩ (.int .i64 z)).heap[w1.heap.size]? = some (.deferred (some [])) := fun z => by
      rw [heap_setCell_other _ _ _ _ (by simp; omega), heap_setCell_other _ _ _ _ (by simp; omega)]; exact hD
    have HDD := Lib.hid hDD
    clear hDD hD
    by_cases hg : pvN c N = g
    · have t1 : (pvN c N == g) = true := by rw [beq_iff_eq]; exact hg
      have HG2 := Lib.hid hg
      clear hg
      gi_wp2
      refine leaves_one (D := w1.heap.size) (HDD.out 0) (fun W3 hb => ?_)
      obtain ⟨z0, z1, hb3⟩ := FIN.out 0 (.inl ⟨HG2.out, rfl⟩) W3 hb
      exact ⟨.tuple #[.int .i64 0, .int .i64 0], by simp [results, Try.f12, go_sem, z0, z1], .inr ⟨H1.out, .inl ⟨HG2.out, rfl⟩⟩, hb3⟩
    · have t1 : (pvN c N == g) = false := by rw [beq_eq_false_iff_ne]; exact hg
      have HG2 := Lib.hid hg
      clear hg
      gi_wp2
      refine leaves_one (D := w1.heap.size) (HDD.out 8) (fun W3 hb => ?_)
      obtain ⟨z0, z1, hb3⟩ := FIN.out 8 (.inr ⟨HG2.out, rfl⟩) W3 hb
      exact ⟨.tuple #[.int .i64 0, .int .i64 8], by simp [results, Try.f12, go_sem, z0, z1], .inr ⟨H1.out, .inr ⟨HG2.out, rfl⟩⟩, hb3⟩
  case hstop =>
    rintro D c' x W' rfl hx ⟨rfl, h2, h3, h4, h5⟩ hD
    have H3 := Lib.hid h3
    have H4 := Lib.hid h4
    have H5 := Lib.hid h5
    clear h3 h4 h5
    gi_wp2
    refine leaves_one (D := w1.heap.size) hD (fun W3 hb => ?_)
    obtain ⟨z0, -⟩ := (H3.out.at (hb.block _ H3.out.lt (by omega))).cell
    obtain ⟨z3, -⟩ := (H4.out.at (hb.block _ H4.out.lt (by omega))).cell
    exact ⟨.tuple #[.int .i64 (gpN c x : Nat), .int .i64 0], by simp [results, Try.f12, go_sem, z0, z3], .inl ⟨x, hx, h2, rfl⟩, H5.out.trans (hb.below H5.out.size (fun j hj e => by omega))⟩

end Go.Proofs.Ytidllgcdbohocaa
