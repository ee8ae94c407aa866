/- frame: a block's plane and corner; groups. frame: Groups. frame: group, Next, Corner. frame: Corner. frame: Place. frame: formats that are none. -/
import Derived.Test.YtenplmmongphoaaGIter
/- frame: a block's plane and corner; groups. -/
namespace Go.Proofs.Ytenplmmongphoaa
open Go.RowKit Go.Shelf Go.Sort
set_option linter.unusedVariables false

/-- where a block's plane begins, and how wide it is -/
def plF (w h : Int) (b : Nat) : Int := if b = 5 then w * h else if b = 6 then w * h + w / 2 * (h / 2) else 0
def plW (w : Int) (b : Nat) : Int := if b = 5 then w / 2 else if b = 6 then w / 2 else w
/-- where in its plane a block begins -/
def coX (x b : Nat) : Nat := if b = 5 ∨ b = 6 then x / 2 else x + 8 * ((b - 1) % 2)
def coY (y b : Nat) : Nat := if b = 5 ∨ b = 6 then y / 2 else y + 8 * ((b - 1) / 2)

set_option maxHeartbeats 1000000 in
theorem fplane_any {f w h nn : Int} {c r : Nat} (H : Fm f w h nn c r) (b : Nat) (W : World) :
    Calls Try.prog 69 #[.int .i64 f, .int .i64 (b : Int)] W fun e W' => e = .returned (.agg #[.int .i64 (plF w h b), .int .i64 (plW w b)]) ∧ Below W.heap.size W W' := by
  have HS := Lib.hid (fun W => fsize_any H W)
  by_cases h5 : b = 5
  · subst h5
    rcases H with ⟨rfl, rfl, rfl, rfl, -, -⟩ | ⟨rfl, rfl, rfl, rfl, -, -⟩
    all_goals
      go_enter Try.func69, Try.ntmps69
      go_wp2_with (go_at_call 62; refine (HS.out _).mono ?_; rintro e w' ⟨rfl, rfl⟩)
      refine bodyPost_ret (by simp [results, Try.f69, go_sem]; exact ⟨rfl, rfl⟩) rfl ⟨rfl, (Below.refl _ _).alloc (Nat.le_refl _) _⟩
  · by_cases h6 : b = 6
    · subst h6
      rcases H with ⟨rfl, rfl, rfl, rfl, -, -⟩ | ⟨rfl, rfl, rfl, rfl, -, -⟩
      all_goals
        go_enter Try.func69, Try.ntmps69
        go_wp2_with (go_at_call 62; refine (HS.out _).mono ?_; rintro e w' ⟨rfl, rfl⟩)
        refine bodyPost_ret (by simp [results, Try.f69, go_sem]; exact ⟨rfl, rfl⟩) rfl ⟨rfl, (Below.refl _ _).alloc (Nat.le_refl _) _⟩
    · have e5 : ((b : Int) == 5) = false := by rw [beq_eq_false_iff_ne]; omega
      have e6 : ((b : Int) == 6) = false := by rw [beq_eq_false_iff_ne]; omega
      have ef : plF w h b = 0 := by unfold plF; rw [if_neg h5, if_neg h6]
      have ew : plW w b = w := by unfold plW; rw [if_neg h5, if_neg h6]
      rw [ef, ew]
      clear h5 h6 ef ew
      rcases H with ⟨rfl, rfl, rfl, rfl, -, -⟩ | ⟨rfl, rfl, rfl, rfl, -, -⟩
      all_goals
        go_enter Try.func69, Try.ntmps69
        go_wp2_with (go_at_call 62; refine (HS.out _).mono ?_; rintro e w' ⟨rfl, rfl⟩)
        refine bodyPost_ret (by simp [results, Try.f69, go_sem]) rfl ⟨rfl, (Below.refl _ _).alloc (Nat.le_refl _) _⟩

theorem fplaceP_any (p q x y : Int) (hp : 0 ≤ p) (hp2 : p ≤ 200000) (hx : 0 ≤ x) (hx2 : x ≤ 2000) (hq : 0 ≤ q * y) (hq2 : q * y ≤ 1000000) (W : World) :
    Calls Try.prog 70 #[.agg #[.int .i64 p, .int .i64 q], .int .i64 x, .int .i64 y] W fun e W' => e = .returned (.int .i64 (p + q * y + x)) ∧ W' = W.alloc (.cells #[.int .i64 p, .int .i64 q] 116 (0, 0)) := by
  go_enter Try.func70, Try.ntmps70
  go_wp2
  go_ret
  exact ⟨rfl, rfl⟩

set_option maxHeartbeats 2000000 in
theorem fcornerB_any (g a : Int) (x y b : Nat) (hx : x ≤ 1000) (hy : y ≤ 1000) (hb1 : 1 ≤ b) (hb : b ≤ 6) (W : World) :
    Calls Try.prog 71 #[.agg #[.int .i64 g, .int .i64 a, .int .i64 x, .int .i64 y, .int .i64 b]] W fun e W' => e = .returned (.tuple #[.int .i64 (coX x b : Nat), .int .i64 (coY y b : Nat)]) ∧ Below W.heap.size W W' := by
  have hc : b = 1 ∨ b = 2 ∨ b = 3 ∨ b = 4 ∨ b = 5 ∨ b = 6 := by omega
  clear hb1 hb
  rcases hc with rfl | rfl | rfl | rfl | rfl | rfl
  all_goals
    go_enter Try.func71, Try.ntmps71
    go_wp2
    go_quiet (fail)
    go_wp2
    go_ret2
    refine ⟨?_, ((Below.refl _ _).alloc (Nat.le_refl _) _).trans (below_drewN _ _ _)⟩
    simp [coX, coY]

end Go.Proofs.Ytenplmmongphoaa

/- frame: Groups. -/
namespace Go.Proofs.Ytenplmmongphoaa
open Go.RowKit Go.Shelf Go.Sort
set_option linter.unusedVariables false
attribute [local go_sem] Oper.semAt_some

/-- the numbers of the first k groups -/
def gNums (c k : Nat) : List Int := (List.range k).map fun j => ((gpN c j : Nat) : Int)
theorem gNums_succ (c k : Nat) : intV (gNums c (k + 1)) = intV (gNums c k) ++ [.int .i64 ((gpN c k : Nat) : Int)] := by simp [gNums, List.range_succ]
theorem gNums_length (c k : Nat) : (gNums c k).length = k := by simp [gNums]

end Go.Proofs.Ytenplmmongphoaa

/- frame: group, Next, Corner. -/
namespace Go.Proofs.Ytenplmmongphoaa
open Go.RowKit Go.Shelf Go.Sort
set_option linter.unusedVariables false
attribute [local go_sem] Oper.semAt_some

/-- a box of one cell, of three -/
def Box1 (W : World) (b : Nat) (v : Value) : Prop := ∃ t, W.heap[b]? = some (.cells #[v] t (0, 0))
def Box3 (W : World) (b : Nat) (u v x : Value) : Prop := ∃ t, W.heap[b]? = some (.cells #[u, v, x] t (0, 0))
theorem Box1.cell {W : World} {b : Nat} {v : Value} (h : Box1 W b v) : W.cell? ⟨b, 0, none⟩ = some v ∧ W.frozen? ⟨b, 0, none⟩ = false := by
  obtain ⟨t, h⟩ := h; exact one_cell h
theorem Box1.lt {W : World} {b : Nat} {v : Value} (h : Box1 W b v) : b < W.heap.size := by obtain ⟨t, h⟩ := h; exact (Array.getElem?_eq_some_iff.1 h).1
theorem Box3.lt {W : World} {b : Nat} {u v x : Value} (h : Box3 W b u v x) : b < W.heap.size := by obtain ⟨t, h⟩ := h; exact (Array.getElem?_eq_some_iff.1 h).1
theorem Box3.cell {W : World} {b : Nat} {u v x : Value} (h : Box3 W b u v x) : W.cell? ⟨b, 0, none⟩ = some u ∧ W.cell? ⟨b, 1, none⟩ = some v ∧ W.cell? ⟨b, 2, none⟩ = some x := by
  obtain ⟨t, h⟩ := h; simp [World.cell?, h]
theorem Box3.free {W : World} {b : Nat} {u v x : Value} (h : Box3 W b u v x) : W.frozen? ⟨b, 0, none⟩ = false ∧ W.frozen? ⟨b, 1, none⟩ = false ∧ W.frozen? ⟨b, 2, none⟩ = false := by
  obtain ⟨t, h⟩ := h; simp [World.frozen?, h]
theorem Box1.at {W W' : World} {b : Nat} {v : Value} (h : Box1 W b v) (e : W'.heap[b]? = W.heap[b]?) : Box1 W' b v := by obtain ⟨t, h⟩ := h; exact ⟨t, e.trans h⟩
theorem Box3.at {W W' : World} {b : Nat} {u v x : Value} (h : Box3 W b u v x) (e : W'.heap[b]? = W.heap[b]?) : Box3 W' b u v x := by obtain ⟨t, h⟩ := h; exact ⟨t, e.trans h⟩
theorem Box1.set {W : World} {b : Nat} {v : Value} (h : Box1 W b v) (u : Value) : Box1 (W.setCell ⟨b, 0, none⟩ u) b u := by obtain ⟨t, h⟩ := h; exact ⟨t, heap_setCell_same _ b 0 _ _ _ h⟩
theorem Box1.other {W : World} {b : Nat} {v : Value} (h : Box1 W b v) (p : Addr) (u : Value) (hp : p.block ≠ b) : Box1 (W.setCell p u) b v := h.at (heap_setCell_other W p b u (fun e => hp e.symm))
theorem Box3.other {W : World} {b : Nat} {v x y : Value} (h : Box3 W b v x y) (p : Addr) (u : Value) (hp : p.block ≠ b) : Box3 (W.setCell p u) b v x y := h.at (heap_setCell_other W p b u (fun e => hp e.symm))
theorem Box3.set {W : World} {b : Nat} {v x y : Value} (h : Box3 W b v x y) (v' x' y' : Value) : Box3 (((W.setCell ⟨b, 0, none⟩ v').setCell ⟨b, 1, none⟩ x').setCell ⟨b, 2, none⟩ y') b v' x' y' := by
  obtain ⟨t, h⟩ := h
  have h1 := heap_setCell_same W b 0 _ _ v' h
  have h2 := heap_setCell_same _ b 1 _ _ x' h1
  have h3 := heap_setCell_same _ b 2 _ _ y' h2
  exact ⟨t, by rw [h3]; rfl⟩

set_option maxRecDepth 100000 in
set_option maxHeartbeats 4000000 in
theorem fgroup_any {f w h nn : Int} {c r : Nat} (H : Fm f w h nn c r) (g : Int) (W : World) :
    Calls Try.prog 66 #[.int .i64 f, .int .i64 g] W fun e W' =>
      ((∃ k, k < c * r ∧ ((gpN c k : Nat) : Int) = g ∧ e = .returned (.tuple #[.agg #[.int .i64 g, .int .i64 (gpX c k : Nat), .int .i64 (gpY c k : Nat)], .int .i64 0])) ∨
       ((∀ k, k < c * r → ((gpN c k : Nat) : Int) ≠ g) ∧ e = .returned (.tuple #[.agg #[.int .i64 0, .int .i64 0, .int .i64 0], .int .i64 8]))) ∧ Below W.heap.size W W' := by
  have HG := Lib.hid (fun w => fgroups_in Fence.wide (40 - 1) trivial rfl f w)
  have hcr := H.cr
  have HT := Lib.hid (fun (n : Nat) (hn : 1 ≤ n) (bb : Nat) (Kp : World → World → Prop) (w0 : World) => fgroups_T H n hn bb Kp w0)
  clear H
  generalize hcN : c * r = N at *
  refine (callsIn_wide (n := 40)).1 ?_
  refine callsIn_of_wp_marks Try.func66 rfl trivial ?_ rfl
  simp only [Try.ntmps66, List.size_toArray, List.length_cons, List.length_nil, Nat.reduceAdd, Nat.reduceSub, Array.replicate_succ, Array.replicate_zero, List.push_toArray, List.append_toArray, List.nil_append, List.cons_append]
  gi_wp2_with (refine ⟨trivial, ?_⟩; gi_at_call 81; refine (HG.out _).mono ?_; rintro e w' ⟨rfl, rfl⟩)
  obtain ⟨w1, hw⟩ : ∃ w1, ((((W.alloc (Obj.cells #[Value.int IntKind.i64 g] 3)).alloc (Obj.cells #[Value.int IntKind.i64 0, Value.int IntKind.i64 0, Value.int IntKind.i64 0] 102)).alloc (Obj.cells #[Value.int IntKind.i64 0] 27)).alloc (Obj.cells #[Value.int IntKind.i64 f] 94)) = w1 := ⟨_, rfl⟩
  rw [hw]
  have hz1 : w1.heap.size = W.heap.size + 4 := by rw [← hw]; simp
  have hb1 : Below W.heap.size W w1 := by rw [← hw]; exact ((((Below.refl _ W).alloc (Nat.le_refl _) _).alloc (by simp) _).alloc (by simp; omega) _).alloc (by simp; omega) _
  have q0 : Box1 w1 W.heap.size (.int .i64 g) := by rw [← hw]; exact ⟨_, heap_keep (heap_keep (heap_keep (heap_new _ rfl _) _) _) _⟩
  have q1 : Box3 w1 (W.heap.size + 1) (.int .i64 0) (.int .i64 0) (.int .i64 0) := by rw [← hw]; exact ⟨_, heap_keep (heap_keep (heap_new _ (by simp) _) _) _⟩
  have q2 : Box1 w1 (W.heap.size + 1 + 1) (.int .i64 0) := by rw [← hw]; exact ⟨_, heap_keep (heap_new _ (by simp) _) _⟩
  have q3 : Box1 w1 (W.heap.size + 1 + 1 + 1) (.int .i64 f) := by rw [← hw]; exact ⟨_, heap_new _ (by simp) _⟩
  clear hw
  refine wpIn_range_T rfl (by omega) (gf := 88) (lb := #[.pointer (some ⟨W.heap.size + 1 + 1 + 1, 0, none⟩)]) rfl trivial (enters_of Try.func88 (by kernel_rfl) rfl)
    (HT.out (40 - 1) (by omega) (W.heap.size + 1 + 1 + 1) (fun _ _ => True) w1 (by omega) q3.cell.1) (fun _ _ => trivial) (fun _ _ _ _ => trivial) (Below.refl _ _) (fun _ => rfl)
    (fun x Wx => (∀ k, k < x → ((gpN c k : Nat) : Int) ≠ g) ∧ Box1 Wx W.heap.size (.int .i64 g) ∧ Box3 Wx (W.heap.size + 1) (.int .i64 0) (.int .i64 0) (.int .i64 0) ∧ Box1 Wx (W.heap.size + 1 + 1) (.int .i64 0) ∧ Below W.heap.size W Wx)
    (fun c' x Wx => c' = .ret ∧ ((gpN c x : Nat) : Int) = g ∧ Box3 Wx (W.heap.size + 1) (.int .i64 g) (.int .i64 (gpX c x : Nat)) (.int .i64 (gpY c x : Nat)) ∧ Box1 Wx (W.heap.size + 1 + 1) (.int .i64 0) ∧ Below W.heap.size W Wx)
    ?hI ?hIx ?h0 ?hround ?hdone ?hstop
  case hI =>
    rintro x A B ⟨h1, h2, h3, h4, h5⟩ hb
    exact ⟨h1, h2.at (hb.block _ (by omega)), h3.at (hb.block _ (by omega)), h4.at (hb.block _ (by omega)), h5.trans (hb.mono (by omega))⟩
  case hIx =>
    rintro c' x A B ⟨h1, h2, h3, h4, h5⟩ hb
    exact ⟨h1, h2, h3.at (hb.block _ (by omega)), h4.at (hb.block _ (by omega)), h5.trans (hb.mono (by omega))⟩
  case h0 => exact ⟨fun k hk => by omega, q0, q1, q2, hb1⟩
  case hround =>
    rintro x Wx ⟨h1, h2, h3, h4, h5⟩ hxz hx
    clear q0 q1 q2 q3 hb1
    gi_wp2
    refine ⟨KeepsHi.alloc _ _ _, trivial, fun W2 hb2 hz2 hot => ?_⟩
    have hz2' : W2.heap.size = Wx.heap.size + 1 := by rw [hz2]; simp
    have hgb : Box3 W2 Wx.heap.size (.int .i64 (gpN c x : Nat)) (.int .i64 (gpX c x : Nat)) (.int .i64 (gpY c x : Nat)) := ⟨_, by rw [hot _ (by omega)]; exact World.alloc_heap_new _ _⟩
    have hk : ∀ b, b < W.heap.size + 4 → W2.heap[b]? = Wx.heap[b]? := fun b hb => by rw [hot _ (by omega), Below.heap_alloc _ _ _ (by omega)]
    replace h2 := h2.at (hk _ (by omega))
    replace h3 := h3.at (hk _ (by omega))
    replace h4 := h4.at (hk _ (by omega))
    replace h5 : Below W.heap.size W W2 := h5.trans (((Below.refl W.heap.size Wx).alloc (by omega) _).trans (hb2.mono (by omega)))
    obtain ⟨c0, f0⟩ := h2.cell
    obtain ⟨g0, g1, g2⟩ := hgb.cell
    obtain ⟨r0, r1, r2⟩ := h3.cell
    obtain ⟨y0, y1, y2⟩ := h3.free
    obtain ⟨e0, e1⟩ := h4.cell
    have H1 := Lib.hid h1
    have H2 := Lib.hid h2
    have H3 := Lib.hid h3
    have H4 := Lib.hid h4
    have H5 := Lib.hid h5
    clear h1 h2 h3 h4 h5 hb2 hz2 hot hk hgb
    by_cases hg : ((gpN c x : Nat) : Int) = g
    · subst hg
      have t1 : (((gpN c x : Nat) : Int) == ((gpN c x : Nat) : Int)) = true := by simp
      gi_wp2
      refine ⟨((((KeepsMid.refl _ _ _).set _ _ (.inl ?_)).set _ _ (.inl ?_)).set _ _ (.inl ?_)).set _ _ (.inl ?_), rfl, rfl, (H3.out.set _ _ _).other _ _ (by simp), (((H4.out.other _ _ (by simp)).other _ _ (by simp)).other _ _ (by simp)).set _, (((H5.out.setCell ?_ _).setCell ?_ _).setCell ?_ _).setCell ?_ _⟩
      all_goals (simp; try omega)
    · have t1 : (((gpN c x : Nat) : Int) == g) = false := by rw [beq_eq_false_iff_ne]; exact hg
      have HN := Lib.hid hg
      clear hg
      generalize gpX c x = gx at *
      generalize gpY c x = gy at *
      gi_wp2
      exact ⟨KeepsMid.refl _ _ _, trivial, fun k hk => by
        by_cases e : k = x
        · rw [e]; exact HN.out
        · exact H1.out k (by omega), H2.out, H3.out, H4.out, H5.out⟩
  case hdone =>
    rintro D W' rfl ⟨h1, h2, h3, h4, h5⟩ hD
    obtain ⟨r0, r1, r2⟩ := h3.cell
    obtain ⟨y0, y1, y2⟩ := h3.free
    obtain ⟨e0, e1⟩ := h4.cell
    have H3 := Lib.hid h3
    have H4 := Lib.hid h4
    have H1 := Lib.hid h1
    have H5 := Lib.hid h5
    clear h1 h2 h3 h4 h5
    gi_wp2
    refine leaves_one (D := w1.heap.size) ?_ (fun W3 hb => ?_)
    · rw [heap_setCell_other _ _ _ _ (by simp; omega), heap_setCell_other _ _ _ _ (by simp; omega), heap_setCell_other _ _ _ _ (by simp; omega), heap_setCell_other _ _ _ _ (by simp; omega)]
      exact hD
    · have k3 := ((H3.out.set (.int .i64 0) (.int .i64 0) (.int .i64 0)).other ⟨W.heap.size + 1 + 1, 0, none⟩ (.int .i64 8) (by simp)).at (hb.block _ (by have := H3.out.lt; simp; omega) (by omega))
      have k4 := ((((H4.out.other ⟨W.heap.size + 1, 0, none⟩ (.int .i64 0) (by simp)).other ⟨W.heap.size + 1, 1, none⟩ (.int .i64 0) (by simp)).other ⟨W.heap.size + 1, 2, none⟩ (.int .i64 0) (by simp)).set (.int .i64 8)).at (hb.block _ (by have := H4.out.lt; simp; omega) (by omega))
      obtain ⟨z0, z1, z2⟩ := k3.cell
      obtain ⟨z3, -⟩ := k4.cell
      refine ⟨.tuple #[.agg #[.int .i64 0, .int .i64 0, .int .i64 0], .int .i64 8], by simp [results, Try.f66, go_sem, z0, z1, z2, z3], .inr ⟨H1.out, rfl⟩, ?_⟩
      have hb5 : Below W.heap.size W ((((W'.setCell ⟨W.heap.size + 1, 0, none⟩ (.int .i64 0)).setCell ⟨W.heap.size + 1, 1, none⟩ (.int .i64 0)).setCell ⟨W.heap.size + 1, 2, none⟩ (.int .i64 0)).setCell ⟨W.heap.size + 1 + 1, 0, none⟩ (.int .i64 8)) := by
        refine (((H5.out.setCell ?_ _).setCell ?_ _).setCell ?_ _).setCell ?_ _
        all_goals (simp; try omega)
      exact hb5.trans (hb.below hb5.size (fun j hj e => by omega))
  case hstop =>
    rintro D c' x W' rfl hx ⟨rfl, h2, h3, h4, h5⟩ hD
    have H3 := Lib.hid h3
    have H4 := Lib.hid h4
    have H5 := Lib.hid h5
    clear h3 h4 h5
    gi_wp2
    refine leaves_one (D := w1.heap.size) hD (fun W3 hb => ?_)
    obtain ⟨z0, z1, z2⟩ := (H3.out.at (hb.block _ H3.out.lt (by omega))).cell
    obtain ⟨z3, -⟩ := (H4.out.at (hb.block _ H4.out.lt (by omega))).cell
    exact ⟨.tuple #[.agg #[.int .i64 g, .int .i64 (gpX c x : Nat), .int .i64 (gpY c x : Nat)], .int .i64 0], by simp [results, Try.f66, go_sem, z0, z1, z2, z3], .inl ⟨x, hx, h2, rfl⟩, H5.out.trans (hb.below H5.out.size (fun j hj e => by omega))⟩

/-- the number ahead of group k: 0 ahead of the first one -/
def pvN (c k : Nat) : Int := if k = 0 then 0 else ((gpN c (k - 1) : Nat) : Int)
theorem pvN_succ (c k : Nat) : pvN c (k + 1) = ((gpN c k : Nat) : Int) := by unfold pvN; rw [if_neg (by omega)]; rfl

end Go.Proofs.Ytenplmmongphoaa

/- frame: Corner. -/
namespace Go.Proofs.Ytenplmmongphoaa
open Go.RowKit Go.Shelf Go.Sort
set_option linter.unusedVariables false
attribute [local go_sem] Oper.semAt_some

theorem Below.thru {B C : Nat} {X Y Z : World} (h : Below B X Y) (k : Below C Y Z) (hBC : B ≤ C) : Below B X Z := h.trans (k.mono hBC)

/-- what Corner answers, of a format that is known -/
def CorE (c N : Nat) (g a : Int) (e : Ending) : Prop :=
  (∃ k m : Nat, k < N ∧ m < 33 ∧ ((gpN c k : Nat) : Int) = g ∧ a = (m : Int) + 1 ∧ e = .returned (.tuple #[.int .i64 ((gpX c k : Nat) + 16 * ((m : Int) % 11)), .int .i64 ((gpY c k : Nat) + 16 * ((m : Int) / 11)), .int .i64 0])) ∨
  ((∃ k, k < N ∧ ((gpN c k : Nat) : Int) = g) ∧ (a < 1 ∨ 33 < a) ∧ e = .returned (.tuple #[.int .i64 0, .int .i64 0, .int .i64 13])) ∨
  ((∀ k, k < N → ((gpN c k : Nat) : Int) ≠ g) ∧ e = .returned (.tuple #[.int .i64 0, .int .i64 0, .int .i64 8]))

set_option maxRecDepth 100000 in
set_option maxHeartbeats 4000000 in
theorem corner13_any {f w h nn : Int} {c r : Nat} (H : Fm f w h nn c r) (g a : Int) (W : World) :
    Calls Try.prog 51 #[.int .i64 f, .int .i64 g, .int .i64 a] W fun e W' => CorE c (c * r) g a e ∧ Below W.heap.size W W' := by
  have HK := Lib.hid (fun W => fknown_any H W)
  have HGr := Lib.hid (fun W => fgroup_any H g W)
  have hcr := H.cr
  have HC := Lib.hid H.c
  clear H
  generalize hcN : c * r = N at *
  refine (callsIn_wide (n := 40)).1 ?_
  refine callsIn_of_wp_marks Try.func51 rfl trivial ?_ rfl
  simp only [Try.ntmps51, List.size_toArray, List.length_cons, List.length_nil, Nat.reduceAdd, Nat.reduceSub, Array.replicate_succ, Array.replicate_zero, List.push_toArray, List.append_toArray, List.nil_append, List.cons_append]
  gi_wp2_with (refine ⟨trivial, ?_⟩; gi_at_call 61; refine (callsIn_wide.2 (HK.out _)).mono ?_; rintro e w' ⟨rfl, rfl⟩)
  obtain ⟨w1, hw⟩ : ∃ w1, ((((W.alloc (Obj.cells #[Value.int IntKind.i64 a] 3)).alloc (Obj.cells #[Value.int IntKind.i64 0] 3)).alloc (Obj.cells #[Value.int IntKind.i64 0] 3)).alloc (Obj.cells #[Value.int IntKind.i64 0] 27)) = w1 := ⟨_, rfl⟩
  have hz1 : w1.heap.size = W.heap.size + 4 := by rw [← hw]; simp
  have hb1 : Below W.heap.size W w1 := by rw [← hw]; exact ((((Below.refl _ W).alloc (Nat.le_refl _) _).alloc (by simp) _).alloc (by simp; omega) _).alloc (by simp; omega) _
  have q0 : Box1 w1 W.heap.size (.int .i64 a) := by rw [← hw]; exact ⟨_, heap_keep (heap_keep (heap_keep (heap_new _ rfl _) _) _) _⟩
  have q1 : Box1 w1 (W.heap.size + 1) (.int .i64 0) := by rw [← hw]; exact ⟨_, heap_keep (heap_keep (heap_new _ (by simp) _) _) _⟩
  have q2 : Box1 w1 (W.heap.size + 1 + 1) (.int .i64 0) := by rw [← hw]; exact ⟨_, heap_keep (heap_new _ (by simp) _) _⟩
  have q3 : Box1 w1 (W.heap.size + 1 + 1 + 1) (.int .i64 0) := by rw [← hw]; exact ⟨_, heap_new _ (by simp) _⟩
  rw [hw]
  clear hw
  refine ⟨trivial, (callsIn_wide.2 (HGr.out w1)).mono ?_⟩
  clear HGr HK
  rintro e w2 ⟨⟨k, hk, hg, rfl⟩ | ⟨hno, rfl⟩, hb2⟩
  · have hgx := gX_le (k := k) HC.out
    have hgy := gY_le (k := k) HC.out (by omega)
    have hGet : Hid (∀ m : Nat, m < 33 → a = (m : Int) + 1 → CorE c N g a (.returned (.tuple #[.int .i64 ((gpX c k : Nat) + 16 * ((m : Int) % 11)), .int .i64 ((gpY c k : Nat) + 16 * ((m : Int) / 11)), .int .i64 0]))) := fun m hm ha => .inl ⟨k, m, hk, hm, hg, ha, rfl⟩
    have hBad : Hid ((a < 1 ∨ 33 < a) → CorE c N g a (.returned (.tuple #[.int .i64 0, .int .i64 0, .int .i64 13]))) := fun h => .inr (.inl ⟨⟨k, hk, hg⟩, h, rfl⟩)
    have hz2 := hb2.size
    have p0 := Lib.hid (q0.at (hb2.block _ (by omega)))
    have p1 := Lib.hid (q1.at (hb2.block _ (by omega)))
    have p2 := Lib.hid (q2.at (hb2.block _ (by omega)))
    have p3 := Lib.hid (q3.at (hb2.block _ (by omega)))
    have hB2 := Lib.hid (Below.thru hb1 hb2 (by omega))
    clear q0 q1 q2 q3 hb1 hb2 hg
    generalize gpX c k = gx at *
    generalize gpY c k = gy at *
    gi_wp2_with (refine ⟨trivial, ?_⟩; gi_at_call 67; refine (fmacros_in Fence.wide _ trivial rfl _ _ _ _).mono ?_; rintro e w' ⟨rfl, rfl⟩)
    obtain ⟨w3, hw3⟩ : ∃ w3, ((w2.alloc (Obj.cells #[Value.int IntKind.i64 g, Value.int IntKind.i64 (gx : Int), Value.int IntKind.i64 (gy : Int)] 102)).alloc (Obj.cells #[Value.int IntKind.i64 g, Value.int IntKind.i64 (gx : Int), Value.int IntKind.i64 (gy : Int)] 102)) = w3 := ⟨_, rfl⟩
    rw [hw3]
    have hz3 : w3.heap.size = w2.heap.size + 2 := by rw [← hw3]; simp
    have hb3 : Below w2.heap.size w2 w3 := by rw [← hw3]; exact ((Below.refl _ w2).alloc (Nat.le_refl _) _).alloc (by simp) _
    have hmb : w3.heap[w2.heap.size + 1]? = some (Obj.cells #[Value.int IntKind.i64 g, Value.int IntKind.i64 (gx : Int), Value.int IntKind.i64 (gy : Int)] 102) := by rw [← hw3]; exact heap_new _ (by simp) _
    clear hw3
    refine wpIn_range_T rfl (by omega) (gf := 82) (lb := #[.pointer (some ⟨w2.heap.size + 1, 0, none⟩)]) rfl trivial (enters_of Try.func82 (by kernel_rfl) rfl)
      (fmacros_T g gx gy (by omega) (by omega) (by omega) (by omega) (40 - 1) (by omega) (w2.heap.size + 1) (fun A B => B.heap[w2.heap.size + 1]? = A.heap[w2.heap.size + 1]?) (fun A B h => h) w3 ⟨_, hmb⟩)
      (fun h k => k.trans h) (fun W' r o' h => World.putObj_heap_other (by omega)) (Below.refl _ _) (fun _ => rfl)
      (fun x Wx => (∀ m : Nat, m < x → a ≠ (m : Int) + 1) ∧ Box1 Wx W.heap.size (.int .i64 a) ∧ Box1 Wx (W.heap.size + 1) (.int .i64 0) ∧ Box1 Wx (W.heap.size + 1 + 1) (.int .i64 0) ∧ Box1 Wx (W.heap.size + 1 + 1 + 1) (.int .i64 0) ∧ Below W.heap.size W Wx)
      (fun c' x Wx => c' = .ret ∧ a = (x : Int) + 1 ∧ Box1 Wx (W.heap.size + 1) (.int .i64 ((gx : Int) + 16 * ((x : Int) % 11))) ∧ Box1 Wx (W.heap.size + 1 + 1) (.int .i64 ((gy : Int) + 16 * ((x : Int) / 11))) ∧ Box1 Wx (W.heap.size + 1 + 1 + 1) (.int .i64 0) ∧ Below W.heap.size W Wx)
      ?hI ?hIx ?h0 ?hround ?hdone ?hstop
    case hI =>
      rintro x A B ⟨h1, h2, h3, h4, h6, h5⟩ hb
      exact ⟨h1, h2.at (hb.block _ (by omega)), h3.at (hb.block _ (by omega)), h4.at (hb.block _ (by omega)), h6.at (hb.block _ (by omega)), h5.trans (hb.mono (by omega))⟩
    case hIx =>
      rintro c' x A B ⟨h1, h2, h3, h4, h6, h5⟩ hb
      exact ⟨h1, h2, h3.at (hb.block _ (by omega)), h4.at (hb.block _ (by omega)), h6.at (hb.block _ (by omega)), h5.trans (hb.mono (by omega))⟩
    case h0 =>
      exact ⟨fun m hm => by omega, p0.out.at (hb3.block _ (by omega)), p1.out.at (hb3.block _ (by omega)), p2.out.at (hb3.block _ (by omega)), p3.out.at (hb3.block _ (by omega)), Below.thru hB2.out hb3 (by omega)⟩
    case hround =>
      rintro x Wx ⟨h1, h2, h3, h4, h6, h5⟩ hxz hx
      clear p0 p1 p2 p3 hb3 hmb
      gi_wp2
      refine ⟨KeepsHi.alloc _ _ _, Below.heap_alloc _ _ _ (by omega), fun W2 hb2 hz2 hot => ?_⟩
      have hz2' : W2.heap.size = Wx.heap.size + 1 := by rw [hz2]; simp
      have hmx : W2.heap[Wx.heap.size]? = some (.cells #[.int .i64 g, .int .i64 ((x : Int) + 1), .int .i64 ((gx : Int) + 16 * ((x : Int) % 11)), .int .i64 ((gy : Int) + 16 * ((x : Int) / 11))] 109 (0, 0)) := by
        rw [hot _ (by omega)]; exact World.alloc_heap_new _ _
      have hk : ∀ b, b < W.heap.size + 4 → W2.heap[b]? = Wx.heap[b]? := fun b hb => by rw [hot _ (by omega), Below.heap_alloc _ _ _ (by omega)]
      replace h2 := h2.at (hk _ (by omega))
      replace h3 := h3.at (hk _ (by omega))
      replace h4 := h4.at (hk _ (by omega))
      replace h6 := h6.at (hk _ (by omega))
      replace h5 : Below W.heap.size W W2 := h5.trans (((Below.refl W.heap.size Wx).alloc (by omega) _).trans (hb2.mono (by omega)))
      obtain ⟨c0, f0⟩ := h2.cell
      have m1 : W2.cell? ⟨Wx.heap.size, 1, none⟩ = some (.int .i64 ((x : Int) + 1)) := by simp [World.cell?, hmx]
      have m2 : W2.cell? ⟨Wx.heap.size, 2, none⟩ = some (.int .i64 ((gx : Int) + 16 * ((x : Int) % 11))) := by simp [World.cell?, hmx]
      have m3 : W2.cell? ⟨Wx.heap.size, 3, none⟩ = some (.int .i64 ((gy : Int) + 16 * ((x : Int) / 11))) := by simp [World.cell?, hmx]
      obtain ⟨r0, r1⟩ := h3.cell
      obtain ⟨e0, e1⟩ := h4.cell
      obtain ⟨a0, a1⟩ := h6.cell
      have H1 := Lib.hid h1
      have H2 := Lib.hid h2
      have H3 := Lib.hid h3
      have H4 := Lib.hid h4
      have H5 := Lib.hid h5
      have H6 := Lib.hid h6
      clear h1 h2 h3 h4 h5 h6 hb2 hz2 hot hk hmx
      have hx33 : (x : Int) < 33 := by omega
      by_cases ha : a = (x : Int) + 1
      · have t1 : ((x : Int) + 1 == a) = true := by rw [beq_iff_eq]; exact ha.symm
        have HA := Lib.hid ha
        clear ha
        gi_wp2
        gi_region
        all_goals
          gi_wp2
          refine ⟨?_, rfl, HA.out, ((Box1.set (W := W2.drew) H3.out _).other _ _ (by simp <;> omega)).other _ _ (by simp <;> omega), ((Box1.other (W := W2.drew) H4.out _ _ (by simp <;> omega)).set _).other _ _ (by simp <;> omega), ((Box1.other (W := W2.drew) H6.out _ _ (by simp <;> omega)).other _ _ (by simp <;> omega)).set _, ((Below.setCell (show Below W.heap.size W W2.drew from H5.out.drew) ?_ _).setCell ?_ _).setCell ?_ _⟩
          · exact (((show KeepsMid w3.heap.size Wx.heap.size W2 W2.drew from KeepsMid.refl _ _ _).set _ _ (.inl (by simp; omega))).set _ _ (.inl (by simp; omega))).set _ _ (.inl (by simp; omega))
          all_goals (simp <;> omega)
      · have t1 : ((x : Int) + 1 == a) = false := by rw [beq_eq_false_iff_ne]; exact fun e => ha e.symm
        have HA := Lib.hid ha
        clear ha
        gi_wp2
        exact ⟨KeepsMid.refl _ _ _, rfl, fun m hm => by
          by_cases e : m = x
          · rw [e]; exact HA.out
          · exact H1.out m (by omega), H2.out, H3.out, H4.out, H6.out, H5.out⟩
    case hdone =>
      rintro D W' rfl ⟨h1, h2, h3, h4, h6, h5⟩ hD
      obtain ⟨r0, r1⟩ := h3.cell
      obtain ⟨e0, e1⟩ := h4.cell
      obtain ⟨a0, a1⟩ := h6.cell
      have H3 := Lib.hid h3
      have H4 := Lib.hid h4
      have H5 := Lib.hid h5
      have H6 := Lib.hid h6
      have hbad := hBad.out (by
        by_cases q : a < 1
        · exact .inl q
        · right
          by_cases q2 : 33 < a
          · exact q2
          · exact absurd (show a = ((a - 1).toNat : Int) + 1 by omega) (h1 _ (by omega)))
      have HBad := Lib.hid hbad
      clear h1 h2 h3 h4 h5 h6 hbad
      gi_wp2
      refine leaves_one (D := w3.heap.size) ?_ (fun W3 hb => ?_)
      · rw [heap_setCell_other _ _ _ _ (by simp; omega), heap_setCell_other _ _ _ _ (by simp; omega), heap_setCell_other _ _ _ _ (by simp; omega)]
        exact hD
      · have k1 := (((H3.out.set (.int .i64 0)).other ⟨W.heap.size + 1 + 1, 0, none⟩ (.int .i64 0) (by simp <;> omega)).other ⟨W.heap.size + 1 + 1 + 1, 0, none⟩ (.int .i64 13) (by simp <;> omega)).at (hb.block _ (by have := H3.out.lt; simp; omega) (by omega))
        have k2 := (((H4.out.other ⟨W.heap.size + 1, 0, none⟩ (.int .i64 0) (by simp <;> omega)).set (.int .i64 0)).other ⟨W.heap.size + 1 + 1 + 1, 0, none⟩ (.int .i64 13) (by simp <;> omega)).at (hb.block _ (by have := H4.out.lt; simp; omega) (by omega))
        have k3 := (((H6.out.other ⟨W.heap.size + 1, 0, none⟩ (.int .i64 0) (by simp <;> omega)).other ⟨W.heap.size + 1 + 1, 0, none⟩ (.int .i64 0) (by simp <;> omega)).set (.int .i64 13)).at (hb.block _ (by have := H6.out.lt; simp; omega) (by omega))
        have hb5 : Below W.heap.size W (((W'.setCell ⟨W.heap.size + 1, 0, none⟩ (.int .i64 0)).setCell ⟨W.heap.size + 1 + 1, 0, none⟩ (.int .i64 0)).setCell ⟨W.heap.size + 1 + 1 + 1, 0, none⟩ (.int .i64 13)) := by
          refine ((H5.out.setCell ?_ _).setCell ?_ _).setCell ?_ _
          all_goals (simp <;> omega)
        obtain ⟨z0, -⟩ := k1.cell
        obtain ⟨z1, -⟩ := k2.cell
        obtain ⟨z2, -⟩ := k3.cell
        exact ⟨.tuple #[.int .i64 0, .int .i64 0, .int .i64 13], by simp [results, Try.f51, go_sem, z0, z1, z2], HBad.out, hb5.trans (hb.below hb5.size (fun j hj e => by omega))⟩
    case hstop =>
      rintro D c' x W' rfl hx ⟨rfl, h2, h3, h4, h6, h5⟩ hD
      have H3 := Lib.hid h3
      have H4 := Lib.hid h4
      have H5 := Lib.hid h5
      have H6 := Lib.hid h6
      clear h3 h4 h5 h6
      gi_wp2
      refine leaves_one (D := w3.heap.size) hD (fun W3 hb => ?_)
      obtain ⟨z0, -⟩ := (H3.out.at (hb.block _ H3.out.lt (by omega))).cell
      obtain ⟨z1, -⟩ := (H4.out.at (hb.block _ H4.out.lt (by omega))).cell
      obtain ⟨z2, -⟩ := (H6.out.at (hb.block _ H6.out.lt (by omega))).cell
      exact ⟨.tuple #[.int .i64 ((gx : Int) + 16 * ((x : Int) % 11)), .int .i64 ((gy : Int) + 16 * ((x : Int) / 11)), .int .i64 0], by simp [results, Try.f51, go_sem, z0, z1, z2], hGet.out x hx h2, H5.out.trans (hb.below H5.out.size (fun j hj e => by omega))⟩
  · have p1 := q1.at (hb2.block _ (by omega))
    have p2 := q2.at (hb2.block _ (by omega))
    have p3 := q3.at (hb2.block _ (by omega))
    have hB2 := Lib.hid (Below.thru hb1 hb2 (by omega))
    have hNo := Lib.hid hno
    obtain ⟨c1, f1⟩ := p1.cell
    obtain ⟨c2, f2⟩ := p2.cell
    obtain ⟨c3, f3⟩ := p3.cell
    have hz2 := hb2.size
    have l1 : W.heap.size + 1 < w2.heap.size := by omega
    have l2 : W.heap.size + 1 + 1 < w2.heap.size := by omega
    have l3 : W.heap.size + 1 + 1 + 1 < w2.heap.size := by omega
    have P1 := Lib.hid p1
    have P2 := Lib.hid p2
    have P3 := Lib.hid p3
    clear q0 q1 q2 q3 hb1 hb2 hno p1 p2 p3
    gi_wp2
    have r1 := ((((P1.out.set (.int .i64 0)).other ⟨W.heap.size + 1 + 1, 0, none⟩ (.int .i64 0) (by simp <;> omega)).other ⟨W.heap.size + 1 + 1 + 1, 0, none⟩ (.int .i64 8) (by simp <;> omega)))
    have r2 := ((((P2.out.other ⟨W.heap.size + 1, 0, none⟩ (.int .i64 0) (by simp <;> omega)).set (.int .i64 0)).other ⟨W.heap.size + 1 + 1 + 1, 0, none⟩ (.int .i64 8) (by simp <;> omega)))
    have r3 := ((((P3.out.other ⟨W.heap.size + 1, 0, none⟩ (.int .i64 0) (by simp <;> omega)).other ⟨W.heap.size + 1 + 1, 0, none⟩ (.int .i64 0) (by simp <;> omega)).set (.int .i64 8)))
    have hb5 : Below W.heap.size W (((w2.setCell ⟨W.heap.size + 1, 0, none⟩ (.int .i64 0)).setCell ⟨W.heap.size + 1 + 1, 0, none⟩ (.int .i64 0)).setCell ⟨W.heap.size + 1 + 1 + 1, 0, none⟩ (.int .i64 8)) := by
      refine ((hB2.out.setCell ?_ _).setCell ?_ _).setCell ?_ _
      all_goals (simp <;> omega)
    generalize ((w2.setCell ⟨W.heap.size + 1, 0, none⟩ (.int .i64 0)).setCell ⟨W.heap.size + 1 + 1, 0, none⟩ (.int .i64 0)).setCell ⟨W.heap.size + 1 + 1 + 1, 0, none⟩ (.int .i64 8) = w4 at *
    have hb6 := (Below.refl w4.heap.size w4).alloc (Nat.le_refl _) (Obj.cells #[Value.int IntKind.i64 0, Value.int IntKind.i64 0, Value.int IntKind.i64 0] 102)
    obtain ⟨z0, -⟩ := (r1.at (hb6.block _ r1.lt)).cell
    obtain ⟨z1, -⟩ := (r2.at (hb6.block _ r2.lt)).cell
    obtain ⟨z2, -⟩ := (r3.at (hb6.block _ r3.lt)).cell
    exact leaves_none ⟨.tuple #[.int .i64 0, .int .i64 0, .int .i64 8], by simp [results, Try.f51, go_sem, z0, z1, z2], .inr (.inr ⟨hNo.out, rfl⟩), Below.thru hb5 hb6 (by have := r1.lt; omega)⟩
end Go.Proofs.Ytenplmmongphoaa

/- frame: Place. -/
namespace Go.Proofs.Ytenplmmongphoaa
open Go.RowKit Go.Shelf Go.Sort
set_option linter.unusedVariables false
attribute [local go_sem] Oper.semAt_some

/-- where block x of all stands, with its macroblock; where it lies among the bytes -/
def bX (c x : Nat) : Nat := gpX c (x / 198) + 16 * (x % 198 / 6 % 11)
def bY (c x : Nat) : Nat := gpY c (x / 198) + 16 * (x % 198 / 6 / 11)
def bP (c : Nat) (w h : Int) (x : Nat) : Int := plF w h (x % 6 + 1) + plW w (x % 6 + 1) * ((coY (bY c x) (x % 6 + 1) : Nat) : Int) + ((coX (bX c x) (x % 6 + 1) : Nat) : Int)
/-- is it that one? -/
def isB (c x : Nat) (g a b : Int) : Prop := ((gpN c (x / 198) : Nat) : Int) = g ∧ ((x % 198 / 6 + 1 : Nat) : Int) = a ∧ ((x % 6 + 1 : Nat) : Int) = b
/-- what Place answers, of a format that is known -/
def PlaE (c N : Nat) (w h : Int) (g a b : Int) (e : Ending) : Prop :=
  (∃ x, x < 198 * N ∧ isB c x g a b ∧ e = .returned (.tuple #[.int .i64 (bP c w h x), .int .i64 (plW w (x % 6 + 1)), .int .i64 0])) ∨
  ((∃ k, k < N ∧ ((gpN c k : Nat) : Int) = g) ∧ (1 ≤ a ∧ a ≤ 33) ∧ (b < 1 ∨ 6 < b) ∧ e = .returned (.tuple #[.int .i64 0, .int .i64 0, .int .i64 3])) ∨
  ((∃ k, k < N ∧ ((gpN c k : Nat) : Int) = g) ∧ (a < 1 ∨ 33 < a) ∧ e = .returned (.tuple #[.int .i64 0, .int .i64 0, .int .i64 13])) ∨
  ((∀ k, k < N → ((gpN c k : Nat) : Int) ≠ g) ∧ e = .returned (.tuple #[.int .i64 0, .int .i64 0, .int .i64 8]))
theorem encB_eq (c x : Nat) : encBk c x = #[.agg #[.int .i64 (gpN c (x / 198) : Nat), .int .i64 ((x % 198 / 6 + 1 : Nat) : Int), .int .i64 (bX c x : Nat), .int .i64 (bY c x : Nat), .int .i64 ((x % 6 + 1 : Nat) : Int)]] := rfl
theorem bX_le {c x : Nat} (hc : c = 1 ∨ c = 2) : bX c x ≤ 1000 := by
  have : gpX c (x / 198) ≤ 176 := by
    unfold gpX
    have := Nat.mod_lt (x / 198) (show 0 < c by omega)
    omega
  unfold bX
  omega
theorem bY_le {c x N : Nat} (hN : N ≤ 12) (hx : x < 198 * N) : bY c x ≤ 1000 := by
  have : gpY c (x / 198) ≤ 48 * 11 := by
    unfold gpY
    have := Nat.div_le_self (x / 198) c
    have : x / 198 < 12 := by omega
    omega
  unfold bY
  omega
theorem place_none {c N : Nat} {g a b : Int} {k m : Nat} (hk : k < N) (hg : ((gpN c k : Nat) : Int) = g) (hm : m < 33) (ha : a = (m : Int) + 1) (h : ∀ x, x < 198 * N → ¬ isB c x g a b) : b < 1 ∨ 6 < b := by
  by_cases h1 : b < 1
  · exact .inl h1
  · right
    by_cases h2 : 6 < b
    · exact h2
    · obtain ⟨i, hi⟩ : ∃ i : Nat, b = (i : Int) + 1 := ⟨(b - 1).toNat, by omega⟩
      refine absurd ⟨?_, ?_, ?_⟩ (h (198 * k + 6 * m + i) (by omega))
      · rw [show (198 * k + 6 * m + i) / 198 = k by omega]; exact hg
      · omega
      · omega

/-- the boxes of a call of Place -/
structure PInv (W : World) (g a b u v z : Int) (Wx : World) : Prop where
  q0 : Box1 Wx W.heap.size (.int .i64 g)
  q1 : Box1 Wx (W.heap.size + 1) (.int .i64 a)
  q2 : Box1 Wx (W.heap.size + 1 + 1) (.int .i64 b)
  q3 : Box1 Wx (W.heap.size + 1 + 1 + 1) (.int .i64 u)
  q4 : Box1 Wx (W.heap.size + 1 + 1 + 1 + 1) (.int .i64 v)
  q5 : Box1 Wx (W.heap.size + 1 + 1 + 1 + 1 + 1) (.int .i64 z)
  below : Below W.heap.size W Wx
theorem PInv.at {W : World} {g a b u v z : Int} {A B : World} (h : PInv W g a b u v z A) (hk : ∀ k, W.heap.size ≤ k → k < W.heap.size + 6 → B.heap[k]? = A.heap[k]?) (hb : Below W.heap.size A B) : PInv W g a b u v z B :=
  ⟨h.q0.at (hk _ (by omega) (by omega)), h.q1.at (hk _ (by omega) (by omega)), h.q2.at (hk _ (by omega) (by omega)), h.q3.at (hk _ (by omega) (by omega)), h.q4.at (hk _ (by omega) (by omega)), h.q5.at (hk _ (by omega) (by omega)), h.below.trans hb⟩
theorem PInv.size {W : World} {g a b u v z : Int} {A : World} (h : PInv W g a b u v z A) : W.heap.size + 6 ≤ A.heap.size := by have := h.q5.lt; omega

theorem pl_in {f w h nn : Int} {c r : Nat} (H : Fm f w h nn c r) (b y : Nat) (hy : y ≤ 2000) : 0 ≤ plF w h b ∧ plF w h b ≤ 200000 ∧ 0 ≤ plW w b * (y : Int) ∧ plW w b * (y : Int) ≤ 1000000 := by
  unfold plF plW
  rcases H with ⟨rfl, rfl, rfl, rfl, -, -⟩ | ⟨rfl, rfl, rfl, rfl, -, -⟩
  all_goals
    repeat' split
    all_goals omega
theorem co_le (x b : Nat) (hx : x ≤ 1000) : coX x b ≤ 1008 ∧ coY x b ≤ 2000 ∨ 7 ≤ b := by
  by_cases h : 7 ≤ b
  · exact .inr h
  · left
    unfold coX coY
    constructor
    all_goals
      split
      · omega
      · omega

/-- the region that tells the place: the world -/
structure PRegW (w5 : World) (B1 B2 B3 : Nat) (P q : Int) (L : Nat → Bool) (Wr : World) : Prop where
  bar : Bar (fun k => k = B1 ∨ k = B2 ∨ k = B3) w5 Wr
  n1 : ∃ v, Box1 Wr B1 v
  n2 : ∃ v, Box1 Wr B2 v
  n3 : ∃ v, Box1 Wr B3 v
  l8 : L 8 = true → Box1 Wr B1 (.int .i64 P)
  l9 : L 9 = true → Box1 Wr B2 (.int .i64 q)
  l10 : L 10 = true → Box1 Wr B3 (.int .i64 0)
theorem PRegW.same {w5 : World} {B1 B2 B3 : Nat} {P q : Int} {L L' : Nat → Bool} {A B : World} (h : PRegW w5 B1 B2 B3 P q L A) (hk : Below A.heap.size A B) (h8 : L' 8 = L 8) (h9 : L' 9 = L 9) (h10 : L' 10 = L 10) : PRegW w5 B1 B2 B3 P q L' B :=
  ⟨h.bar.trans (bar_of_below (S := fun _ => False) hk) (fun _ _ e => e.elim),
    by obtain ⟨v, e⟩ := h.n1; exact ⟨v, e.at (hk.block _ e.lt)⟩, by obtain ⟨v, e⟩ := h.n2; exact ⟨v, e.at (hk.block _ e.lt)⟩, by obtain ⟨v, e⟩ := h.n3; exact ⟨v, e.at (hk.block _ e.lt)⟩,
    fun e => (h.l8 (h8 ▸ e)).at (hk.block _ (h.l8 (h8 ▸ e)).lt), fun e => (h.l9 (h9 ▸ e)).at (hk.block _ (h.l9 (h9 ▸ e)).lt), fun e => (h.l10 (h10 ▸ e)).at (hk.block _ (h.l10 (h10 ▸ e)).lt)⟩
/-- and what its operations have told -/
structure PRegV (pl bl tu ptr : Value) (X Y P q : Int) (L : Nat → Bool) (x58 x59 x60 x61 x62 x63 x64 x65 : Value) : Prop where
  l0 : L 0 = true → x58 = pl
  l1 : L 1 = true → x59 = bl
  l2 : L 2 = true → x60 = tu
  l3 : L 3 = true → x61 = .int .i64 X
  l4 : L 4 = true → x62 = .int .i64 Y
  l5 : L 5 = true → x63 = .int .i64 P
  l6 : L 6 = true → x64 = ptr
  l7 : L 7 = true → x65 = .int .i64 q
def PRegI (fr : Value → Value → Value → Value → Value → Value → Value → Value → Act) (w5 : World) (B1 B2 B3 : Nat) (pl bl tu ptr : Value) (X Y P q : Int) (L : Nat → Bool) (ac : Act) (Wr : World) : Prop :=
  ∃ x58 x59 x60 x61 x62 x63 x64 x65, ac = fr x58 x59 x60 x61 x62 x63 x64 x65 ∧ PRegW w5 B1 B2 B3 P q L Wr ∧ PRegV pl bl tu ptr X Y P q L x58 x59 x60 x61 x62 x63 x64 x65

/-- the three results told: a call of Place with nought, nought and an error -/
theorem PInv.tell {W : World} {g a b u v z : Int} {A : World} (h : PInv W g a b u v z A) (u' v' z' : Int) :
    PInv W g a b u' v' z' (((A.setCell ⟨W.heap.size + 1 + 1 + 1, 0, none⟩ (.int .i64 u')).setCell ⟨W.heap.size + 1 + 1 + 1 + 1, 0, none⟩ (.int .i64 v')).setCell ⟨W.heap.size + 1 + 1 + 1 + 1 + 1, 0, none⟩ (.int .i64 z')) := by
  have hk : ∀ k, k < W.heap.size + 3 → (((A.setCell ⟨W.heap.size + 1 + 1 + 1, 0, none⟩ (.int .i64 u')).setCell ⟨W.heap.size + 1 + 1 + 1 + 1, 0, none⟩ (.int .i64 v')).setCell ⟨W.heap.size + 1 + 1 + 1 + 1 + 1, 0, none⟩ (.int .i64 z')).heap[k]? = A.heap[k]? := fun k hk => by
    rw [heap_setCell_other _ _ _ _ (by simp; omega), heap_setCell_other _ _ _ _ (by simp; omega), heap_setCell_other _ _ _ _ (by simp; omega)]
  refine ⟨h.q0.at (hk _ (by omega)), h.q1.at (hk _ (by omega)), h.q2.at (hk _ (by omega)), ((h.q3.set _).other _ _ (by simp <;> omega)).other _ _ (by simp <;> omega), ((h.q4.other _ _ (by simp <;> omega)).set _).other _ _ (by simp <;> omega), ((h.q5.other _ _ (by simp <;> omega)).other _ _ (by simp <;> omega)).set _, ?_⟩
  refine ((h.below.setCell ?_ _).setCell ?_ _).setCell ?_ _
  all_goals (simp <;> omega)

set_option maxRecDepth 100000 in
set_option maxHeartbeats 4000000 in
theorem place13_any {f w h nn : Int} {c r : Nat} (H : Fm f w h nn c r) (g a b : Int) (W : World) :
    Calls Try.prog 52 #[.int .i64 f, .int .i64 g, .int .i64 a, .int .i64 b] W fun e W' => PlaE c (c * r) w h g a b e ∧ Below W.heap.size W W' := by
  have HK := Lib.hid (fun W => fknown_any H W)
  have HCo := Lib.hid (fun W => corner13_any H g a W)
  have HPl := Lib.hid (fun b W => fplane_any H b W)
  have HB := Lib.hid (fun w => fblocks_in Fence.wide (40 - 1) trivial rfl f w)
  have HT := Lib.hid (fun (n : Nat) (hn : 12 ≤ n) (bb : Nat) (Kp : World → World → Prop) (w0 : World) => fblocks_T H n hn bb Kp w0)
  have hcr := H.cr
  have HC := Lib.hid H.c
  have HPB := Lib.hid (fun b y hy => pl_in H b y hy)
  clear H
  generalize hcN : c * r = N at *
  refine (callsIn_wide (n := 40)).1 ?_
  refine callsIn_of_wp_marks Try.func52 rfl trivial ?_ rfl
  simp only [Try.ntmps52, List.size_toArray, List.length_cons, List.length_nil, Nat.reduceAdd, Nat.reduceSub, Array.replicate_succ, Array.replicate_zero, List.push_toArray, List.append_toArray, List.nil_append, List.cons_append]
  gi_wp2
  obtain ⟨w1, hw⟩ : ∃ w1, ((((((W.alloc (Obj.cells #[Value.int IntKind.i64 g] 3)).alloc (Obj.cells #[Value.int IntKind.i64 a] 3)).alloc (Obj.cells #[Value.int IntKind.i64 b] 3)).alloc (Obj.cells #[Value.int IntKind.i64 0] 3)).alloc (Obj.cells #[Value.int IntKind.i64 0] 3)).alloc (Obj.cells #[Value.int IntKind.i64 0] 27)) = w1 := ⟨_, rfl⟩
  have hz1 : w1.heap.size = W.heap.size + 6 := by rw [← hw]; simp
  have hb1 : Below W.heap.size W w1 := by rw [← hw]; exact ((((((Below.refl _ W).alloc (Nat.le_refl _) _).alloc (by simp) _).alloc (by simp; omega) _).alloc (by simp; omega) _).alloc (by simp; omega) _).alloc (by simp; omega) _
  have q0 : Box1 w1 W.heap.size (.int .i64 g) := by rw [← hw]; exact ⟨_, heap_keep (heap_keep (heap_keep (heap_keep (heap_keep (heap_new _ rfl _) _) _) _) _) _⟩
  have q1 : Box1 w1 (W.heap.size + 1) (.int .i64 a) := by rw [← hw]; exact ⟨_, heap_keep (heap_keep (heap_keep (heap_keep (heap_new _ (by simp) _) _) _) _) _⟩
  have q2 : Box1 w1 (W.heap.size + 1 + 1) (.int .i64 b) := by rw [← hw]; exact ⟨_, heap_keep (heap_keep (heap_keep (heap_new _ (by simp) _) _) _) _⟩
  have q3 : Box1 w1 (W.heap.size + 1 + 1 + 1) (.int .i64 0) := by rw [← hw]; exact ⟨_, heap_keep (heap_keep (heap_new _ (by simp) _) _) _⟩
  have q4 : Box1 w1 (W.heap.size + 1 + 1 + 1 + 1) (.int .i64 0) := by rw [← hw]; exact ⟨_, heap_keep (heap_new _ (by simp) _) _⟩
  have q5 : Box1 w1 (W.heap.size + 1 + 1 + 1 + 1 + 1) (.int .i64 0) := by rw [← hw]; exact ⟨_, heap_new _ (by simp) _⟩
  rw [hw]
  clear hw
  refine ⟨trivial, (callsIn_wide.2 (HCo.out w1)).mono ?_⟩
  clear HCo
  rintro e w2 ⟨he, hb2⟩
  have hz2 := hb2.size
  have pI : PInv W g a b 0 0 0 w2 := ⟨q0.at (hb2.block _ (by omega)), q1.at (hb2.block _ (by omega)), q2.at (hb2.block _ (by omega)), q3.at (hb2.block _ (by omega)), q4.at (hb2.block _ (by omega)), q5.at (hb2.block _ (by omega)), Below.thru hb1 hb2 (by omega)⟩
  clear q0 q1 q2 q3 q4 q5 hb1 hb2
  have PI := Lib.hid pI
  clear pI
  rcases he with ⟨k, m, hk, hm, hg, ha, rfl⟩ | ⟨hk, ha, rfl⟩ | ⟨hno, rfl⟩
  · have HNone : Hid ((∀ x, x < 198 * N → ¬ isB c x g a b) → PlaE c N w h g a b (.returned (.tuple #[.int .i64 0, .int .i64 0, .int .i64 3]))) := fun hh => .inr (.inl ⟨⟨k, hk, hg⟩, by omega, place_none hk hg hm ha hh, rfl⟩)
    generalize ((gpX c k : Nat) : Int) + 16 * ((m : Int) % 11) = cx at *
    generalize ((gpY c k : Nat) : Int) + 16 * ((m : Int) / 11) = cy at *
    clear hk hm hg ha
    gi_wp2_with (first | (refine ⟨trivial, ?_⟩; gi_at_call 61; refine (callsIn_wide.2 (HK.out _)).mono ?_; rintro e w' ⟨rfl, rfl⟩) | (refine ⟨trivial, ?_⟩; gi_at_call 68; refine (HB.out _).mono ?_; rintro e w' ⟨rfl, rfl⟩))
    obtain ⟨w3, hw3⟩ : ∃ w3, ((w2.alloc (Obj.cells #[Value.int IntKind.i64 f] 94)).alloc (Obj.cells #[Value.int IntKind.i64 f] 94)) = w3 := ⟨_, rfl⟩
    rw [hw3]
    have hz3 : w3.heap.size = w2.heap.size + 2 := by rw [← hw3]; simp
    have hb3 : Below w2.heap.size w2 w3 := by rw [← hw3]; exact ((Below.refl _ w2).alloc (Nat.le_refl _) _).alloc (by simp) _
    have hf3 : Box1 w3 w2.heap.size (.int .i64 f) := by rw [← hw3]; exact ⟨_, heap_keep (heap_new _ rfl _) _⟩
    have hmb : Box1 w3 (w2.heap.size + 1) (.int .i64 f) := by rw [← hw3]; exact ⟨_, heap_new _ (by simp) _⟩
    clear hw3
    have hzp := PI.out.size
    refine wpIn_range_T rfl (by omega) (gf := 83) (lb := #[.pointer (some ⟨w2.heap.size + 1, 0, none⟩)]) rfl trivial (enters_of Try.func83 (by kernel_rfl) rfl)
      (HT.out (40 - 1) (by omega) (w2.heap.size + 1) (fun _ _ => True) w3 (by omega) hmb.cell.1)
      (fun _ _ => trivial) (fun _ _ _ _ => trivial) (Below.refl _ _) (fun _ => rfl)
      (fun x Wx => (∀ y, y < x → ¬ isB c y g a b) ∧ PInv W g a b 0 0 0 Wx ∧ Box1 Wx w2.heap.size (.int .i64 f))
      (fun c' x Wx => c' = .ret ∧ isB c x g a b ∧ PInv W g a b (bP c w h x) (plW w (x % 6 + 1)) 0 Wx)
      ?hI ?hIx ?h0 ?hround ?hdone ?hstop
    case hI =>
      rintro x A B ⟨h1, h2, h3⟩ hb
      exact ⟨h1, h2.at (fun k _ _ => hb.block _ (by omega)) (hb.mono (by omega)), h3.at (hb.block _ (by omega))⟩
    case hIx =>
      rintro c' x A B ⟨h1, h2, h3⟩ hb
      exact ⟨h1, h2, h3.at (fun k _ _ => hb.block _ (by omega)) (hb.mono (by omega))⟩
    case h0 =>
      exact ⟨fun m hm => by omega, PI.out.at (fun k _ _ => hb3.block _ (by omega)) (hb3.mono (by omega)), hf3⟩
    case hround =>
      rintro x Wx ⟨h1, h2, h3⟩ hxz hx
      clear hb3 hf3 hmb
      have hxb := bX_le (x := x) HC.out
      have hyb := bY_le (c := c) hcr hx
      have hE := encB_eq c x
      have hIs : Hid (∀ g a b, isB c x g a b ↔ ((gpN c (x / 198) : Nat) : Int) = g ∧ ((x % 198 / 6 + 1 : Nat) : Int) = a ∧ ((x % 6 + 1 : Nat) : Int) = b) := fun _ _ _ => Iff.rfl
      have hPl : Hid (bP c w h x = plF w h (x % 6 + 1) + plW w (x % 6 + 1) * ((coY (bY c x) (x % 6 + 1) : Nat) : Int) + ((coX (bX c x) (x % 6 + 1) : Nat) : Int)) := rfl
      have hb1 : 1 ≤ x % 6 + 1 := by omega
      have hb6 : x % 6 + 1 ≤ 6 := by omega
      rw [hE]
      clear hE
      generalize gpN c (x / 198) = vg at *
      generalize x % 198 / 6 + 1 = va at *
      generalize hvb : x % 6 + 1 = vb at *
      have HVb := Lib.hid hvb
      clear hvb
      generalize bX c x = vx at *
      generalize bY c x = vy at *
      gi_wp2
      refine ⟨KeepsHi.alloc _ _ _, trivial, fun W2 hb2 hz2 hot => ?_⟩
      have hz2' : W2.heap.size = Wx.heap.size + 1 := by rw [hz2]; simp
      have hmx : W2.heap[Wx.heap.size]? = some (.cells #[.int .i64 (vg : Int), .int .i64 (va : Int), .int .i64 (vx : Int), .int .i64 (vy : Int), .int .i64 (vb : Int)] 114 (0, 0)) := by
        rw [hot _ (by omega)]; exact World.alloc_heap_new _ _
      have hk : ∀ b, b < w3.heap.size → W2.heap[b]? = Wx.heap[b]? := fun b hb => by rw [hot _ (by omega), Below.heap_alloc _ _ _ (by omega)]
      replace h2 := h2.at (B := W2) (fun k _ _ => hk _ (by omega)) (((Below.refl W.heap.size Wx).alloc (by omega) _).trans (hb2.mono (by omega)))
      replace h3 := h3.at (hk _ (by omega))
      obtain ⟨c0, f0⟩ := h2.q0.cell
      obtain ⟨c1, f1⟩ := h2.q1.cell
      obtain ⟨c2, f2⟩ := h2.q2.cell
      obtain ⟨c3, f3⟩ := h3.cell
      have m0 : W2.cell? ⟨Wx.heap.size, 0, none⟩ = some (.int .i64 (vg : Int)) := by simp [World.cell?, hmx]
      have m1 : W2.cell? ⟨Wx.heap.size, 1, none⟩ = some (.int .i64 (va : Int)) := by simp [World.cell?, hmx]
      have m4 : W2.cell? ⟨Wx.heap.size, 4, none⟩ = some (.int .i64 (vb : Int)) := by simp [World.cell?, hmx]
      have H1 := Lib.hid h1
      have H2 := Lib.hid h2
      have H3 := Lib.hid h3
      have HMx := Lib.hid hmx
      clear h1 h2 h3 hb2 hz2 hot hk hmx
      have no : ¬ isB c x g a b → (∀ y, y < x + 1 → ¬ isB c y g a b) := fun hn y hy => by
        by_cases e : y = x
        · rw [e]; exact hn
        · exact H1.out y (by omega)
      have NO := Lib.hid no
      clear no
      by_cases hg : (vg : Int) = g
      · have t1 : ((vg : Int) == g) = true := by rw [beq_iff_eq]; exact hg
        by_cases ha : (va : Int) = a
        · have t2 : ((va : Int) == a) = true := by rw [beq_iff_eq]; exact ha
          by_cases hb : (vb : Int) = b
          · have t3 : ((vb : Int) == b) = true := by rw [beq_iff_eq]; exact hb
            have HY := Lib.hid ((hIs.out g a b).2 ⟨hg, ha, hb⟩)
            have HP2 : Hid (Calls Try.prog 69 #[.int .i64 f, .int .i64 b] W2 fun e W' => e = .returned (.agg #[.int .i64 (plF w h vb), .int .i64 (plW w vb)]) ∧ Below W2.heap.size W2 W') := by
              have := HPl.out vb W2
              rw [hb] at this
              exact this
            clear hg ha hb
            gi_wp2_with (refine ⟨trivial, ?_⟩; gi_at_call 69; refine CallsIn.mono (F := Fence.wide.inRound _) (callsIn_wide.2 HP2.out) ?_; rintro e w4 ⟨rfl, hb4⟩)
            have hco := co_le vx vb (by omega)
            have hcoY := co_le vy vb (by omega)
            obtain ⟨z0, z1, z2, z3⟩ := HPB.out vb (coY vy vb) (by omega)
            have hX : ((coX vx vb : Nat) : Int) ≤ 1008 := by omega
            have HCo := Lib.hid (fun W => fcornerB_any (vg : Int) (va : Int) vx vy vb (by omega) (by omega) (by omega) (by omega) W)
            have hPl2 := hPl.out
            clear hco hcoY
            generalize coX vx vb = X at *
            generalize coY vy vb = Y at *
            generalize plF w h vb = p at *
            generalize hqq : plW w vb = q at *
            have HQ := Lib.hid hqq
            clear hqq
            have HPc := Lib.hid (fun W => fplaceP_any p q (X : Int) (Y : Int) z0 z1 (by omega) (by omega) z2 z3 W)
            rw [← hPl2] at HPc
            generalize hPP : bP c w h x = P at *
            have HPP := Lib.hid hPP
            clear hPP
            obtain ⟨w5, hw5⟩ : ∃ w5, w4.alloc (Obj.cells #[Value.int IntKind.i64 p, Value.int IntKind.i64 q] 116) = w5 := ⟨_, rfl⟩
            have hz5 : w5.heap.size = w4.heap.size + 1 := by rw [← hw5]; simp
            have hz4 := hb4.size
            have hb5 : Below W2.heap.size W2 w5 := by rw [← hw5]; exact hb4.trans ((Below.refl _ w4).alloc hz4 _)
            have hg5 : w5.heap[w4.heap.size]? = some (.cells #[.int .i64 p, .int .i64 q] 116 (0, 0)) := by rw [← hw5]; exact World.alloc_heap_new _ _
            have hm5 := (hb5.block _ (by omega)).trans HMx.out
            have hI5 : PInv W g a b 0 0 0 w5 := H2.out.at (fun k _ _ => hb5.block _ (by omega)) (hb5.mono (by omega))
            rw [hw5]
            clear hw5
            have HSz := H2.out.size
            have HCell : Hid (∀ Wr, Bar (fun k => k = W.heap.size + 1 + 1 + 1 ∨ k = W.heap.size + 1 + 1 + 1 + 1 ∨ k = W.heap.size + 1 + 1 + 1 + 1 + 1) w5 Wr → (Wr.cell? ⟨w4.heap.size, 0, none⟩ = some (.int .i64 p) ∧ Wr.cell? ⟨w4.heap.size, 1, none⟩ = some (.int .i64 q)) ∧
                (Wr.cell? ⟨Wx.heap.size, 0, none⟩ = some (.int .i64 (vg : Int)) ∧ Wr.cell? ⟨Wx.heap.size, 1, none⟩ = some (.int .i64 (va : Int)) ∧ Wr.cell? ⟨Wx.heap.size, 2, none⟩ = some (.int .i64 (vx : Int)) ∧ Wr.cell? ⟨Wx.heap.size, 3, none⟩ = some (.int .i64 (vy : Int)) ∧ Wr.cell? ⟨Wx.heap.size, 4, none⟩ = some (.int .i64 (vb : Int)))) := fun Wr hb => by
              have k1 := (hb.block _ (show w4.heap.size < w5.heap.size by omega) (by omega)).trans hg5
              have k2 := (hb.block _ (show Wx.heap.size < w5.heap.size by omega) (by omega)).trans hm5
              refine ⟨⟨by simp [World.cell?, k1], by simp [World.cell?, k1]⟩, by simp [World.cell?, k2], by simp [World.cell?, k2], by simp [World.cell?, k2], by simp [World.cell?, k2], by simp [World.cell?, k2]⟩
            have HKeep : Hid (∀ Wr, Bar (fun k => k = W.heap.size + 1 + 1 + 1 ∨ k = W.heap.size + 1 + 1 + 1 + 1 ∨ k = W.heap.size + 1 + 1 + 1 + 1 + 1) w5 Wr → KeepsMid w3.heap.size Wx.heap.size W2 Wr ∧ Below W.heap.size W Wr ∧ Box1 Wr W.heap.size (.int .i64 g) ∧ Box1 Wr (W.heap.size + 1) (.int .i64 a) ∧ Box1 Wr (W.heap.size + 1 + 1) (.int .i64 b)) := fun Wr hb =>
              ⟨⟨Nat.le_trans hb5.size hb.size, fun k _ _ => (hb.block _ (by omega) (by omega)).trans (hb5.block _ (by omega))⟩, hI5.below.trans (hb.below (by omega) (fun k hk e => by omega)),
                hI5.q0.at (hb.block _ (by omega) (by omega)), hI5.q1.at (hb.block _ (by omega) (by omega)), hI5.q2.at (hb.block _ (by omega) (by omega))⟩
            have HI5 := Lib.hid hI5
            clear hI5 hm5 hg5 hb4 hb5 hPl2 hPl t1 t2 t3 m0 m1 m4 c0 c1 c2 c3 f0 f1 f2 f3
            refine wpIn_region_inv (by kernel_rfl) (by kernel_rfl) (by kernel_rfl) (PRegI (fun x58 x59 x60 x61 x62 x63 x64 x65 => { tmps := #[.int .i64 f, .int .i64 g, .int .i64 a, .int .i64 b, undef, .pointer (some ⟨W.heap.size, 0, none⟩), .pointer (some ⟨W.heap.size + 1, 0, none⟩), .pointer (some ⟨W.heap.size + 1 + 1, 0, none⟩), .pointer (some ⟨W.heap.size + 1 + 1 + 1, 0, none⟩), .pointer (some ⟨W.heap.size + 1 + 1 + 1 + 1, 0, none⟩), .pointer (some ⟨W.heap.size + 1 + 1 + 1 + 1 + 1, 0, none⟩), .int .i64 cx, .int .i64 cy, .int .i64 0, .pointer (some ⟨w2.heap.size, 0, none⟩), .int .i64 0, .pointer (some ⟨Wx.heap.size, 0, none⟩), .pointer (some ⟨w4.heap.size, 0, none⟩), .tuple #[.int .i64 cx, .int .i64 cy, .int .i64 0], .int .i64 f, .int .i64 g, .int .i64 a, .tuple #[.int .i64 cx, .int .i64 cy, .int .i64 0], .int .i64 cx, .int .i64 cy, .int .i64 0, .int .i64 0, .bool false, undef, .tuple #[.int .i64 f, .int .i64 0], .int .i64 f, .tuple #[.int .i64 f, .int .i64 0], .int .i64 f, .int .i64 0, .int .i64 f, .func (.func 83) #[] #[.pointer (some ⟨w2.heap.size + 1, 0, none⟩)], .agg #[.int .i64 (vg : Int), .int .i64 (va : Int), .int .i64 (vx : Int), .int .i64 (vy : Int), .int .i64 (vb : Int)], .pointer (some ⟨Wx.heap.size, 0, none⟩), .pointer (some ⟨Wx.heap.size, 0, none⟩), .int .i64 (vg : Int), .int .i64 g, .bool true, .bool true, .pointer (some ⟨Wx.heap.size, 0, none⟩), .pointer (some ⟨Wx.heap.size, 1, none⟩), .int .i64 (va : Int), .int .i64 a, .bool true, .bool true, .bool true, .pointer (some ⟨Wx.heap.size, 4, none⟩), .int .i64 (vb : Int), .int .i64 b, .bool true, .bool true, .int .i64 f, .int .i64 b, .agg #[.int .i64 p, .int .i64 q], x58, x59, x60, x61, x62, x63, x64, x65], defers := [] }) w5 (W.heap.size + 1 + 1 + 1) (W.heap.size + 1 + 1 + 1 + 1) (W.heap.size + 1 + 1 + 1 + 1 + 1) (.agg #[.int .i64 p, .int .i64 q]) (.agg #[.int .i64 (vg : Int), .int .i64 (va : Int), .int .i64 (vx : Int), .int .i64 (vy : Int), .int .i64 (vb : Int)]) (.tuple #[.int .i64 (X : Int), .int .i64 (Y : Int)]) (.pointer (some ⟨w4.heap.size, 1, none⟩)) (X : Int) (Y : Int) P q) ?h0 ?st ?hd
            case h0 =>
              intro L hL
              have e : ∀ i, ¬ L i = true := fun i h => by rw [hL i] at h; cases h
              exact ⟨undef, undef, undef, undef, undef, undef, undef, undef, rfl, ⟨(Bar.refl _ _).drew, ⟨_, HI5.out.q3⟩, ⟨_, HI5.out.q4⟩, ⟨_, HI5.out.q5⟩, fun h => (e _ h).elim, fun h => (e _ h).elim, fun h => (e _ h).elim⟩, ⟨fun h => (e _ h).elim, fun h => (e _ h).elim, fun h => (e _ h).elim, fun h => (e _ h).elim, fun h => (e _ h).elim, fun h => (e _ h).elim, fun h => (e _ h).elim, fun h => (e _ h).elim⟩⟩
            case st =>
              refine ⟨?o0, ?o1, ?o2, ?o3, ?o4, ?o5, ?o6, ?o7, ?o8, ?o9, ?o10, trivial⟩
              case o0 =>
                rintro L ac Wr hL hbe hcl ⟨x58, x59, x60, x61, x62, x63, x64, x65, rfl, hW, hV⟩
                obtain ⟨⟨d0, d1⟩, -⟩ := HCell.out Wr hW.bar
                have HW := Lib.hid hW
                have HV := Lib.hid hV
                clear hW hV hcl hbe
                go_simp
                exact ⟨_, x59, x60, x61, x62, x63, x64, x65, rfl, (HW.out.same (Below.refl _ _) rfl rfl rfl), ⟨fun _ => rfl, HV.out.l1, HV.out.l2, HV.out.l3, HV.out.l4, HV.out.l5, HV.out.l6, HV.out.l7⟩⟩
              case o1 =>
                rintro L ac Wr hL hbe hcl ⟨x58, x59, x60, x61, x62, x63, x64, x65, rfl, hW, hV⟩
                obtain ⟨-, d0, d1, d2, d3, d4⟩ := HCell.out Wr hW.bar
                have HW := Lib.hid hW
                have HV := Lib.hid hV
                clear hW hV hcl hbe
                go_simp
                exact ⟨x58, _, x60, x61, x62, x63, x64, x65, rfl, (HW.out.same (Below.refl _ _) rfl rfl rfl), ⟨HV.out.l0, fun _ => rfl, HV.out.l2, HV.out.l3, HV.out.l4, HV.out.l5, HV.out.l6, HV.out.l7⟩⟩
              case o2 =>
                rintro L ac Wr hL hbe hcl ⟨x58, x59, x60, x61, x62, x63, x64, x65, rfl, hW, hV⟩
                obtain rfl := hV.l1 (hbe { on := 1, ground := .data } (by simp) rfl)
                have HW := Lib.hid hW
                have HV := Lib.hid hV
                clear hW hV hcl hbe
                go_simp
                refine ⟨trivial, CallsIn.mono (F := Fence.wide.inRound _) (callsIn_wide.2 (HCo.out Wr)) ?_⟩
                rintro e W6 ⟨rfl, hbw⟩
                exact ⟨x58, _, _, x61, x62, x63, x64, x65, rfl, (HW.out.same hbw rfl rfl rfl), ⟨HV.out.l0, HV.out.l1, fun _ => rfl, HV.out.l3, HV.out.l4, HV.out.l5, HV.out.l6, HV.out.l7⟩⟩
              case o3 =>
                rintro L ac Wr hL hbe hcl ⟨x58, x59, x60, x61, x62, x63, x64, x65, rfl, hW, hV⟩
                obtain rfl := hV.l2 (hbe { on := 2, ground := .data } (by simp) rfl)
                have HW := Lib.hid hW
                have HV := Lib.hid hV
                clear hW hV hcl hbe
                go_simp
                exact ⟨x58, x59, _, _, x62, x63, x64, x65, rfl, (HW.out.same (Below.refl _ _) rfl rfl rfl), ⟨HV.out.l0, HV.out.l1, HV.out.l2, fun _ => rfl, HV.out.l4, HV.out.l5, HV.out.l6, HV.out.l7⟩⟩
              case o4 =>
                rintro L ac Wr hL hbe hcl ⟨x58, x59, x60, x61, x62, x63, x64, x65, rfl, hW, hV⟩
                obtain rfl := hV.l2 (hbe { on := 2, ground := .data } (by simp) rfl)
                have HW := Lib.hid hW
                have HV := Lib.hid hV
                clear hW hV hcl hbe
                go_simp
                exact ⟨x58, x59, _, x61, _, x63, x64, x65, rfl, (HW.out.same (Below.refl _ _) rfl rfl rfl), ⟨HV.out.l0, HV.out.l1, HV.out.l2, HV.out.l3, fun _ => rfl, HV.out.l5, HV.out.l6, HV.out.l7⟩⟩
              case o5 =>
                rintro L ac Wr hL hbe hcl ⟨x58, x59, x60, x61, x62, x63, x64, x65, rfl, hW, hV⟩
                obtain rfl := hV.l0 (hbe { on := 0, ground := .data } (by simp) rfl)
                obtain rfl := hV.l3 (hbe { on := 3, ground := .data } (by simp) rfl)
                obtain rfl := hV.l4 (hbe { on := 4, ground := .data } (by simp) rfl)
                have HW := Lib.hid hW
                have HV := Lib.hid hV
                clear hW hV hcl hbe
                go_simp
                refine ⟨trivial, CallsIn.mono (F := Fence.wide.inRound _) (callsIn_wide.2 (HPc.out Wr)) ?_⟩
                rintro e W6 ⟨rfl, rfl⟩
                exact ⟨_, x59, x60, _, _, _, x64, x65, rfl, (HW.out.same ((Below.refl _ _).alloc (Nat.le_refl _) _) rfl rfl rfl), ⟨HV.out.l0, HV.out.l1, HV.out.l2, HV.out.l3, HV.out.l4, fun _ => rfl, HV.out.l6, HV.out.l7⟩⟩
              case o6 =>
                rintro L ac Wr hL hbe hcl ⟨x58, x59, x60, x61, x62, x63, x64, x65, rfl, hW, hV⟩
                have HW := Lib.hid hW
                have HV := Lib.hid hV
                clear hW hV hcl hbe
                go_simp
                exact ⟨x58, x59, x60, x61, x62, x63, _, x65, rfl, (HW.out.same (Below.refl _ _) rfl rfl rfl), ⟨HV.out.l0, HV.out.l1, HV.out.l2, HV.out.l3, HV.out.l4, HV.out.l5, fun _ => rfl, HV.out.l7⟩⟩
              case o7 =>
                rintro L ac Wr hL hbe hcl ⟨x58, x59, x60, x61, x62, x63, x64, x65, rfl, hW, hV⟩
                obtain rfl := hV.l6 (hbe { on := 6, ground := .data } (by simp) rfl)
                obtain ⟨⟨d0, d1⟩, -⟩ := HCell.out Wr hW.bar
                have HW := Lib.hid hW
                have HV := Lib.hid hV
                clear hW hV hcl hbe
                go_simp
                exact ⟨x58, x59, x60, x61, x62, x63, _, _, rfl, (HW.out.same (Below.refl _ _) rfl rfl rfl), ⟨HV.out.l0, HV.out.l1, HV.out.l2, HV.out.l3, HV.out.l4, HV.out.l5, HV.out.l6, fun _ => rfl⟩⟩
              case o8 =>
                rintro L ac Wr hL hbe hcl ⟨x58, x59, x60, x61, x62, x63, x64, x65, rfl, hW, hV⟩
                obtain rfl := hV.l5 (hbe { on := 5, ground := .data } (by simp) rfl)
                obtain ⟨v1, n1⟩ := hW.n1
                obtain ⟨d0, d1⟩ := n1.cell
                have N1 := Lib.hid n1
                obtain ⟨v2, n2⟩ := hW.n2
                obtain ⟨v3, n3⟩ := hW.n3
                have N2 := Lib.hid n2
                have N3 := Lib.hid n3
                clear n1 n2 n3
                have HW := Lib.hid hW
                have HV := Lib.hid hV
                clear hW hV hcl hbe
                go_simp
                exact ⟨x58, x59, x60, x61, x62, _, x64, x65, rfl, ⟨HW.out.bar.setCell (p := ⟨W.heap.size + 1 + 1 + 1, 0, none⟩) (fun _ => .inl rfl) _, ⟨_, N1.out.set _⟩, ⟨_, N2.out.other _ _ (by simp <;> omega)⟩, ⟨_, N3.out.other _ _ (by simp <;> omega)⟩, fun _ => N1.out.set _, fun h => (HW.out.l9 h).other _ _ (by simp <;> omega), fun h => (HW.out.l10 h).other _ _ (by simp <;> omega)⟩, ⟨HV.out.l0, HV.out.l1, HV.out.l2, HV.out.l3, HV.out.l4, HV.out.l5, HV.out.l6, HV.out.l7⟩⟩
              case o9 =>
                rintro L ac Wr hL hbe hcl ⟨x58, x59, x60, x61, x62, x63, x64, x65, rfl, hW, hV⟩
                obtain rfl := hV.l7 (hbe { on := 7, ground := .data } (by simp) rfl)
                obtain ⟨v1, n1⟩ := hW.n1
                obtain ⟨v2, n2⟩ := hW.n2
                obtain ⟨v3, n3⟩ := hW.n3
                obtain ⟨d0, d1⟩ := n2.cell
                have N1 := Lib.hid n1
                have N2 := Lib.hid n2
                have N3 := Lib.hid n3
                clear n1 n2 n3
                have HW := Lib.hid hW
                have HV := Lib.hid hV
                clear hW hV hcl hbe
                go_simp
                exact ⟨x58, x59, x60, x61, x62, x63, x64, _, rfl, ⟨HW.out.bar.setCell (p := ⟨W.heap.size + 1 + 1 + 1 + 1, 0, none⟩) (fun _ => .inr (.inl rfl)) _, ⟨_, N1.out.other _ _ (by simp <;> omega)⟩, ⟨_, N2.out.set _⟩, ⟨_, N3.out.other _ _ (by simp <;> omega)⟩, fun h => (HW.out.l8 h).other _ _ (by simp <;> omega), fun _ => N2.out.set _, fun h => (HW.out.l10 h).other _ _ (by simp <;> omega)⟩, ⟨HV.out.l0, HV.out.l1, HV.out.l2, HV.out.l3, HV.out.l4, HV.out.l5, HV.out.l6, HV.out.l7⟩⟩
              case o10 =>
                rintro L ac Wr hL hbe hcl ⟨x58, x59, x60, x61, x62, x63, x64, x65, rfl, hW, hV⟩
                obtain ⟨v1, n1⟩ := hW.n1
                obtain ⟨v2, n2⟩ := hW.n2
                obtain ⟨v3, n3⟩ := hW.n3
                obtain ⟨d0, d1⟩ := n3.cell
                have N1 := Lib.hid n1
                have N2 := Lib.hid n2
                have N3 := Lib.hid n3
                clear n1 n2 n3
                have HW := Lib.hid hW
                have HV := Lib.hid hV
                clear hW hV hcl hbe
                go_simp
                exact ⟨x58, x59, x60, x61, x62, x63, x64, x65, rfl, ⟨HW.out.bar.setCell (p := ⟨W.heap.size + 1 + 1 + 1 + 1 + 1, 0, none⟩) (fun _ => .inr (.inr rfl)) _, ⟨_, N1.out.other _ _ (by simp <;> omega)⟩, ⟨_, N2.out.other _ _ (by simp <;> omega)⟩, ⟨_, N3.out.set _⟩, fun h => (HW.out.l8 h).other _ _ (by simp <;> omega), fun h => (HW.out.l9 h).other _ _ (by simp <;> omega), fun _ => N3.out.set _⟩, ⟨HV.out.l0, HV.out.l1, HV.out.l2, HV.out.l3, HV.out.l4, HV.out.l5, HV.out.l6, HV.out.l7⟩⟩
            case hd =>
              rintro L ac Wr hL ⟨x58, x59, x60, x61, x62, x63, x64, x65, rfl, hW, hV⟩
              obtain ⟨u1, u2, u3, u4, u5⟩ := HKeep.out Wr hW.bar
              have HU := Lib.hid (show KeepsMid w3.heap.size Wx.heap.size W2 Wr ∧ PInv W g a b P q 0 Wr from ⟨u1, ⟨u3, u4, u5, hW.l8 (hL 8 (by decide)), hW.l9 (hL 9 (by decide)), hW.l10 (hL 10 (by decide)), u2⟩⟩)
              clear hW hV hL u1 u2 u3 u4 u5
              gi_wp2
              exact ⟨HU.out.1, rfl, HY.out, by rw [HVb.out, HQ.out, HPP.out]; exact HU.out.2⟩
          · have t3 : ((vb : Int) == b) = false := by rw [beq_eq_false_iff_ne]; exact hb
            have HN := Lib.hid (NO.out fun h => hb ((hIs.out g a b).1 h).2.2)
            clear hg ha hb
            gi_wp2
            exact ⟨KeepsMid.refl _ _ _, trivial, HN.out, H2.out, H3.out⟩
        · have t2 : ((va : Int) == a) = false := by rw [beq_eq_false_iff_ne]; exact ha
          have HN := Lib.hid (NO.out fun h => ha ((hIs.out g a b).1 h).2.1)
          clear hg ha
          gi_wp2
          exact ⟨KeepsMid.refl _ _ _, trivial, HN.out, H2.out, H3.out⟩
      · have t1 : ((vg : Int) == g) = false := by rw [beq_eq_false_iff_ne]; exact hg
        have HN := Lib.hid (NO.out fun h => hg ((hIs.out g a b).1 h).1)
        clear hg
        gi_wp2
        exact ⟨KeepsMid.refl _ _ _, trivial, HN.out, H2.out, H3.out⟩
    case hdone =>
      rintro D W' rfl ⟨h1, h2, h3⟩ hD
      have HN := Lib.hid (HNone.out h1)
      have H2 := Lib.hid h2
      have hz := h2.size
      obtain ⟨c3, f3⟩ := h2.q3.cell
      obtain ⟨c4, f4⟩ := h2.q4.cell
      obtain ⟨c5, f5⟩ := h2.q5.cell
      clear h1 h2 h3 hb3 hf3 hmb
      gi_wp2
      refine leaves_one (D := w3.heap.size) ?_ (fun W3 hb => ?_)
      · rw [heap_setCell_other _ _ _ _ (by simp; omega), heap_setCell_other _ _ _ _ (by simp; omega), heap_setCell_other _ _ _ _ (by simp; omega)]
        exact hD
      · have hI := H2.out.tell 0 0 3
        have hzI := hI.size
        have hI2 := hI.at (B := W3) (fun k _ _ => hb.block _ (by omega) (by omega)) (hb.below (by omega) (fun k hk e => by omega))
        obtain ⟨z0, -⟩ := hI2.q3.cell
        obtain ⟨z1, -⟩ := hI2.q4.cell
        obtain ⟨z2, -⟩ := hI2.q5.cell
        exact ⟨.tuple #[.int .i64 0, .int .i64 0, .int .i64 3], by simp [results, Try.f52, go_sem, z0, z1, z2], HN.out, hI2.below⟩
    case hstop =>
      rintro D c' x W' rfl hx ⟨rfl, h2, h3⟩ hD
      have H3 := Lib.hid h3
      have hz := h3.size
      have HE : Hid (PlaE c N w h g a b (.returned (.tuple #[.int .i64 (bP c w h x), .int .i64 (plW w (x % 6 + 1)), .int .i64 0]))) := .inl ⟨x, hx, h2, rfl⟩
      clear h2 h3 hb3 hf3 hmb
      gi_wp2
      refine leaves_one (D := w3.heap.size) hD (fun W3 hb => ?_)
      have hI2 := H3.out.at (B := W3) (fun k _ _ => hb.block _ (by omega) (by omega)) (hb.below (by omega) (fun k hk e => by omega))
      obtain ⟨z0, -⟩ := hI2.q3.cell
      obtain ⟨z1, -⟩ := hI2.q4.cell
      obtain ⟨z2, -⟩ := hI2.q5.cell
      exact ⟨.tuple #[.int .i64 (bP c w h x), .int .i64 (plW w (x % 6 + 1)), .int .i64 0], by simp [results, Try.f52, go_sem, z0, z1, z2], HE.out, hI2.below⟩
  · have HE : Hid (PlaE c N w h g a b (.returned (.tuple #[.int .i64 0, .int .i64 0, .int .i64 13]))) := .inr (.inr (.inl ⟨hk, ha, rfl⟩))
    obtain ⟨c3, f3⟩ := PI.out.q3.cell
    obtain ⟨c4, f4⟩ := PI.out.q4.cell
    obtain ⟨c5, f5⟩ := PI.out.q5.cell
    clear hk ha
    gi_wp2
    have hI2 := PI.out.tell 0 0 13
    obtain ⟨z0, -⟩ := hI2.q3.cell
    obtain ⟨z1, -⟩ := hI2.q4.cell
    obtain ⟨z2, -⟩ := hI2.q5.cell
    exact leaves_none ⟨.tuple #[.int .i64 0, .int .i64 0, .int .i64 13], by simp [results, Try.f52, go_sem, z0, z1, z2], HE.out, hI2.below⟩
  · have HE : Hid (PlaE c N w h g a b (.returned (.tuple #[.int .i64 0, .int .i64 0, .int .i64 8]))) := .inr (.inr (.inr ⟨hno, rfl⟩))
    obtain ⟨c3, f3⟩ := PI.out.q3.cell
    obtain ⟨c4, f4⟩ := PI.out.q4.cell
    obtain ⟨c5, f5⟩ := PI.out.q5.cell
    clear hno
    gi_wp2
    have hI2 := PI.out.tell 0 0 8
    obtain ⟨z0, -⟩ := hI2.q3.cell
    obtain ⟨z1, -⟩ := hI2.q4.cell
    obtain ⟨z2, -⟩ := hI2.q5.cell
    exact leaves_none ⟨.tuple #[.int .i64 0, .int .i64 0, .int .i64 8], by simp [results, Try.f52, go_sem, z0, z1, z2], HE.out, hI2.below⟩

end Go.Proofs.Ytenplmmongphoaa

/- frame: formats that are none. -/
namespace Go.Proofs.Ytenplmmongphoaa
open Go.RowKit Go.Shelf Go.Sort
set_option linter.unusedVariables false
attribute [local go_sem] Oper.semAt_some
set_option maxHeartbeats 2000000 in
theorem corner13_none {f : Int} (h0 : (f == 0) = false) (h1 : (f == 1) = false) (g a : Int) (W : World) :
    Calls Try.prog 51 #[.int .i64 f, .int .i64 g, .int .i64 a] W fun e W' => e = .returned (.tuple #[.int .i64 0, .int .i64 0, .int .i64 3]) ∧ Below W.heap.size W W' := by
  have HK := Lib.hid (fun W => fknown_none h0 h1 W)
  clear h0 h1
  go_enter Try.func51, Try.ntmps51
  go_wp2_with (go_at_call 61; refine (HK.out _).mono ?_; rintro e w' ⟨rfl, rfl⟩)
  exact bodyPost_ret (v := .tuple #[.int .i64 0, .int .i64 0, .int .i64 3]) (by simp [results, Try.f51, go_sem]) rfl ⟨rfl, ((((Below.refl _ W).alloc (Nat.le_refl _) _).alloc (by simp) _).alloc (by simp; omega) _).alloc (by simp; omega) _⟩
set_option maxHeartbeats 2000000 in
theorem place13_none {f : Int} (h0 : (f == 0) = false) (h1 : (f == 1) = false) (g a b : Int) (W : World) :
    Calls Try.prog 52 #[.int .i64 f, .int .i64 g, .int .i64 a, .int .i64 b] W fun e W' => e = .returned (.tuple #[.int .i64 0, .int .i64 0, .int .i64 3]) ∧ Below W.heap.size W W' := by
  have HC := Lib.hid (fun W => corner13_none h0 h1 g a W)
  clear h0 h1
  go_enter Try.func52, Try.ntmps52
  go_wp2_with fail
  obtain ⟨w1, hw⟩ : ∃ w1, ((((((W.alloc (Obj.cells #[Value.int IntKind.i64 g] 3)).alloc (Obj.cells #[Value.int IntKind.i64 a] 3)).alloc (Obj.cells #[Value.int IntKind.i64 b] 3)).alloc (Obj.cells #[Value.int IntKind.i64 0] 3)).alloc (Obj.cells #[Value.int IntKind.i64 0] 3)).alloc (Obj.cells #[Value.int IntKind.i64 0] 27)) = w1 := ⟨_, rfl⟩
  have hz1 : w1.heap.size = W.heap.size + 6 := by rw [← hw]; simp
  have hb1 : Below W.heap.size W w1 := by rw [← hw]; exact ((((((Below.refl _ W).alloc (Nat.le_refl _) _).alloc (by simp) _).alloc (by simp; omega) _).alloc (by simp; omega) _).alloc (by simp; omega) _).alloc (by simp; omega) _
  have q0 : Box1 w1 W.heap.size (.int .i64 g) := by rw [← hw]; exact ⟨_, heap_keep (heap_keep (heap_keep (heap_keep (heap_keep (heap_new _ rfl _) _) _) _) _) _⟩
  have q1 : Box1 w1 (W.heap.size + 1) (.int .i64 a) := by rw [← hw]; exact ⟨_, heap_keep (heap_keep (heap_keep (heap_keep (heap_new _ (by simp) _) _) _) _) _⟩
  have q2 : Box1 w1 (W.heap.size + 1 + 1) (.int .i64 b) := by rw [← hw]; exact ⟨_, heap_keep (heap_keep (heap_keep (heap_new _ (by simp) _) _) _) _⟩
  have q3 : Box1 w1 (W.heap.size + 1 + 1 + 1) (.int .i64 0) := by rw [← hw]; exact ⟨_, heap_keep (heap_keep (heap_new _ (by simp) _) _) _⟩
  have q4 : Box1 w1 (W.heap.size + 1 + 1 + 1 + 1) (.int .i64 0) := by rw [← hw]; exact ⟨_, heap_keep (heap_new _ (by simp) _) _⟩
  have q5 : Box1 w1 (W.heap.size + 1 + 1 + 1 + 1 + 1) (.int .i64 0) := by rw [← hw]; exact ⟨_, heap_new _ (by simp) _⟩
  rw [hw]
  clear hw
  refine (HC.out w1).mono ?_
  rintro e w2 ⟨rfl, hb2⟩
  have pI : PInv W g a b 0 0 0 w2 := ⟨q0.at (hb2.block _ (by omega)), q1.at (hb2.block _ (by omega)), q2.at (hb2.block _ (by omega)), q3.at (hb2.block _ (by omega)), q4.at (hb2.block _ (by omega)), q5.at (hb2.block _ (by omega)), Below.thru hb1 hb2 (by omega)⟩
  have PI := Lib.hid pI
  obtain ⟨c3, f3⟩ := pI.q3.cell
  obtain ⟨c4, f4⟩ := pI.q4.cell
  obtain ⟨c5, f5⟩ := pI.q5.cell
  clear q0 q1 q2 q3 q4 q5 hb1 hb2 pI
  go_wp2
  have hI2 := PI.out.tell 0 0 3
  obtain ⟨z0, -⟩ := hI2.q3.cell
  obtain ⟨z1, -⟩ := hI2.q4.cell
  obtain ⟨z2, -⟩ := hI2.q5.cell
  exact bodyPost_ret (v := .tuple #[.int .i64 0, .int .i64 0, .int .i64 3]) (by simp [results, Try.f52, go_sem, z0, z1, z2]) rfl ⟨rfl, hI2.below⟩
end Go.Proofs.Ytenplmmongphoaa
