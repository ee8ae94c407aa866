/- frame: Corner. -/
import Derived.Test.YtidllgcdbohocaaGNxt
import Derived.Test.YtidllgcdbohocaaGBlk
namespace Go.Proofs.Ytidllgcdbohocaa
open Go.RowKit Go.Shelf Go.Sort
set_option linter.unusedVariables false
attribute [local go_sem] Oper.semAt_some

theorem Below.thru {B C : Nat} {X Y Z : World} (h : Below B X Y) (k : Below C Y Z) (hBC : B ≤ C) : Below B X Z := h.trans (k.mono hBC)

/-- what Corner answers, of a format that is known -/
def CorE (c N : Nat) (g a : Int) (e : Ending) : Prop :=
  (∃ k m : Nat, k < N ∧ m < 33 ∧ ((gpN c k : Nat) : Int) = g ∧ a = (m : Int) + 1 ∧ e = .returned (.tuple #[.int .i64 ((gpX c k : Nat) + 16 * ((m : Int) % 11)), .int .i64 ((gpY c k : Nat) + 16 * ((m : Int) / 11)), .int .i64 0])) ∨
  ((∃ k, k < N ∧ ((gpN c k : Nat) : Int) = g) ∧ (a < 1 ∨ 33 < a) ∧ e = .returned (.tuple #[.int .i64 0, .int .i64 0, .int .i64 13])) ∨
  ((∀ k, k < N → ((gpN c k : Nat) : Int) ≠ g) ∧ e = .returned (.tuple #[.int .i64 0, .int .i64 0, .int .i64 8]))

set_option maxRecDepth 100000 in
set_option maxHeartbeats 4000000 in
theorem corner13_any {f w h nn : Int} {c r : Nat} (H : Fm f w h nn c r) (g a : Int) (W : World) :
    Calls Try.prog 17 #[.int .i64 f, .int .i64 g, .int .i64 a] W fun e W' => CorE c (c * r) g a e ∧ Below W.heap.size W W' := by
  have HK := Lib.hid (fun W => fknown_any H W)
  have HGr := Lib.hid (fun W => fgroup_any H g W)
  have hcr := H.cr
  have HC := Lib.hid H.c
  clear H
  generalize hcN : c * r = N at *
  refine (callsIn_wide (n := 40)).1 ?_
  refine callsIn_of_wp_marks Try.func17 rfl trivial ?_ rfl
  simp only [Try.ntmps17, List.size_toArray, List.length_cons, List.length_nil, Nat.reduceAdd, Nat.reduceSub, Array.replicate_succ, Array.replicate_zero, List.push_toArray, List.append_toArray, List.nil_append, List.cons_append]
  gi_wp2_with (refine ⟨trivial, ?_⟩; gi_at_call 27; refine (callsIn_wide.2 (HK.out _)).mono ?_; rintro e w' ⟨rfl, rfl⟩)
  obtain ⟨w1, hw⟩ : ∃ w1, ((((W.alloc (Obj.cells #[Value.int IntKind.i64 a] 3)).alloc (Obj.cells #[Value.int IntKind.i64 0] 3)).alloc (Obj.cells #[Value.int IntKind.i64 0] 3)).alloc (Obj.cells #[Value.int IntKind.i64 0] 22)) = w1 := ⟨_, rfl⟩
  have hz1 : w1.heap.size = W.heap.size + 4 := by rw [← hw]; simp
  have hb1 : Below W.heap.size W w1 := by rw [← hw]; exact ((((Below.refl _ W).alloc (Nat.le_refl _) _).alloc (by simp) _).alloc (by simp; omega) _).alloc (by simp; omega) _
  have q0 : Box1 w1 W.heap.size (.int .i64 a) := by rw [← hw]; exact ⟨_, heap_keep (heap_keep (heap_keep (heap_new _ rfl _) _) _) _⟩
  have q1 : Box1 w1 (W.heap.size + 1) (.int .i64 0) := by rw [← hw]; exact ⟨_, heap_keep (heap_keep (heap_new _ (by simp) _) _) _⟩
  have q2 : Box1 w1 (W.heap.size + 1 + 1) (.int .i64 0) := by rw [← hw]; exact ⟨_, heap_keep (heap_new _ (by simp) _) _⟩
  have q3 : Box1 w1 (W.heap.size + 1 + 1 + 1) (.int .i64 0) := by rw [← hw]; exact ⟨_, heap_new _ (by simp) _⟩
  rw [hw]
  clear hw
  refine ⟨trivial, (callsIn_wide.2 (HGr.out w1)).mono ?_⟩
  clear HGr HK
  rintro e w2 ⟨⟨k, hk, hg, rfl⟩ | ⟨hno, rfl⟩, hb2⟩
  · have hgx := gX_le (k := k) HC.out
    have hgy := gY_le (k := k) HC.out (by omega)
    have hGet : Hid (∀ m : Nat, m < 33 → a = (m : Int) + 1 → CorE c N g a (.returned (.tuple #[.int .i64 ((gpX c k : Nat) + 16 * ((m : Int) % 11)), .int .i64 ((gpY c k : Nat) + 16 * ((m : Int) / 11)), .int .i64 0]))) := fun m hm ha => .inl ⟨k, m, hk, hm, hg, ha, rfl⟩
    have hBad : Hid ((a < 1 ∨ 33 < a) → CorE c N g a (.returned (.tuple #[.int .i64 0, .int .i64 0, .int .i64 13]))) := fun h => .inr (.inl ⟨⟨k, hk, hg⟩, h, rfl⟩)
    have hz2 := hb2.size
    have p0 := Lib.hid (q0.at (hb2.block _ (by omega)))
    have p1 := Lib.hid (q1.at (hb2.block _ (by omega)))
    have p2 := Lib.hid (q2.at (hb2.block _ (by omega)))
    have p3 := Lib.hid (q3.at (hb2.block _ (by omega)))
    have hB2 := Lib.hid (Below.thru hb1 hb2 (by omega))
    clear q0 q1 q2 q3 hb1 hb2 hg
    generalize gpX c k = gx at *
    generalize gpY c k = gy at *
    gi_wp2_with (refine ⟨trivial, ?_⟩; gi_at_call 32; refine (fmacros_in Fence.wide _ trivial rfl _ _ _ _).mono ?_; rintro e w' ⟨rfl, rfl⟩)
    obtain ⟨w3, hw3⟩ : ∃ w3, ((w2.alloc (Obj.cells #[Value.int IntKind.i64 g, Value.int IntKind.i64 (gx : Int), Value.int IntKind.i64 (gy : Int)] 57)).alloc (Obj.cells #[Value.int IntKind.i64 g, Value.int IntKind.i64 (gx : Int), Value.int IntKind.i64 (gy : Int)] 57)) = w3 := ⟨_, rfl⟩
    rw [hw3]
    have hz3 : w3.heap.size = w2.heap.size + 2 := by rw [← hw3]; simp
    have hb3 : Below w2.heap.size w2 w3 := by rw [← hw3]; exact ((Below.refl _ w2).alloc (Nat.le_refl _) _).alloc (by simp) _
    have hmb : w3.heap[w2.heap.size + 1]? = some (Obj.cells #[Value.int IntKind.i64 g, Value.int IntKind.i64 (gx : Int), Value.int IntKind.i64 (gy : Int)] 57) := by rw [← hw3]; exact heap_new _ (by simp) _
    clear hw3
    refine wpIn_range_T rfl (by omega) (gf := 38) (lb := #[.pointer (some ⟨w2.heap.size + 1, 0, none⟩)]) rfl trivial (enters_of Try.func38 (by kernel_rfl) rfl)
      (fmacros_T g gx gy (by omega) (by omega) (by omega) (by omega) (40 - 1) (by omega) (w2.heap.size + 1) (fun A B => B.heap[w2.heap.size + 1]? = A.heap[w2.heap.size + 1]?) (fun A B h => h) w3 ⟨_, hmb⟩)
      (fun h k => k.trans h) (fun W' r o' h => World.putObj_heap_other (by omega)) (Below.refl _ _) (fun _ => rfl)
      (fun x Wx => (∀ m : Nat, m < x → a ≠ (m : Int) + 1) ∧ Box1 Wx W.heap.size (.int .i64 a) ∧ Box1 Wx (W.heap.size + 1) (.int .i64 0) ∧ Box1 Wx (W.heap.size + 1 + 1) (.int .i64 0) ∧ Box1 Wx (W.heap.size + 1 + 1 + 1) (.int .i64 0) ∧ Below W.heap.size W Wx)
      (fun c' x Wx => c' = .ret ∧ a = (x : Int) + 1 ∧ Box1 Wx (W.heap.size + 1) (.int .i64 ((gx : Int) + 16 * ((x : Int) % 11))) ∧ Box1 Wx (W.heap.size + 1 + 1) (.int .i64 ((gy : Int) + 16 * ((x : Int) / 11))) ∧ Box1 Wx (W.heap.size + 1 + 1 + 1) (.int .i64 0) ∧ Below W.heap.size W Wx)
      ?hI ?hIx ?h0 ?hround ?hdone ?hstop
    case hI =>
      rintro x A B ⟨h1, h2, h3, h4, h6, h5⟩ hb
      exact ⟨h1, h2.at (hb.block _ (by omega)), h3.at (hb.block _ (by omega)), h4.at (hb.block _ (by omega)), h6.at (hb.block _ (by omega)), h5.trans (hb.mono (by omega))⟩
    case hIx =>
      rintro c' x A B ⟨h1, h2, h3, h4, h6, h5⟩ hb
      exact ⟨h1, h2, h3.at (hb.block _ (by omega)), h4.at (hb.block _ (by omega)), h6.at (hb.block _ (by omega)), h5.trans (hb.mono (by omega))⟩
    case h0 =>
      exact ⟨fun m hm => by omega, p0.out.at (hb3.block _ (by omega)), p1.out.at (hb3.block _ (by omega)), p2.out.at (hb3.block _ (by omega)), p3.out.at (hb3.block _ (by omega)), Below.thru hB2.out hb3 (by omega)⟩
    case hround =>
      rintro x Wx ⟨h1, h2, h3, h4, h6, h5⟩ hxz hx
      clear p0 p1 p2 p3 hb3 hmb
      gi_wp2
      refine ⟨KeepsHi.alloc _ _ _, Below.heap_alloc _ _ _ (by omega), fun W2 hb2 hz2 hot => ?_⟩
      have hz2' : W2.heap.size = Wx.heap.size + 1 := by rw [hz2]; simp
      have hmx : W2.heap[Wx.heap.size]? = some (.cells #[.int .i64 g, .int .i64 ((x : Int) + 1), .int .i64 ((gx : Int) + 16 * ((x : Int) % 11)), .int .i64 ((gy : Int) + 16 * ((x : Int) / 11))] 64 (0, 0)) := by
        rw [hot _ (by omega)]; exact World.alloc_heap_new _ _
      have hk : ∀ b, b < W.heap.size + 4 → W2.heap[b]? = Wx.heap[b]? := fun b hb => by rw [hot _ (by omega), Below.heap_alloc _ _ _ (by omega)]
      replace h2 := h2.at (hk _ (by omega))
      replace h3 := h3.at (hk _ (by omega))
      replace h4 := h4.at (hk _ (by omega))
      replace h6 := h6.at (hk _ (by omega))
      replace h5 : Below W.heap.size W W2 := h5.trans (((Below.refl W.heap.size Wx).alloc (by omega) _).trans (hb2.mono (by omega)))
      obtain ⟨c0, f0⟩ := h2.cell
      have m1 : W2.cell? ⟨Wx.heap.size, 1, none⟩ = some (.int .i64 ((x : Int) + 1)) := by simp [World.cell?, hmx]
      have m2 : W2.cell? ⟨Wx.heap.size, 2, none⟩ = some (.int .i64 ((gx : Int) + 16 * ((x : Int) % 11))) := by simp [World.cell?, hmx]
      have m3 : W2.cell? ⟨Wx.heap.size, 3, none⟩ = some (.int .i64 ((gy : Int) + 16 * ((x : Int) / 11))) := by simp [World.cell?, hmx]
      obtain ⟨r0, r1⟩ := h3.cell
      obtain ⟨e0, e1⟩ := h4.cell
      obtain ⟨a0, a1⟩ := h6.cell
      have H1 := Lib.hid h1
      have H2 := Lib.hid h2
      have H3 := Lib.hid h3
      have H4 := Lib.hid h4
      have H5 := Lib.hid h5
      have H6 := Lib.hid h6
      clear h1 h2 h3 h4 h5 h6 hb2 hz2 hot hk hmx
      have hx33 : (x : Int) < 33 := by omega
      by_cases ha : a = (x : Int) + 1
      · have t1 : ((x : Int) + 1 == a) = true := by rw [beq_iff_eq]; exact ha.symm
        have HA := Lib.hid ha
        clear ha
        gi_wp2
        gi_region
        all_goals
          gi_wp2
          refine ⟨?_, rfl, HA.out, ((Box1.set (W := W2.drew) H3.out _).other _ _ (by simp <;> omega)).other _ _ (by simp <;> omega), ((Box1.other (W := W2.drew) H4.out _ _ (by simp <;> omega)).set _).other _ _ (by simp <;> omega), ((Box1.other (W := W2.drew) H6.out _ _ (by simp <;> omega)).other _ _ (by simp <;> omega)).set _, ((Below.setCell (show Below W.heap.size W W2.drew from H5.out.drew) ?_ _).setCell ?_ _).setCell ?_ _⟩
          · exact (((show KeepsMid w3.heap.size Wx.heap.size W2 W2.drew from KeepsMid.refl _ _ _).set _ _ (.inl (by simp; omega))).set _ _ (.inl (by simp; omega))).set _ _ (.inl (by simp; omega))
          all_goals (simp <;> omega)
      · have t1 : ((x : Int) + 1 == a) = false := by rw [beq_eq_false_iff_ne]; exact fun e => ha e.symm
        have HA := Lib.hid ha
        clear ha
        gi_wp2
        exact ⟨KeepsMid.refl _ _ _, rfl, fun m hm => by
          by_cases e : m = x
          · rw [e]; exact HA.out
          · exact H1.out m (by omega), H2.out, H3.out, H4.out, H6.out, H5.out⟩
    case hdone =>
      rintro D W' rfl ⟨h1, h2, h3, h4, h6, h5⟩ hD
      obtain ⟨r0, r1⟩ := h3.cell
      obtain ⟨e0, e1⟩ := h4.cell
      obtain ⟨a0, a1⟩ := h6.cell
      have H3 := Lib.hid h3
      have H4 := Lib.hid h4
      have H5 := Lib.hid h5
      have H6 := Lib.hid h6
      have hbad := hBad.out (by
        by_cases q : a < 1
        · exact .inl q
        · right
          by_cases q2 : 33 < a
          · exact q2
          · exact absurd (show a = ((a - 1).toNat : Int) + 1 by omega) (h1 _ (by omega)))
      have HBad := Lib.hid hbad
      clear h1 h2 h3 h4 h5 h6 hbad
      gi_wp2
      refine leaves_one (D := w3.heap.size) ?_ (fun W3 hb => ?_)
      · rw [heap_setCell_other _ _ _ _ (by simp; omega), heap_setCell_other _ _ _ _ (by simp; omega), heap_setCell_other _ _ _ _ (by simp; omega)]
        exact hD
      · have k1 := (((H3.out.set (.int .i64 0)).other ⟨W.heap.size + 1 + 1, 0, none⟩ (.int .i64 0) (by simp <;> omega)).other ⟨W.heap.size + 1 + 1 + 1, 0, none⟩ (.int .i64 13) (by simp <;> omega)).at (hb.block _ (by have := H3.out.lt; simp; omega) (by omega))
        have k2 := (((H4.out.other ⟨W.heap.size + 1, 0, none⟩ (.int .i64 0) (by simp <;> omega)).set (.int .i64 0)).other ⟨W.heap.size + 1 + 1 + 1, 0, none⟩ (.int .i64 13) (by simp <;> omega)).at (hb.block _ (by have := H4.out.lt; simp; omega) (by omega))
        have k3 := (((H6.out.other ⟨W.heap.size + 1, 0, none⟩ (.int .i64 0) (by simp <;> omega)).other ⟨W.heap.size + 1 + 1, 0, none⟩ (.int .i64 0) (by simp <;> omega)).set (.int .i64 13)).at (hb.block _ (by have := H6.out.lt; simp; omega) (by omega))
        have hb5 : Below W.heap.size W (((W'.setCell ⟨W.heap.size + 1, 0, none⟩ (.int .i64 0)).setCell ⟨W.heap.size + 1 + 1, 0, none⟩ (.int .i64 0)).setCell ⟨W.heap.size + 1 + 1 + 1, 0, none⟩ (.int .i64 13)) := by
          refine ((H5.out.setCell ?_ _).setCell ?_ _).setCell ?_ _
          all_goals (simp <;> omega)
        obtain ⟨z0, -⟩ := k1.cell
        obtain ⟨z1, -⟩ := k2.cell
        obtain ⟨z2, -⟩ := k3.cell
        exact ⟨.tuple #[.int .i64 0, .int .i64 0, .int .i64 13], by simp [results, Try.f17, go_sem, z0, z1, z2], HBad.out, hb5.trans (hb.below hb5.size (fun j hj e => by omega))⟩
    case hstop =>
      rintro D c' x W' rfl hx ⟨rfl, h2, h3, h4, h6, h5⟩ hD
      have H3 := Lib.hid h3
      have H4 := Lib.hid h4
      have H5 := Lib.hid h5
      have H6 := Lib.hid h6
      clear h3 h4 h5 h6
      gi_wp2
      refine leaves_one (D := w3.heap.size) hD (fun W3 hb => ?_)
      obtain ⟨z0, -⟩ := (H3.out.at (hb.block _ H3.out.lt (by omega))).cell
      obtain ⟨z1, -⟩ := (H4.out.at (hb.block _ H4.out.lt (by omega))).cell
      obtain ⟨z2, -⟩ := (H6.out.at (hb.block _ H6.out.lt (by omega))).cell
      exact ⟨.tuple #[.int .i64 ((gx : Int) + 16 * ((x : Int) % 11)), .int .i64 ((gy : Int) + 16 * ((x : Int) / 11)), .int .i64 0], by simp [results, Try.f17, go_sem, z0, z1, z2], hGet.out x hx h2, H5.out.trans (hb.below H5.out.size (fun j hj e => by omega))⟩
  · have p1 := q1.at (hb2.block _ (by omega))
    have p2 := q2.at (hb2.block _ (by omega))
    have p3 := q3.at (hb2.block _ (by omega))
    have hB2 := Lib.hid (Below.thru hb1 hb2 (by omega))
    have hNo := Lib.hid hno
    obtain ⟨c1, f1⟩ := p1.cell
    obtain ⟨c2, f2⟩ := p2.cell
    obtain ⟨c3, f3⟩ := p3.cell
    have hz2 := hb2.size
    have l1 : W.heap.size + 1 < w2.heap.size := by omega
    have l2 : W.heap.size + 1 + 1 < w2.heap.size := by omega
    have l3 : W.heap.size + 1 + 1 + 1 < w2.heap.size := by omega
    have P1 := Lib.hid p1
    have P2 := Lib.hid p2
    have P3 := Lib.hid p3
    clear q0 q1 q2 q3 hb1 hb2 hno p1 p2 p3
    gi_wp2
    have r1 := ((((P1.out.set (.int .i64 0)).other ⟨W.heap.size + 1 + 1, 0, none⟩ (.int .i64 0) (by simp <;> omega)).other ⟨W.heap.size + 1 + 1 + 1, 0, none⟩ (.int .i64 8) (by simp <;> omega)))
    have r2 := ((((P2.out.other ⟨W.heap.size + 1, 0, none⟩ (.int .i64 0) (by simp <;> omega)).set (.int .i64 0)).other ⟨W.heap.size + 1 + 1 + 1, 0, none⟩ (.int .i64 8) (by simp <;> omega)))
    have r3 := ((((P3.out.other ⟨W.heap.size + 1, 0, none⟩ (.int .i64 0) (by simp <;> omega)).other ⟨W.heap.size + 1 + 1, 0, none⟩ (.int .i64 0) (by simp <;> omega)).set (.int .i64 8)))
    have hb5 : Below W.heap.size W (((w2.setCell ⟨W.heap.size + 1, 0, none⟩ (.int .i64 0)).setCell ⟨W.heap.size + 1 + 1, 0, none⟩ (.int .i64 0)).setCell ⟨W.heap.size + 1 + 1 + 1, 0, none⟩ (.int .i64 8)) := by
      refine ((hB2.out.setCell ?_ _).setCell ?_ _).setCell ?_ _
      all_goals (simp <;> omega)
    generalize ((w2.setCell ⟨W.heap.size + 1, 0, none⟩ (.int .i64 0)).setCell ⟨W.heap.size + 1 + 1, 0, none⟩ (.int .i64 0)).setCell ⟨W.heap.size + 1 + 1 + 1, 0, none⟩ (.int .i64 8) = w4 at *
    have hb6 := (Below.refl w4.heap.size w4).alloc (Nat.le_refl _) (Obj.cells #[Value.int IntKind.i64 0, Value.int IntKind.i64 0, Value.int IntKind.i64 0] 57)
    obtain ⟨z0, -⟩ := (r1.at (hb6.block _ r1.lt)).cell
    obtain ⟨z1, -⟩ := (r2.at (hb6.block _ r2.lt)).cell
    obtain ⟨z2, -⟩ := (r3.at (hb6.block _ r3.lt)).cell
    exact leaves_none ⟨.tuple #[.int .i64 0, .int .i64 0, .int .i64 8], by simp [results, Try.f17, go_sem, z0, z1, z2], .inr (.inr ⟨hNo.out, rfl⟩), Below.thru hb5 hb6 (by have := r1.lt; omega)⟩
end Go.Proofs.Ytidllgcdbohocaa
