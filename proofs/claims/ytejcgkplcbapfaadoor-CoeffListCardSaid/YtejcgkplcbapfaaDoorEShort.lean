/- coeff's short: a range over the table's func. -/
import Derived.Test.YtejcgkplcbapfaaDoorEGet
namespace Go.Proofs.YtejcgkplcbapfaaDoor
open Go.RowKit Go.Shelf
set_option linter.unusedVariables false
attribute [local go_sem] Oper.semAt_some

/-- a level without its sign, as the program has it -/
def absL (l : Int) : Int := if l < 0 then IntKind.i64.wrap (-l) else l
theorem match_abs {r l : Int} (h1 : -9223372036854775808 ≤ l) (h2 : l ≤ 9223372036854775807) {k : Nat} (hk : k < 63) : matchP r l (pairAt k) = (((pairAt k).1 : Int) == r && ((pairAt k).2 : Int) == absL l) := by
  obtain ⟨s1, s2⟩ := pairAt_small (k := k)
  have s3 := pairAt_one hk
  generalize pairAt k = p at *
  obtain ⟨a, b⟩ := p
  unfold matchP absL
  simp only at *
  rw [Bool.eq_iff_iff, decide_eq_true_iff, Bool.and_eq_true, beq_iff_eq, beq_iff_eq]
  rw [IntKind.wrap_i64]
  split <;> omega
structure TInv (w : World) (r l L : Int) (sg : ByteArray) (first : Bool) (x : Nat) (W : World) : Prop where
  below : Below w.heap.size w W
  p : ∃ t, W.heap[w.heap.size]? = some (.cells #[.int .i64 r, .int .i64 l] t (0, 0))
  a : ∃ t, W.heap[w.heap.size + 1]? = some (.cells #[.string ⟨#[]⟩] t (0, 0))
  b : ∃ t, W.heap[w.heap.size + 1 + 1]? = some (.cells #[.bool false] t (0, 0))
  lv : ∃ t, W.heap[w.heap.size + 1 + 1 + 1]? = some (.cells #[.int .i64 L] t (0, 0))
  sg : ∃ t, W.heap[w.heap.size + 1 + 1 + 1 + 1]? = some (.cells #[.string sg] t (0, 0))
  no : ∀ j, j < x → matchP r l (pairAt j) = false
theorem TInv.later {w W W' : World} {r l L : Int} {sg : ByteArray} {first : Bool} {x B : Nat} (h : TInv w r l L sg first x W) (hb : Below B W W') (hB : w.heap.size + 5 ≤ B) : TInv w r l L sg first x W' := by
  obtain ⟨h0, ⟨t1, h1⟩, ⟨t2, h2⟩, ⟨t3, h3⟩, ⟨t4, h4⟩, ⟨t5, h5⟩, h6⟩ := h
  exact ⟨h0.trans (hb.mono (by omega)), ⟨t1, (hb.block _ (by omega)).trans h1⟩, ⟨t2, (hb.block _ (by omega)).trans h2⟩, ⟨t3, (hb.block _ (by omega)).trans h3⟩, ⟨t4, (hb.block _ (by omega)).trans h4⟩, ⟨t5, (hb.block _ (by omega)).trans h5⟩, h6⟩
structure TEnd (w : World) (r l : Int) (sg : ByteArray) (first : Bool) (x : Nat) (W : World) : Prop where
  below : Below w.heap.size w W
  a : ∃ t, W.heap[w.heap.size + 1]? = some (.cells #[.string (codeF first x ++ sg)] t (0, 0))
  b : ∃ t, W.heap[w.heap.size + 1 + 1]? = some (.cells #[.bool true] t (0, 0))
  no : ∀ j, j < x → matchP r l (pairAt j) = false
  here : matchP r l (pairAt x) = true

def shortS (first : Bool) (r l : Int) : ByteArray := match tabI r l with | some k => codeF first k ++ signS l | none => ⟨#[]⟩

set_option maxRecDepth 100000 in
set_option maxHeartbeats 8000000 in
theorem short_in (n : Nat) (hn : 12 ≤ n) (r l : Int) (hl1 : -9223372036854775808 ≤ l) (hl2 : l ≤ 9223372036854775807) (first : Bool) (w : World) (hSp : Spc w) :
    CallsIn Fence.wide n Tryd.prog 35 #[pairV r l, .bool first] w fun e w' => e = .returned (.tuple #[.string (shortS first r l), .bool (shortB r l)]) ∧ Below w.heap.size w w' := by
  have hn1 : 1 ≤ n := by omega
  have hn2 : 1 ≤ n - 1 := by omega
  have hn3 : 1 ≤ n - 1 - 1 := by omega
  have hgm : 0 < w.heap.size := World.block_lt_of_cell? w _ (hSp 0 (by decide))
  have HT := Lib.hid (fun W => etable_in Fence.wide (n - 1) trivial rfl first W)
  have HSp := Lib.hid (fun w' (hb : Below w.heap.size w w') => hSp.below hb)
  obtain ⟨L, hL⟩ : ∃ L, L = absL l := ⟨_, rfl⟩
  obtain ⟨sg, hsg⟩ : ∃ sg, sg = signS l := ⟨_, rfl⟩
  have hsz : sg.size = 1 := by rw [hsg]; unfold signS; split <;> rfl
  have HL := Lib.hid hL
  have HSgn := Lib.hid hsg
  have HM := Lib.hid (fun (k : Nat) (hk : k < 63) => match_abs (r := r) hl1 hl2 hk)
  rw [← hL] at HM
  have HR1 := Lib.hid (fun (h : ∀ j, j < 63 → matchP r l (pairAt j) = false) => (⟨by unfold shortS; rw [tabI_none h], by unfold shortB; rw [tabI_none h]; rfl⟩ : shortS first r l = ⟨#[]⟩ ∧ shortB r l = false))
  have HR2 := Lib.hid (fun (k : Nat) (hk : k < 63) (h1 : ∀ j, j < k → matchP r l (pairAt j) = false) (h2 : matchP r l (pairAt k) = true) => (⟨by unfold shortS; rw [tabI_some hk h2 h1, hsg], by unfold shortB; rw [tabI_some hk h2 h1]; rfl⟩ : shortS first r l = codeF first k ++ sg ∧ shortB r l = true))
  clear hSp
  refine callsIn_of_wp_marks Tryd.func35 rfl trivial ?_ rfl
  simp only [Tryd.ntmps35, List.size_toArray, List.length_cons, List.length_nil, Nat.reduceAdd, Nat.reduceSub, Array.replicate_succ, Array.replicate_zero, List.push_toArray, List.append_toArray, List.nil_append, List.cons_append]
  by_cases hneg : l < 0
  · have hLw : wrap64 (-l) = L := by rw [hL]; unfold absL; rw [if_pos hneg, wrap_i64_eq]
    have hsgn : sg = ⟨#[49]⟩ := by rw [hsg]; unfold signS; rw [if_pos hneg]; rfl
    clear hL hsg
    gi_wp2_with (refine ⟨trivial, ?_⟩; gi_at_call 45; refine (HT.out _).mono ?_; rintro e w' ⟨rfl, rfl⟩)
    subst hsgn
    have hB5 : Below w.heap.size w ((((((w.alloc (Obj.cells #[Value.int IntKind.i64 r, Value.int IntKind.i64 l] 26)).alloc (Obj.cells #[Value.string ⟨#[]⟩] 9)).alloc (Obj.cells #[Value.bool false] 4)).alloc (Obj.cells #[Value.int IntKind.i64 L] 3)).alloc (Obj.cells #[Value.string ⟨#[49]⟩] 9)).alloc (Obj.cells #[Value.bool first] 4)) :=
      ((((((Below.refl _ w).alloc (Nat.le_refl _) _).alloc (by simp) _).alloc (by simp; omega) _).alloc (by simp; omega) _).alloc (by simp; omega) _).alloc (by simp; omega) _
    have h50 : ((((((w.alloc (Obj.cells #[Value.int IntKind.i64 r, Value.int IntKind.i64 l] 26)).alloc (Obj.cells #[Value.string ⟨#[]⟩] 9)).alloc (Obj.cells #[Value.bool false] 4)).alloc (Obj.cells #[Value.int IntKind.i64 L] 3)).alloc (Obj.cells #[Value.string ⟨#[49]⟩] 9)).alloc (Obj.cells #[Value.bool first] 4)).heap[w.heap.size]? = some (Obj.cells #[Value.int IntKind.i64 r, Value.int IntKind.i64 l] 26) := heap_keep (heap_keep (heap_keep (heap_keep (heap_keep (heap_new _ rfl _) _) _) _) _) _
    have h51 : ((((((w.alloc (Obj.cells #[Value.int IntKind.i64 r, Value.int IntKind.i64 l] 26)).alloc (Obj.cells #[Value.string ⟨#[]⟩] 9)).alloc (Obj.cells #[Value.bool false] 4)).alloc (Obj.cells #[Value.int IntKind.i64 L] 3)).alloc (Obj.cells #[Value.string ⟨#[49]⟩] 9)).alloc (Obj.cells #[Value.bool first] 4)).heap[w.heap.size + 1]? = some (Obj.cells #[Value.string ⟨#[]⟩] 9) := heap_keep (heap_keep (heap_keep (heap_keep (heap_new _ (by simp) _) _) _) _) _
    have h52 : ((((((w.alloc (Obj.cells #[Value.int IntKind.i64 r, Value.int IntKind.i64 l] 26)).alloc (Obj.cells #[Value.string ⟨#[]⟩] 9)).alloc (Obj.cells #[Value.bool false] 4)).alloc (Obj.cells #[Value.int IntKind.i64 L] 3)).alloc (Obj.cells #[Value.string ⟨#[49]⟩] 9)).alloc (Obj.cells #[Value.bool first] 4)).heap[w.heap.size + 1 + 1]? = some (Obj.cells #[Value.bool false] 4) := heap_keep (heap_keep (heap_keep (heap_new _ (by simp) _) _) _) _
    have h53 : ((((((w.alloc (Obj.cells #[Value.int IntKind.i64 r, Value.int IntKind.i64 l] 26)).alloc (Obj.cells #[Value.string ⟨#[]⟩] 9)).alloc (Obj.cells #[Value.bool false] 4)).alloc (Obj.cells #[Value.int IntKind.i64 L] 3)).alloc (Obj.cells #[Value.string ⟨#[49]⟩] 9)).alloc (Obj.cells #[Value.bool first] 4)).heap[w.heap.size + 1 + 1 + 1]? = some (Obj.cells #[Value.int IntKind.i64 L] 3) := heap_keep (heap_keep (heap_new _ (by simp) _) _) _
    have h54 : ((((((w.alloc (Obj.cells #[Value.int IntKind.i64 r, Value.int IntKind.i64 l] 26)).alloc (Obj.cells #[Value.string ⟨#[]⟩] 9)).alloc (Obj.cells #[Value.bool false] 4)).alloc (Obj.cells #[Value.int IntKind.i64 L] 3)).alloc (Obj.cells #[Value.string ⟨#[49]⟩] 9)).alloc (Obj.cells #[Value.bool first] 4)).heap[w.heap.size + 1 + 1 + 1 + 1]? = some (Obj.cells #[Value.string ⟨#[49]⟩] 9) := heap_keep (heap_new _ (by simp) _) _
    have h55 : ((((((w.alloc (Obj.cells #[Value.int IntKind.i64 r, Value.int IntKind.i64 l] 26)).alloc (Obj.cells #[Value.string ⟨#[]⟩] 9)).alloc (Obj.cells #[Value.bool false] 4)).alloc (Obj.cells #[Value.int IntKind.i64 L] 3)).alloc (Obj.cells #[Value.string ⟨#[49]⟩] 9)).alloc (Obj.cells #[Value.bool first] 4)).heap[w.heap.size + 1 + 1 + 1 + 1 + 1]? = some (Obj.cells #[Value.bool first] 4) := heap_new _ (by simp) _
    have h5z : ((((((w.alloc (Obj.cells #[Value.int IntKind.i64 r, Value.int IntKind.i64 l] 26)).alloc (Obj.cells #[Value.string ⟨#[]⟩] 9)).alloc (Obj.cells #[Value.bool false] 4)).alloc (Obj.cells #[Value.int IntKind.i64 L] 3)).alloc (Obj.cells #[Value.string ⟨#[49]⟩] 9)).alloc (Obj.cells #[Value.bool first] 4)).heap.size = w.heap.size + 6 := by simp
    generalize (((((w.alloc (Obj.cells #[Value.int IntKind.i64 r, Value.int IntKind.i64 l] 26)).alloc (Obj.cells #[Value.string ⟨#[]⟩] 9)).alloc (Obj.cells #[Value.bool false] 4)).alloc (Obj.cells #[Value.int IntKind.i64 L] 3)).alloc (Obj.cells #[Value.string ⟨#[49]⟩] 9)).alloc (Obj.cells #[Value.bool first] 4) = w5 at *
    refine wpIn_range_T rfl hn1 (gf := 54) (lb := #[.pointer (some ⟨w.heap.size + 1 + 1 + 1 + 1 + 1, 0, none⟩)]) rfl trivial (enters_of Tryd.func54 (by kernel_rfl) rfl)
      (etable_T (n - 1) (by omega) w.heap.size (w.heap.size + 1 + 1 + 1 + 1 + 1) first w5 (by omega) (by omega) hgm (one_cell h55).1 (HSp.out _ hB5))
      KpB.t (fun W' r' o' h => KpB.b (w := w5) (by omega) (by omega) (by omega) W' _ _ o' (by omega) h rfl rfl) (Below.refl _ _) (fun _ => rfl)
      (fun x Wx => TInv w r l L ⟨#[49]⟩ first x Wx)
      (fun c x Wx => c = .ret ∧ TEnd w r l ⟨#[49]⟩ first x Wx)
      ?hI ?hIx ?h0 ?hround ?hdone ?hstop
    case hI =>
      intro x A B h hb
      exact h.later hb (by omega)
    case hIx =>
      rintro c x A B ⟨rfl, a1, ⟨t1, a2⟩, ⟨t2, a3⟩, a4, a5⟩ hb
      exact ⟨rfl, a1.trans (hb.mono (by omega)), ⟨t1, (hb.block _ (by omega)).trans a2⟩, ⟨t2, (hb.block _ (by omega)).trans a3⟩, a4, a5⟩
    case h0 => exact ⟨hB5, ⟨_, h50⟩, ⟨_, h51⟩, ⟨_, h52⟩, ⟨_, h53⟩, ⟨_, h54⟩, fun j hj => by omega⟩
    case hround =>
      rintro x Wx hI hxz hxN
      obtain ⟨pa, pb, hp⟩ : ∃ a b, pairAt x = (a, b) := ⟨_, _, rfl⟩
      have hcs := codeF_small first x
      have hmt := HM.out x hxN
      rw [hp] at hmt
      simp only [encE]
      rw [hp]
      simp only at hmt ⊢
      gi_wp2
      refine ⟨KeepsHi.alloc _ _ _, ⟨(Below.refl _ Wx).alloc (by omega) _, World.cell?_alloc_old _ _ _ (by simp; omega), World.cell?_alloc_old _ _ _ (by simp; omega)⟩, fun W2 hb2 hz2 hot => ?_⟩
      have hbW : Below w5.heap.size Wx W2 := ((Below.refl _ Wx).alloc (by omega) _).trans hb2
      have hpb := (hot Wx.heap.size (by omega)).trans (World.alloc_heap_new Wx _)
      have hI2 := hI.later hbW (by omega)
      have hz : W2.heap.size = Wx.heap.size + 1 := by rw [hz2]; simp
      have HI2 := Lib.hid hI2
      obtain ⟨i0, ⟨t1, i1⟩, ⟨t2, i2⟩, ⟨t3, i3⟩, ⟨t4, i4⟩, ⟨t5, i5⟩, i6⟩ := hI2
      obtain ⟨p0, p1, q0, q1⟩ := pair_cells hpb
      obtain ⟨c0, c1, _, _⟩ := pair_cells i1
      obtain ⟨r1, v1⟩ := one_cell i2
      obtain ⟨r2, v2⟩ := one_cell i3
      obtain ⟨r3, v3⟩ := one_cell i4
      obtain ⟨r4, v4⟩ := one_cell i5
      have HI2' : Hid (W2.heap[w.heap.size + 1]? = _) := i2
      have HI3' : Hid (W2.heap[w.heap.size + 1 + 1]? = _) := i3
      have HI0 := Lib.hid i0
      have HI6 := Lib.hid i6
      have heq := fun W => pair_eq (pa : Int) (pb : Int) r L W
      have HMt := Lib.hid hmt
      have HPp := Lib.hid hp
      clear i0 i1 i2 i3 i4 i5 i6 hb2 hot hbW hpb hI hmt hp
      cases hm : ((pa : Int) == r && (pb : Int) == L) with
      | false =>
        rw [hm] at heq
        have hm2 : matchP r l (pairAt x) = false := by rw [HPp.out, HMt.out, hm]
        have HM2 := Lib.hid hm2
        clear hm hm2
        gi_wp2
        refine ⟨KeepsMid.refl _ _ _, KpB.rfl, ⟨HI0.out, HI2.out.p, HI2.out.a, HI2.out.b, HI2.out.lv, HI2.out.sg, fun j hj => ?_⟩⟩
        by_cases e : j = x
        · rw [e]; exact HM2.out
        · exact HI6.out j (by omega)
      | true =>
        rw [hm] at heq
        have hm2 : matchP r l (pairAt x) = true := by rw [HPp.out, HMt.out, hm]
        have HM2 := Lib.hid hm2
        clear hm hm2
        gi_wp2
        refine ⟨((KeepsMid.refl _ _ _).set _ _ (.inl (by simp; omega))).set _ _ (.inl (by simp; omega)), rfl, (HI0.out.setCell (p := ⟨w.heap.size + 1, 0, none⟩) (by simp) _).setCell (p := ⟨w.heap.size + 1 + 1, 0, none⟩) (by simp; omega) _, ⟨t2, ?_⟩, ⟨t3, ?_⟩, HI6.out, HM2.out⟩
        · rw [heap_setCell_other _ _ _ _ (by simp <;> omega)]
          exact heap_setCell_same _ (w.heap.size + 1) 0 _ _ _ HI2'.out
        · exact heap_setCell_same _ (w.heap.size + 1 + 1) 0 _ _ _ ((heap_setCell_other _ _ _ _ (by simp <;> omega)).trans HI3'.out)
    case hdone =>
      rintro D W' rfl hI hD
      obtain ⟨i0, ⟨t1, i1⟩, ⟨t2, i2⟩, ⟨t3, i3⟩, ⟨t4, i4⟩, ⟨t5, i5⟩, i6⟩ := hI
      obtain ⟨r1, v1⟩ := one_cell i2
      obtain ⟨r2, v2⟩ := one_cell i3
      obtain ⟨R1, R2⟩ := HR1.out i6
      have HI2' : Hid (W'.heap[w.heap.size + 1]? = _) := i2
      have HI3' : Hid (W'.heap[w.heap.size + 1 + 1]? = _) := i3
      have HR1' := Lib.hid R1
      have HR2' := Lib.hid R2
      clear i1 i2 i3 i4 i5 R1 R2
      gi_wp2
      have hX1 : ((W'.setCell ⟨w.heap.size + 1, 0, none⟩ (.string ⟨#[]⟩)).setCell ⟨w.heap.size + 1 + 1, 0, none⟩ (.bool false)).heap[w.heap.size + 1]? = some (.cells #[.string ⟨#[]⟩] t2 (0, 0)) := by
        rw [heap_setCell_other _ _ _ _ (by simp <;> omega)]
        exact heap_setCell_same _ (w.heap.size + 1) 0 _ _ _ HI2'.out
      have hX2 : ((W'.setCell ⟨w.heap.size + 1, 0, none⟩ (.string ⟨#[]⟩)).setCell ⟨w.heap.size + 1 + 1, 0, none⟩ (.bool false)).heap[w.heap.size + 1 + 1]? = some (.cells #[.bool false] t3 (0, 0)) :=
        heap_setCell_same _ (w.heap.size + 1 + 1) 0 _ _ _ ((heap_setCell_other _ _ _ _ (by simp <;> omega)).trans HI3'.out)
      have hBX : Below w.heap.size w ((W'.setCell ⟨w.heap.size + 1, 0, none⟩ (.string ⟨#[]⟩)).setCell ⟨w.heap.size + 1 + 1, 0, none⟩ (.bool false)) := (i0.setCell (p := ⟨w.heap.size + 1, 0, none⟩) (by simp) _).setCell (p := ⟨w.heap.size + 1 + 1, 0, none⟩) (by simp; omega) _
      have hDX : ((W'.setCell ⟨w.heap.size + 1, 0, none⟩ (.string ⟨#[]⟩)).setCell ⟨w.heap.size + 1 + 1, 0, none⟩ (.bool false)).heap[w5.heap.size]? = some (.deferred (some [])) := by
        rw [heap_setCell_other _ _ _ _ (by simp <;> omega), heap_setCell_other _ _ _ _ (by simp <;> omega)]
        exact hD
      have hDX5 := hDX
      refine leaves_marks (B := w.heap.size + 6) [_] (w.heap.size + 7) _ ⟨w5.heap.size, rfl, by omega, by omega, hDX, trivial⟩ (fun W3 hb => ?_)
      obtain ⟨q0, _⟩ := one_cell ((hb.block (w.heap.size + 1) (by omega)).trans hX1)
      obtain ⟨q1, _⟩ := one_cell ((hb.block (w.heap.size + 1 + 1) (by omega)).trans hX2)
      exact ⟨.tuple #[.string ⟨#[]⟩, .bool false], by simp [results, Tryd.f35, go_sem, q0, q1], by rw [HR1'.out, HR2'.out], hBX.trans (hb.mono (by omega))⟩
    case hstop =>
      rintro D c x W' rfl hx ⟨rfl, i0, ⟨t1, i1⟩, ⟨t2, i2⟩, i3, i4⟩ hD
      obtain ⟨R1, R2⟩ := HR2.out x hx i3 i4
      have HR1' := Lib.hid R1
      have HR2' := Lib.hid R2
      clear R1 R2
      gi_wp2
      refine leaves_marks (B := w.heap.size + 6) [_] (w.heap.size + 7) _ ⟨w5.heap.size, rfl, by omega, by omega, hD, trivial⟩ (fun W3 hb => ?_)
      obtain ⟨q0, _⟩ := one_cell ((hb.block (w.heap.size + 1) (by omega)).trans i1)
      obtain ⟨q1, _⟩ := one_cell ((hb.block (w.heap.size + 1 + 1) (by omega)).trans i2)
      exact ⟨.tuple #[.string (codeF first x ++ ⟨#[49]⟩), .bool true], by simp [results, Tryd.f35, go_sem, q0, q1], by rw [HR1'.out, HR2'.out], i0.trans (hb.mono (by omega))⟩
  · have hLl : L = l := by rw [hL]; unfold absL; rw [if_neg hneg]
    have hsgn : sg = ⟨#[48]⟩ := by rw [hsg]; unfold signS; rw [if_neg hneg]; rfl
    clear hL hsg
    gi_wp2_with (refine ⟨trivial, ?_⟩; gi_at_call 45; refine (HT.out _).mono ?_; rintro e w' ⟨rfl, rfl⟩)
    subst hsgn
    rw [hLl] at HM
    have hB5 : Below w.heap.size w ((((((w.alloc (Obj.cells #[Value.int IntKind.i64 r, Value.int IntKind.i64 l] 26)).alloc (Obj.cells #[Value.string ⟨#[]⟩] 9)).alloc (Obj.cells #[Value.bool false] 4)).alloc (Obj.cells #[Value.int IntKind.i64 l] 3)).alloc (Obj.cells #[Value.string ⟨#[48]⟩] 9)).alloc (Obj.cells #[Value.bool first] 4)) :=
      ((((((Below.refl _ w).alloc (Nat.le_refl _) _).alloc (by simp) _).alloc (by simp; omega) _).alloc (by simp; omega) _).alloc (by simp; omega) _).alloc (by simp; omega) _
    have h50 : ((((((w.alloc (Obj.cells #[Value.int IntKind.i64 r, Value.int IntKind.i64 l] 26)).alloc (Obj.cells #[Value.string ⟨#[]⟩] 9)).alloc (Obj.cells #[Value.bool false] 4)).alloc (Obj.cells #[Value.int IntKind.i64 l] 3)).alloc (Obj.cells #[Value.string ⟨#[48]⟩] 9)).alloc (Obj.cells #[Value.bool first] 4)).heap[w.heap.size]? = some (Obj.cells #[Value.int IntKind.i64 r, Value.int IntKind.i64 l] 26) := heap_keep (heap_keep (heap_keep (heap_keep (heap_keep (heap_new _ rfl _) _) _) _) _) _
    have h51 : ((((((w.alloc (Obj.cells #[Value.int IntKind.i64 r, Value.int IntKind.i64 l] 26)).alloc (Obj.cells #[Value.string ⟨#[]⟩] 9)).alloc (Obj.cells #[Value.bool false] 4)).alloc (Obj.cells #[Value.int IntKind.i64 l] 3)).alloc (Obj.cells #[Value.string ⟨#[48]⟩] 9)).alloc (Obj.cells #[Value.bool first] 4)).heap[w.heap.size + 1]? = some (Obj.cells #[Value.string ⟨#[]⟩] 9) := heap_keep (heap_keep (heap_keep (heap_keep (heap_new _ (by simp) _) _) _) _) _
    have h52 : ((((((w.alloc (Obj.cells #[Value.int IntKind.i64 r, Value.int IntKind.i64 l] 26)).alloc (Obj.cells #[Value.string ⟨#[]⟩] 9)).alloc (Obj.cells #[Value.bool false] 4)).alloc (Obj.cells #[Value.int IntKind.i64 l] 3)).alloc (Obj.cells #[Value.string ⟨#[48]⟩] 9)).alloc (Obj.cells #[Value.bool first] 4)).heap[w.heap.size + 1 + 1]? = some (Obj.cells #[Value.bool false] 4) := heap_keep (heap_keep (heap_keep (heap_new _ (by simp) _) _) _) _
    have h53 : ((((((w.alloc (Obj.cells #[Value.int IntKind.i64 r, Value.int IntKind.i64 l] 26)).alloc (Obj.cells #[Value.string ⟨#[]⟩] 9)).alloc (Obj.cells #[Value.bool false] 4)).alloc (Obj.cells #[Value.int IntKind.i64 l] 3)).alloc (Obj.cells #[Value.string ⟨#[48]⟩] 9)).alloc (Obj.cells #[Value.bool first] 4)).heap[w.heap.size + 1 + 1 + 1]? = some (Obj.cells #[Value.int IntKind.i64 l] 3) := heap_keep (heap_keep (heap_new _ (by simp) _) _) _
    have h54 : ((((((w.alloc (Obj.cells #[Value.int IntKind.i64 r, Value.int IntKind.i64 l] 26)).alloc (Obj.cells #[Value.string ⟨#[]⟩] 9)).alloc (Obj.cells #[Value.bool false] 4)).alloc (Obj.cells #[Value.int IntKind.i64 l] 3)).alloc (Obj.cells #[Value.string ⟨#[48]⟩] 9)).alloc (Obj.cells #[Value.bool first] 4)).heap[w.heap.size + 1 + 1 + 1 + 1]? = some (Obj.cells #[Value.string ⟨#[48]⟩] 9) := heap_keep (heap_new _ (by simp) _) _
    have h55 : ((((((w.alloc (Obj.cells #[Value.int IntKind.i64 r, Value.int IntKind.i64 l] 26)).alloc (Obj.cells #[Value.string ⟨#[]⟩] 9)).alloc (Obj.cells #[Value.bool false] 4)).alloc (Obj.cells #[Value.int IntKind.i64 l] 3)).alloc (Obj.cells #[Value.string ⟨#[48]⟩] 9)).alloc (Obj.cells #[Value.bool first] 4)).heap[w.heap.size + 1 + 1 + 1 + 1 + 1]? = some (Obj.cells #[Value.bool first] 4) := heap_new _ (by simp) _
    have h5z : ((((((w.alloc (Obj.cells #[Value.int IntKind.i64 r, Value.int IntKind.i64 l] 26)).alloc (Obj.cells #[Value.string ⟨#[]⟩] 9)).alloc (Obj.cells #[Value.bool false] 4)).alloc (Obj.cells #[Value.int IntKind.i64 l] 3)).alloc (Obj.cells #[Value.string ⟨#[48]⟩] 9)).alloc (Obj.cells #[Value.bool first] 4)).heap.size = w.heap.size + 6 := by simp
    generalize (((((w.alloc (Obj.cells #[Value.int IntKind.i64 r, Value.int IntKind.i64 l] 26)).alloc (Obj.cells #[Value.string ⟨#[]⟩] 9)).alloc (Obj.cells #[Value.bool false] 4)).alloc (Obj.cells #[Value.int IntKind.i64 l] 3)).alloc (Obj.cells #[Value.string ⟨#[48]⟩] 9)).alloc (Obj.cells #[Value.bool first] 4) = w5 at *
    refine wpIn_range_T rfl hn1 (gf := 54) (lb := #[.pointer (some ⟨w.heap.size + 1 + 1 + 1 + 1 + 1, 0, none⟩)]) rfl trivial (enters_of Tryd.func54 (by kernel_rfl) rfl)
      (etable_T (n - 1) (by omega) w.heap.size (w.heap.size + 1 + 1 + 1 + 1 + 1) first w5 (by omega) (by omega) hgm (one_cell h55).1 (HSp.out _ hB5))
      KpB.t (fun W' r' o' h => KpB.b (w := w5) (by omega) (by omega) (by omega) W' _ _ o' (by omega) h rfl rfl) (Below.refl _ _) (fun _ => rfl)
      (fun x Wx => TInv w r l l ⟨#[48]⟩ first x Wx)
      (fun c x Wx => c = .ret ∧ TEnd w r l ⟨#[48]⟩ first x Wx)
      ?hI ?hIx ?h0 ?hround ?hdone ?hstop
    case hI =>
      intro x A B h hb
      exact h.later hb (by omega)
    case hIx =>
      rintro c x A B ⟨rfl, a1, ⟨t1, a2⟩, ⟨t2, a3⟩, a4, a5⟩ hb
      exact ⟨rfl, a1.trans (hb.mono (by omega)), ⟨t1, (hb.block _ (by omega)).trans a2⟩, ⟨t2, (hb.block _ (by omega)).trans a3⟩, a4, a5⟩
    case h0 => exact ⟨hB5, ⟨_, h50⟩, ⟨_, h51⟩, ⟨_, h52⟩, ⟨_, h53⟩, ⟨_, h54⟩, fun j hj => by omega⟩
    case hround =>
      rintro x Wx hI hxz hxN
      obtain ⟨pa, pb, hp⟩ : ∃ a b, pairAt x = (a, b) := ⟨_, _, rfl⟩
      have hcs := codeF_small first x
      have hmt := HM.out x hxN
      rw [hp] at hmt
      simp only [encE]
      rw [hp]
      simp only at hmt ⊢
      gi_wp2
      refine ⟨KeepsHi.alloc _ _ _, ⟨(Below.refl _ Wx).alloc (by omega) _, World.cell?_alloc_old _ _ _ (by simp; omega), World.cell?_alloc_old _ _ _ (by simp; omega)⟩, fun W2 hb2 hz2 hot => ?_⟩
      have hbW : Below w5.heap.size Wx W2 := ((Below.refl _ Wx).alloc (by omega) _).trans hb2
      have hpb := (hot Wx.heap.size (by omega)).trans (World.alloc_heap_new Wx _)
      have hI2 := hI.later hbW (by omega)
      have hz : W2.heap.size = Wx.heap.size + 1 := by rw [hz2]; simp
      have HI2 := Lib.hid hI2
      obtain ⟨i0, ⟨t1, i1⟩, ⟨t2, i2⟩, ⟨t3, i3⟩, ⟨t4, i4⟩, ⟨t5, i5⟩, i6⟩ := hI2
      obtain ⟨p0, p1, q0, q1⟩ := pair_cells hpb
      obtain ⟨c0, c1, _, _⟩ := pair_cells i1
      obtain ⟨r1, v1⟩ := one_cell i2
      obtain ⟨r2, v2⟩ := one_cell i3
      obtain ⟨r3, v3⟩ := one_cell i4
      obtain ⟨r4, v4⟩ := one_cell i5
      have HI2' : Hid (W2.heap[w.heap.size + 1]? = _) := i2
      have HI3' : Hid (W2.heap[w.heap.size + 1 + 1]? = _) := i3
      have HI0 := Lib.hid i0
      have HI6 := Lib.hid i6
      have heq := fun W => pair_eq (pa : Int) (pb : Int) r l W
      have HMt := Lib.hid hmt
      have HPp := Lib.hid hp
      clear i0 i1 i2 i3 i4 i5 i6 hb2 hot hbW hpb hI hmt hp
      cases hm : ((pa : Int) == r && (pb : Int) == l) with
      | false =>
        rw [hm] at heq
        have hm2 : matchP r l (pairAt x) = false := by rw [HPp.out, HMt.out, hm]
        have HM2 := Lib.hid hm2
        clear hm hm2
        gi_wp2
        refine ⟨KeepsMid.refl _ _ _, KpB.rfl, ⟨HI0.out, HI2.out.p, HI2.out.a, HI2.out.b, HI2.out.lv, HI2.out.sg, fun j hj => ?_⟩⟩
        by_cases e : j = x
        · rw [e]; exact HM2.out
        · exact HI6.out j (by omega)
      | true =>
        rw [hm] at heq
        have hm2 : matchP r l (pairAt x) = true := by rw [HPp.out, HMt.out, hm]
        have HM2 := Lib.hid hm2
        clear hm hm2
        gi_wp2
        refine ⟨((KeepsMid.refl _ _ _).set _ _ (.inl (by simp; omega))).set _ _ (.inl (by simp; omega)), rfl, (HI0.out.setCell (p := ⟨w.heap.size + 1, 0, none⟩) (by simp) _).setCell (p := ⟨w.heap.size + 1 + 1, 0, none⟩) (by simp; omega) _, ⟨t2, ?_⟩, ⟨t3, ?_⟩, HI6.out, HM2.out⟩
        · rw [heap_setCell_other _ _ _ _ (by simp <;> omega)]
          exact heap_setCell_same _ (w.heap.size + 1) 0 _ _ _ HI2'.out
        · exact heap_setCell_same _ (w.heap.size + 1 + 1) 0 _ _ _ ((heap_setCell_other _ _ _ _ (by simp <;> omega)).trans HI3'.out)
    case hdone =>
      rintro D W' rfl hI hD
      obtain ⟨i0, ⟨t1, i1⟩, ⟨t2, i2⟩, ⟨t3, i3⟩, ⟨t4, i4⟩, ⟨t5, i5⟩, i6⟩ := hI
      obtain ⟨r1, v1⟩ := one_cell i2
      obtain ⟨r2, v2⟩ := one_cell i3
      obtain ⟨R1, R2⟩ := HR1.out i6
      have HI2' : Hid (W'.heap[w.heap.size + 1]? = _) := i2
      have HI3' : Hid (W'.heap[w.heap.size + 1 + 1]? = _) := i3
      have HR1' := Lib.hid R1
      have HR2' := Lib.hid R2
      clear i1 i2 i3 i4 i5 R1 R2
      gi_wp2
      have hX1 : ((W'.setCell ⟨w.heap.size + 1, 0, none⟩ (.string ⟨#[]⟩)).setCell ⟨w.heap.size + 1 + 1, 0, none⟩ (.bool false)).heap[w.heap.size + 1]? = some (.cells #[.string ⟨#[]⟩] t2 (0, 0)) := by
        rw [heap_setCell_other _ _ _ _ (by simp <;> omega)]
        exact heap_setCell_same _ (w.heap.size + 1) 0 _ _ _ HI2'.out
      have hX2 : ((W'.setCell ⟨w.heap.size + 1, 0, none⟩ (.string ⟨#[]⟩)).setCell ⟨w.heap.size + 1 + 1, 0, none⟩ (.bool false)).heap[w.heap.size + 1 + 1]? = some (.cells #[.bool false] t3 (0, 0)) :=
        heap_setCell_same _ (w.heap.size + 1 + 1) 0 _ _ _ ((heap_setCell_other _ _ _ _ (by simp <;> omega)).trans HI3'.out)
      have hBX : Below w.heap.size w ((W'.setCell ⟨w.heap.size + 1, 0, none⟩ (.string ⟨#[]⟩)).setCell ⟨w.heap.size + 1 + 1, 0, none⟩ (.bool false)) := (i0.setCell (p := ⟨w.heap.size + 1, 0, none⟩) (by simp) _).setCell (p := ⟨w.heap.size + 1 + 1, 0, none⟩) (by simp; omega) _
      have hDX : ((W'.setCell ⟨w.heap.size + 1, 0, none⟩ (.string ⟨#[]⟩)).setCell ⟨w.heap.size + 1 + 1, 0, none⟩ (.bool false)).heap[w5.heap.size]? = some (.deferred (some [])) := by
        rw [heap_setCell_other _ _ _ _ (by simp <;> omega), heap_setCell_other _ _ _ _ (by simp <;> omega)]
        exact hD
      have hDX5 := hDX
      refine leaves_marks (B := w.heap.size + 6) [_] (w.heap.size + 7) _ ⟨w5.heap.size, rfl, by omega, by omega, hDX, trivial⟩ (fun W3 hb => ?_)
      obtain ⟨q0, _⟩ := one_cell ((hb.block (w.heap.size + 1) (by omega)).trans hX1)
      obtain ⟨q1, _⟩ := one_cell ((hb.block (w.heap.size + 1 + 1) (by omega)).trans hX2)
      exact ⟨.tuple #[.string ⟨#[]⟩, .bool false], by simp [results, Tryd.f35, go_sem, q0, q1], by rw [HR1'.out, HR2'.out], hBX.trans (hb.mono (by omega))⟩
    case hstop =>
      rintro D c x W' rfl hx ⟨rfl, i0, ⟨t1, i1⟩, ⟨t2, i2⟩, i3, i4⟩ hD
      obtain ⟨R1, R2⟩ := HR2.out x hx i3 i4
      have HR1' := Lib.hid R1
      have HR2' := Lib.hid R2
      clear R1 R2
      gi_wp2
      refine leaves_marks (B := w.heap.size + 6) [_] (w.heap.size + 7) _ ⟨w5.heap.size, rfl, by omega, by omega, hD, trivial⟩ (fun W3 hb => ?_)
      obtain ⟨q0, _⟩ := one_cell ((hb.block (w.heap.size + 1) (by omega)).trans i1)
      obtain ⟨q1, _⟩ := one_cell ((hb.block (w.heap.size + 1 + 1) (by omega)).trans i2)
      exact ⟨.tuple #[.string (codeF first x ++ ⟨#[48]⟩), .bool true], by simp [results, Tryd.f35, go_sem, q0, q1], by rw [HR1'.out, HR2'.out], i0.trans (hb.mono (by omega))⟩

theorem short_any (r l : Int) (hl1 : -9223372036854775808 ≤ l) (hl2 : l ≤ 9223372036854775807) (first : Bool) (w : World) (hSp : Spc w) :
    Calls Tryd.prog 35 #[pairV r l, .bool first] w fun e w' => e = .returned (.tuple #[.string (shortS first r l), .bool (shortB r l)]) ∧ Below w.heap.size w w' := callsIn_wide.1 (short_in 12 (by omega) r l hl1 hl2 first w hSp)

end Go.Proofs.YtejcgkplcbapfaaDoor
