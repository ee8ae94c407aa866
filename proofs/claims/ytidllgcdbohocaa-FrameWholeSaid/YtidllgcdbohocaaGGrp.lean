/- frame: Groups. -/
import Derived.Test.YtidllgcdbohocaaGIter
namespace Go.Proofs.Ytidllgcdbohocaa
open Go.RowKit Go.Shelf Go.Sort
set_option linter.unusedVariables false
attribute [local go_sem] Oper.semAt_some

/-- the numbers of the first k groups -/
def gNums (c k : Nat) : List Int := (List.range k).map fun j => ((gpN c j : Nat) : Int)
theorem gNums_succ (c k : Nat) : intV (gNums c (k + 1)) = intV (gNums c k) ++ [.int .i64 ((gpN c k : Nat) : Int)] := by simp [gNums, List.range_succ]
theorem gNums_length (c k : Nat) : (gNums c k).length = k := by simp [gNums]

set_option maxRecDepth 100000 in
set_option maxHeartbeats 4000000 in
theorem groups13_any {f w h nn : Int} {c r : Nat} (H : Fm f w h nn c r) (W : World) :
    Calls Try.prog 10 #[.int .i64 f] W fun e W' => ∃ v, e = .returned (.tuple #[v, .int .i64 0]) ∧ W'.ownsRow W.heap.size 3 1 v (c * r) (intV (gNums c (c * r))) ∧ Below W.heap.size W W' := by
  have HK := Lib.hid (fun W => fknown_any H W)
  have HG := Lib.hid (fun w => fgroups_in Fence.wide (40 - 1) trivial rfl f w)
  have hcr := H.cr
  have HT := Lib.hid (fun (n : Nat) (hn : 1 ≤ n) (bb : Nat) (Kp : World → World → Prop) (w0 : World) => fgroups_M H n hn bb Kp w0)
  clear H
  generalize hcN : c * r = N at *
  refine (callsIn_wide (n := 40)).1 ?_
  refine callsIn_of_wp_marks Try.func10 rfl trivial ?_ rfl
  simp only [Try.ntmps10, List.size_toArray, List.length_cons, List.length_nil, Nat.reduceAdd, Nat.reduceSub, Array.replicate_succ, Array.replicate_zero, List.push_toArray, List.append_toArray, List.nil_append, List.cons_append]
  gi_wp2_with (first | (refine ⟨trivial, ?_⟩; gi_at_call 30; refine (HG.out _).mono ?_; rintro e w' ⟨rfl, rfl⟩) | (refine ⟨trivial, ?_⟩; gi_at_call 27; refine (callsIn_wide.2 (HK.out _)).mono ?_; rintro e w' ⟨rfl, rfl⟩))
  have hw1 : ((W.alloc (Obj.cells #[Value.slice none 0 0] 25)).alloc (Obj.cells #[Value.int IntKind.i64 f] 47)).heap.size = W.heap.size + 2 := by simp
  have hb1 : Below W.heap.size W ((W.alloc (Obj.cells #[Value.slice none 0 0] 25)).alloc (Obj.cells #[Value.int IntKind.i64 f] 47)) := ((Below.refl _ W).alloc (Nat.le_refl _) _).alloc (by simp) _
  have hr1 : ((W.alloc (Obj.cells #[Value.slice none 0 0] 25)).alloc (Obj.cells #[Value.int IntKind.i64 f] 47)).heap[W.heap.size]? = some (.cells #[.slice none 0 0] 25 (0, 0)) := heap_keep (heap_new _ rfl _) _
  have hfb := World.alloc_heap_new (W.alloc (Obj.cells #[Value.slice none 0 0] 25)) (Obj.cells #[Value.int IntKind.i64 f] 47)
  have hfz : (W.alloc (Obj.cells #[Value.slice none 0 0] 25)).heap.size = W.heap.size + 1 := by simp
  rw [hfz] at hfb
  generalize (W.alloc (Obj.cells #[Value.slice none 0 0] 25)).alloc (Obj.cells #[Value.int IntKind.i64 f] 47) = w1 at *
  clear hfz
  refine wpIn_range_M rfl (by omega) (gf := 37) (lb := #[.pointer (some ⟨W.heap.size + 1, 0, none⟩)]) rfl trivial (enters_of Try.func37 (by kernel_rfl) rfl)
    (HT.out (40 - 1) (by omega) (W.heap.size + 1) (fun _ _ => True) w1 (by omega) (one_cell hfb).1) (fun _ h => h.elim) (fun _ _ => trivial) (fun _ _ _ => trivial) (Below.refl _ _) (fun _ => rfl) (fun _ _ _ _ h => h)
    (fun k Wx => Below W.heap.size W Wx ∧ ∃ v, Wx.heap[W.heap.size]? = some (.cells #[v] 25 (0, 0)) ∧ Wx.ownsRow (W.heap.size + 4) 3 1 v k (intV (gNums c k)))
    (fun _ _ _ => False)
    ?hI (fun _ _ _ _ h _ => h) ?h0 ?hround ?hdone (fun _ _ _ _ _ _ h _ => h.elim)
  case hI =>
    rintro k A B ⟨h1, v, h2, h3⟩ hb
    refine ⟨h1.trans (hb.below h1.size (fun j hj e => by rcases e with e | e; exact e; omega)), v, (hb.block _ (Array.getElem?_eq_some_iff.1 h2).1 (fun e => by rcases e with e | e; exact e; omega)).trans h2, ownsRow_bar h3 hb (fun j e e2 => ?_)⟩
    have := (h3.lt j e).1
    rcases e2 with e | e
    · exact e
    · omega
  case h0 =>
    intro W' hb
    exact ⟨hb1.trans (hb.below (by omega) (fun _ _ e => e)), .slice none 0 0, (hb.block _ (by omega) (fun e => e)).trans hr1, World.ownsRow_nil _ _ _ _⟩
  case hround =>
    rintro k Wx ⟨hB, v, hv, hR⟩ hkN hxz hk
    gi_wp2
    refine ⟨⟨by simp, Below.heap_alloc _ _ _ (by omega), Below.heap_alloc _ _ _ (by omega)⟩, trivial, fun W2 hb2 hz2 hot => ?_⟩
    have hz2' : W2.heap.size = Wx.heap.size + 1 := by rw [hz2]; simp
    have hvlt := hR.lt
    have hbx : Bar (fun j => j = w1.heap.size + 1) Wx W2 := ((Bar.refl _ Wx).alloc _).trans hb2 (fun _ _ e => e)
    have hB2 : Below W.heap.size W W2 := hB.trans (hbx.below hB.size (fun j hj e => by omega))
    have hv2 : W2.heap[W.heap.size]? = some (.cells #[v] 25 (0, 0)) := (hbx.block _ (by omega) (by omega)).trans hv
    have hR2 : W2.ownsRow (W.heap.size + 4) 3 1 v k (intV (gNums c k)) := ownsRow_bar hR hbx (fun j e e2 => by have := (hvlt j e).1; omega)
    have hgb : W2.heap[Wx.heap.size]? = some (.cells #[.int .i64 (gpN c k : Nat), .int .i64 (gpX c k : Nat), .int .i64 (gpY c k : Nat)] 57 (0, 0)) := by
      rw [hot _ (by omega)]; exact World.alloc_heap_new _ _
    have g0 : W2.cell? ⟨Wx.heap.size, 0, none⟩ = some (.int .i64 (gpN c k : Nat)) := by simp [World.cell?, hgb]
    obtain ⟨c0, f0⟩ := one_cell hv2
    have HB2 := Lib.hid hB2
    have HV2 := Lib.hid hv2
    have HR2 := Lib.hid hR2
    have HS2 := Lib.hid hR2.lt
    have HSc := Lib.hid (gNums_succ c k)
    obtain ⟨i2, hi2, hz20, hz21, hz22⟩ := info_parts info_int5
    clear hB hv hR hb2 hot hvlt hbx hB2 hv2 hR2 hgb hkN
    generalize gpN c k = g at *
    gi_wp2_with (gi_at_builtin; refine wpListIn_append_v rfl (.tmp 19) (.tmp 22) 25 3 i2 (.int .i64 0) 8 rfl Try.underlying25y hi2 hz20 hz21 hz22 rfl (W.heap.size + 4) v k (intV (gNums c k)) rfl (HR2.out.alloc _) (some ⟨Wx.heap.size + 1, 0, none⟩) 1 1 [.int .i64 (g : Nat)] rfl (src_at (heap_new _ hz2' _)) (fun e => nomatch e) (by simp [Value.oneCell']) (by omega) (by omega) (by simp; omega) ?_; intro v1 w2 hap; refine Hid.out ?_)
    obtain ⟨a1, a2, a3⟩ := hap
    have hs1 : W2.heap.size + 1 ≤ w2.heap.size := by have := a2.size; simpa using this
    have bar1 : Bar (fun j => v.ownBlock = some j) W2 w2 := ((Bar.refl _ _).alloc _).trans (bar_of_grown a2 (fun j e => e)) (fun j _ e => e)
    have rv1 : w2.heap[W.heap.size]? = some (.cells #[v] 25 (0, 0)) := (bar1.block _ (by omega) (fun e => by have := (HS2.out _ e).1; omega)).trans HV2.out
    obtain ⟨av, cv, rfl⟩ := row_form a1
    have rR2 := ownsRow_setCell_other a1 (a := ⟨W.heap.size, 0, none⟩) (fun e => by have e := (a1.lt _ e).1; have e : W.heap.size + 4 ≤ W.heap.size := e; omega) (.slice av (k + 1) cv)
    have rv2 : (w2.setCell ⟨W.heap.size, 0, none⟩ (.slice av (k + 1) cv)).heap[W.heap.size]? = some (.cells #[.slice av (k + 1) cv] 25 (0, 0)) := heap_setCell_same _ W.heap.size 0 _ _ _ rv1
    have bar2 := (bar1.wide (T := fun j => j = W.heap.size ∨ v.ownBlock = some j) (fun j e => .inr e)).setCell (p := ⟨W.heap.size, 0, none⟩) (fun _ => .inl rfl) (.slice av (k + 1) cv)
    obtain ⟨d0, e0⟩ := one_cell rv1
    have BAR2 := Lib.hid bar2
    have RR2 := Lib.hid rR2
    have RV2 := Lib.hid rv2
    clear a1 a2 a3 bar1 rv1 rR2 rv2 bar2 c0 f0
    refine Lib.hid ?_
    gi_wp2
    refine ⟨keep2_bar BAR2.out (by omega) (fun e => ?_) (fun e => ?_), trivial, trivial, HB2.out.trans (BAR2.out.below HB2.out.size (fun j hj e => ?_)), _, RV2.out, by rw [HSc.out]; exact RR2.out⟩
    · rcases e with e | e
      · omega
      · have := (HS2.out _ e).1; omega
    · rcases e with e | e
      · omega
      · have := (HS2.out _ e).1; omega
    · rcases e with e | e
      · omega
      · have := (HS2.out _ e).1; omega
  case hdone =>
    rintro D x W' rfl hx ⟨hB, v, hv, hR⟩ hxN hD
    obtain rfl : x = N := by omega
    obtain ⟨c0, f0⟩ := one_cell hv
    obtain ⟨av, cv, rfl⟩ := row_form hR
    gi_wp2
    refine leaves_one hD (fun W3 hb => ?_)
    have hv3 := hR.lt
    refine ⟨.tuple #[.slice av x cv, .int .i64 0], by simp [results, Try.f10, go_sem], _, rfl, ownsRow_base (ownsRow_bar hR hb (fun j e e2 => by have := (hv3 j e).1; omega)) (by omega), hB.trans (hb.below hB.size (fun j hj e => by omega))⟩

end Go.Proofs.Ytidllgcdbohocaa
