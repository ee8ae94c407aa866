/- The contract of (*queue.Queue).Bits. -/
import Derived.Test.YtglnmaekhpaffaaQFrom
import Derived.Maps.AppendAt
namespace Go.Proofs.Ytglnmaekhpaffaa
open Go.RowKit Go.Shelf
set_option linter.unusedVariables false
attribute [local go_sem] Oper.semAt_some

/-- what Bits leaves: new memory with the bytes -/
def Told (w w' : World) (e : Ending) (zs : List UInt8) (at_ : Nat) : Prop := ∃ v, e = .returned (.tuple #[v, .int .i64 at_]) ∧ w'.ownsRow w.heap.size 5 1 v zs.length (u8s zs) ∧ Below w.heap.size w w'

set_option maxRecDepth 100000 in
set_option maxHeartbeats 4000000 in
theorem qbits_in (n : Nat) (hn : 4 ≤ n) {w : World} {b g : Nat} {q : Qs} (h : IsQueue w b g q) :
    CallsIn Fence.wide n Try.prog 34 #[.pointer (some ⟨b, 0, none⟩)] w fun e w' => Told w w' e (q.all.drop (q.gone / 8)) (q.gone % 8) := by
  have h1 : 1 ≤ n := by omega
  have HM := Lib.hid (qmade_any h)
  have hlt := h.lt
  have H := Lib.hid h
  obtain ⟨i0, hi, hz0, hz1, hz2⟩ := info_parts Try.info5
  obtain ⟨ho, hbg, hb, ring, hr, hg⟩ := h
  obtain ⟨c0, c1, c2, c3, c4, c5⟩ := q_cells hb
  have g1 := ho.len
  have g2 := ho.gone
  have g3 := ho.held
  have g4 := ho.m2
  have g5 := ho.m1
  have HH := Lib.hid (fun w' => held_any q.most q.all.length q.gone w' g1 g2)
  have HP := Lib.hid (fun w' => place_any q.most q.all.length q.gone w' (by omega))
  generalize hhd : q.all.length - q.gone / 8 = hd at *
  have HD := Lib.hid hhd
  clear hb ho hr hg hhd
  refine callsIn_of_wp_marks Try.func34 rfl trivial ?_ rfl
  simp only [Try.ntmps34, List.size_toArray, List.length_cons, List.length_nil, Nat.reduceAdd, Nat.reduceSub, Array.replicate_succ, Array.replicate_zero, List.push_toArray, List.append_toArray, List.nil_append, List.cons_append]
  refine wpIn_wide.2 ?_
  go_wp2_with (go_at_call 54; refine HM.out.mono ?_; rintro e w' ⟨rfl, rfl⟩)
  refine (HH.out _).mono ?_
  rintro e w1 ⟨rfl, b1⟩
  have hs1 := b1.size
  go_wp2_with (at_make; refine wpList_make_own _ rfl _ _ 37 rfl w.heap.size 5 i0 (.int .u8 0) 1 Try.underlying37 hi hz0 hz1 .i64 .i64 _ hd rfl rfl rfl ?m3 ?m4 hs1 ?_)
  case m3 => rw [hz2]; omega
  case m4 => unfold maxLen; omega
  intro w2 hown hgrow
  have b2 : Below w.heap.size w w2 := b1.trans ⟨hgrow.os, hgrow.tape, hgrow.output, hgrow.size, fun k hk => hgrow.block k (by omega) (by simp)⟩
  have hs2 := b2.size
  have Hown := Lib.hid hown
  clear hown hgrow
  go_wp2_with (go_at_call 62; refine (callsIn_wide.1 (from_in Fence.wide 1 trivial rfl b _)).mono ?_; rintro e w' ⟨rfl, rfl⟩)
  refine (wpIn_wide (n := n)).1 ?_
  have hsz : ((w2.alloc (.cells #[.slice (some ⟨w1.heap.size, 0, none⟩) 0 hd] 37)).alloc (.cells #[.pointer (some ⟨b, 0, none⟩)] 42)).heap.size = w2.heap.size + 2 := by simp
  have bx0 : Boxed ((w2.alloc (.cells #[.slice (some ⟨w1.heap.size, 0, none⟩) 0 hd] 37)).alloc (.cells #[.pointer (some ⟨b, 0, none⟩)] 42)) (w2.heap.size + 1) 42 (.pointer (some ⟨b, 0, none⟩)) := by
    have := Boxed.new (w2.alloc (.cells #[.slice (some ⟨w1.heap.size, 0, none⟩) 0 hd] 37)) 42 (.pointer (some ⟨b, 0, none⟩))
    simpa using this
  have bv0 : Boxed ((w2.alloc (.cells #[.slice (some ⟨w1.heap.size, 0, none⟩) 0 hd] 37)).alloc (.cells #[.pointer (some ⟨b, 0, none⟩)] 42)) w2.heap.size 37 (.slice (some ⟨w1.heap.size, 0, none⟩) 0 hd) :=
    (Boxed.new w2 37 _).alloc _
  have hW0 : Below w.heap.size w ((w2.alloc (.cells #[.slice (some ⟨w1.heap.size, 0, none⟩) 0 hd] 37)).alloc (.cells #[.pointer (some ⟨b, 0, none⟩)] 42)) := (b2.alloc hs2 _).alloc (by simp; omega) _
  have hr0 := (Hown.out.alloc (.cells #[.slice (some ⟨w1.heap.size, 0, none⟩) 0 hd] 37)).alloc (.cells #[.pointer (some ⟨b, 0, none⟩)] 42)
  have hq0 := H.out.later hW0
  generalize ((w2.alloc (.cells #[.slice (some ⟨w1.heap.size, 0, none⟩) 0 hd] 37)).alloc (.cells #[.pointer (some ⟨b, 0, none⟩)] 42)) = W0 at *
  generalize w2.heap.size = B at *
  clear c0 c1 c2 c3 c4 c5
  refine wpIn_rangeFunc_ownF rfl h1 (gf := 69) (lb := #[.pointer (some ⟨B + 1, 0, none⟩)]) rfl trivial (enters_of Try.func69 (by kernel_rfl) rfl)
    (from_stops (n - 1) (by omega) w.heap.size (B + 1) b g q W0 (by omega) (by omega) (by omega) (by omega) bx0.cell hq0) KpB.t (KpB.b (by omega) (by omega) (by omega)) (Below.refl _ _) (fun _ => rfl)
    (fun pre W => ((∃ v, Boxed W B 37 v ∧ W.ownsRow w.heap.size 5 1 v pre.length (u8s pre) ∧ True) ∧ Boxed W (B + 1) 42 (.pointer (some ⟨b, 0, none⟩))) ∧ Below w.heap.size w W)
    (fun c pre W => False)
    (OwnFrom.and (OwnFrom.and (Own.from (holdsRow_own w.heap.size B 37 5 1 (fun pre : List UInt8 => pre.length) (fun pre => u8s pre) (fun _ _ => True)) _) (Own.from (boxed_own (B + 1) 42 (fun _ : List UInt8 => .pointer (some ⟨b, 0, none⟩))) _)) (ownFrom_below (Nat.le_refl _) (by omega)))
    (fun c s A B row hs _ _ => hs.elim)
    ⟨⟨⟨_, bv0, hr0, trivial⟩, bx0⟩, hW0⟩
    (fun x => { tmps := #[Value.pointer (some { block := b, off := 0 }), undef, Value.slice none 0 0, Value.int IntKind.i64 0,
        Value.pointer (some { block := B, off := 0 }), .int .u8 x.toNat, Value.pointer (some { block := b, off := 0 }),
        Value.bool true, Value.bool false, Value.pointer (some { block := b, off := 0 }),
        Value.pointer (some { block := b, off := 0 }), Value.pointer (some { block := b, off := 1 }),
        Value.agg #[Value.int IntKind.i64 ↑q.most, Value.int IntKind.i64 ↑q.all.length, Value.int IntKind.i64 ↑q.gone],
        Value.int IntKind.i64 ↑hd, Value.slice (some { block := w1.heap.size, off := 0 }) 0 hd,
        Value.pointer (some { block := b, off := 0 }),
        Value.func (Fn.func 69) #[] #[Value.pointer (some { block := B + 1, off := 0 })],
        .int .u8 x.toNat, undef, undef, undef, undef, undef, undef, undef, undef, undef, undef], defers := [] }) ?assign ?body ?done ?stop
  case assign =>
    intro l x W K hK
    gi_wp2
    exact hK
  case body =>
    rintro l pre x W ⟨⟨⟨v, hv, hrow, _⟩, hbx⟩, hB⟩ hlp
    have hcv := hv.cell
    have hsW := hB.size
    have hpl : pre.length < 1048577 := by have := HD.out; omega
    gi_wp2_with (gi_at_builtin; refine wpListIn_append_own _ rfl _ _ 37 rfl w.heap.size 5 i0 (.int .u8 0) 1 1 Try.underlying37 hi hz0 hz1 hz2 rfl (by decide) _ _ _ rfl (hrow.alloc _) ⟨W.heap.size, 0, none⟩ 1 1 [.int .u8 x.toNat] rfl rfl (cell_one_new _ _ _) (by simp [Value.oneCell']) (by unfold maxLen; omega) (by omega) (by simp; omega) ?_; intro v' w1 hown' hgrow _; obtain ⟨g', cap', rfl⟩ := ownsRow_succ hown'; obtain ⟨hv1, hv2, hr2, hk2, hb2⟩ := hv.appended (by decide) hrow hsW (by omega) hown' hgrow; have hc1 := hv1.cell; have hf1 := hv1.frozen)
    have hb1' : Boxed w1 (B + 1) 42 (.pointer (some ⟨b, 0, none⟩)) := (hbx.alloc _).kept hgrow (hbx.not_row (by decide) hrow)
    have hbx2 := hb1'.other (B' := B) (by omega) (.slice (some ⟨g', 0, none⟩) (pre.length + 1) cap')
    have e1 : (pre ++ [x]).length = pre.length + 1 := by simp
    have e2 : u8s (pre ++ [x]) = u8s pre ++ [.int .u8 x.toNat] := by simp [u8s]
    refine ⟨hk2, ⟨hb2, hbx2.cell.trans hbx.cell.symm, hbx2.cell.trans hbx.cell.symm⟩, ⟨⟨_, hv2, ?_, trivial⟩, hbx2⟩, hB.trans hb2⟩
    rw [e1, e2]
    exact hr2
  case done =>
    rintro D ys W hD rfl ⟨⟨⟨v, hv, hrow, _⟩, hbx⟩, hB⟩ hK
    have hqW := H.out.later hB
    obtain ⟨_, _, hbq, _⟩ := hqW
    obtain ⟨c0, c1, c2, c3, c4, c5⟩ := q_cells hbq
    have hcv := hv.cell
    have hbl : b < W.heap.size := (Array.getElem?_eq_some_iff.1 hbq).1
    have hBl := hv.lt
    have HKD := Lib.hid hK
    have Hrow := Lib.hid hrow
    clear hbq hK hrow
    go_wp2_with fail
    go_region_held3 (fun w' => w'.cell? ⟨B, 0, none⟩ = some v ∧ w'.cell? ⟨b, 1, none⟩ = some (.int .i64 q.most) ∧ w'.cell? ⟨b, 2, none⟩ = some (.int .i64 q.all.length) ∧ w'.cell? ⟨b, 3, none⟩ = some (.int .i64 q.gone))
      (first | go_keep | exact ⟨(b5.cell (p := ⟨B, 0, none⟩) hBl).trans hcv, (b5.cell (p := ⟨b, 1, none⟩) hbl).trans c1, (b5.cell (p := ⟨b, 2, none⟩) hbl).trans c2, (b5.cell (p := ⟨b, 3, none⟩) hbl).trans c3⟩)
      (first
       | (go_at_call 63; refine (HP.out _).mono ?_; rintro e w5 ⟨rfl, b5⟩))
    have b5' := below_undrew b5
    have hDl : D < W.heap.size := (Array.getElem?_eq_some_iff.1 HKD.out).1
    have hK5 : w5.heap[D]? = some (.deferred (some [])) := (b5'.block D hDl).trans HKD.out
    have hrow5 := Hrow.out.kept (w' := w5) (row := some W.heap.size) ⟨b5'.os, b5'.tape, b5'.output, b5'.size, fun k hk _ => b5'.block k hk⟩ (.inr (fun e => by have := (Hrow.out.lt W.heap.size e).2; omega))
    have HK5 := Lib.hid hK5
    have Hrow5 := Lib.hid hrow5
    clear hK5 hrow5
    have hsW := hB.size
    go_wp2
    refine ⟨by simp, .inl ⟨_, _, rfl, run_takeDeferred HK5.out, ?_⟩⟩
    have e8 : ((q.gone % 8 : Nat) : Int) = ((q.gone : Int) % 8) := by omega
    refine ⟨.tuple #[v, .int .i64 ((q.gone : Int) % 8)], by simp [results, Try.f34, go_sem], v, by rw [e8], ownsRow_putObj Hrow5.out _ HK5.out rfl, ?_⟩
    exact (hB.trans (b5'.mono hsW)).trans (belowK_b (w := w) (Nat.le_refl _) _ D _ _ (by omega) HK5.out rfl rfl)
  case stop =>
    rintro D c pre W hD _ hf _
    exact hf.elim

theorem qbits_any {w : World} {b g : Nat} {q : Qs} (h : IsQueue w b g q) :
    Calls Try.prog 34 #[.pointer (some ⟨b, 0, none⟩)] w fun e w' => Told w w' e (q.all.drop (q.gone / 8)) (q.gone % 8) :=
  callsIn_wide.1 (qbits_in 4 (by omega) h)

end Go.Proofs.Ytglnmaekhpaffaa
