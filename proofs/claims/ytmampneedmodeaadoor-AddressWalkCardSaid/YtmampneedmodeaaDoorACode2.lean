/- The contract of address's codes. -/
import Derived.Test.YtmampneedmodeaaDoorACode
namespace Go.Proofs.YtmampneedmodeaaDoor
open Go.RowKit Go.Shelf
set_option linter.unusedVariables false

theorem stop_slice {P : Program} {ops : Array Oper} {rest : List Oper} {o : Oper} {a : Act} {w : World} {Q : Exit → Act → World → Prop} (t : TypeId) (len : Nat) (parts : Array (Nat × Operand)) (ho : o.op = .buildSlice t len parts) (h : wpList P ops Q (o :: rest) a w) : wpList P ops Q (o :: rest) a w := h

set_option maxRecDepth 100000 in
set_option maxHeartbeats 4000000 in
theorem codes4_any (w : World) :
    Calls Tryd.prog 25 #[] w fun e w' => ∃ v, e = .returned v ∧ w'.ownsRow w.heap.size 47 2 v 35 (cellsA tab4) ∧ Below w.heap.size w w' := by
  obtain ⟨i0, hi, hz0, hz1, hz2⟩ := info_parts Tryd.info47a
  go_enter Tryd.func25, Tryd.ntmps25
  go_wp2_with (first
    | (at_make; go_loud (refine wpList_make_own _ rfl _ _ 44 rfl w.heap.size 47 i0 (.agg #[.int .i64 0, .int .i64 0]) 2 Tryd.underlying44a hi hz0 hz1 .i64 .i64 35 35 rfl rfl rfl (by rw [hz2]; decide) (by unfold maxLen; decide) (Nat.le_refl _) ?_); intro w1 hown1 hgrow1; have HO1 := Lib.hid hown1; have HG1 := Lib.hid hgrow1; clear hown1 hgrow1; refine Hid.out ?_))
  refine Lib.hid ?_
  go_wp2_with (with_reducible refine stop_slice 44 16 _ rfl ?_; refine Hid.out ?_)
  refine Lib.hid ?_
  refine Great.wpList_buildSliceTo rfl 44 47 16 _ rfl _ rfl _ rfl Tryd.underlying44a (cellsA head4).toArray (by kernel_rfl) ?_
  have hs1 := HG1.out.size
  have hb1 : Below w.heap.size w w1 := (Below.refl w.heap.size w).grown HG1.out (Nat.le_refl _) (fun k e => nomatch e)
  refine wpList_append_where _ rfl (.tmp 2) (.tmp 19) 44 rfl w.heap.size 47 i0 (.agg #[.int .i64 0, .int .i64 0]) 2 16 Tryd.underlying44a hi hz0 hz1 hz2 rfl (by decide) _ 0 [] rfl (HO1.out.alloc _) ⟨w1.heap.size, 0, none⟩ 16 16 (cellsA head4) rfl (by rw [cellsA_length]; rfl) (src_row _ _ _) cellsA_one (by unfold maxLen; decide) (by decide) (by simp; omega) ?_
  intro v2 w2 hown2 hgrow2 hloc2
  rw [Nat.zero_add, List.nil_append] at hown2
  have HO2 := Lib.hid hown2
  have hb2 : Below w.heap.size w w2 := (hb1.alloc hs1 _).grown hgrow2 (by simp; omega) (fun k e => (HO1.out.lt k e).1)
  have hs2 := hb2.size
  clear hown2 hgrow2 hloc2
  go_wp2_with (go_at_call 35; refine (falling_any HO2.out hs2 23 10 6 (by decide) (by decide) (by decide) (by decide) (by decide)).mono ?_; rintro e w3 ⟨v3, rfl, ho3, hb3⟩; have HO3 := Lib.hid ho3; have HB3 := Lib.hid hb3; clear ho3 hb3; refine Hid.out ?_)
  refine Lib.hid ?_
  have hs3 := HB3.out.size
  have b3 : Below w.heap.size w w3 := hb2.trans HB3.out
  go_wp2_with (go_at_call 35; refine (falling_any HO3.out (by omega) 35 11 12 (by decide) (by decide) (by decide) (by decide) (by decide)).mono ?_; rintro e w4 ⟨v4, rfl, ho4, hb4⟩; have HO4 := Lib.hid ho4; have HB4 := Lib.hid hb4; clear ho4 hb4; refine Hid.out ?_)
  refine Lib.hid ?_
  have hs4 := HB4.out.size
  have b4 : Below w.heap.size w w4 := b3.trans HB4.out
  go_wp2_with (at_builtin; refine wpList_append_where _ rfl _ _ 44 rfl w.heap.size 47 i0 (.agg #[.int .i64 0, .int .i64 0]) 2 16 Tryd.underlying44a hi hz0 hz1 hz2 rfl (by decide) _ 34 _ rfl (HO4.out.alloc _) ⟨w4.heap.size, 0, none⟩ 1 1 [.int .i64 0, .int .i64 15] rfl rfl (src_two _ _ _ _) two_one (by unfold maxLen; decide) (by decide) (by simp; omega) ?_; intro v5 w5 hown5 hgrow5 hloc5; have HO5 := Lib.hid hown5; have HG5 := Lib.hid hgrow5; clear hown5 hgrow5 hloc5)
  go_ret
  refine ⟨_, rfl, ?_, (b4.alloc (by omega) _).grown HG5.out (by simp; omega) (fun k e => (HO4.out.lt k e).1)⟩
  have h := HO5.out
  rw [show cellsA tab4 = (cellsA head4 ++ cellsA (fall 23 10 6) ++ cellsA (fall 35 11 12)) ++ [.int .i64 0, .int .i64 15] by unfold tab4; rw [cellsA_append, cellsA_append, cellsA_append]; rfl]
  exact h

end Go.Proofs.YtmampneedmodeaaDoor
