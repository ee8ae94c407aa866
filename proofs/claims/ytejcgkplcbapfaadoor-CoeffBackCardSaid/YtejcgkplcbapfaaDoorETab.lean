/- coeff's table: the codes of runs, and the func that hands each row to a range over it. -/
import Derived.Test.YtejcgkplcbapfaaDoorERef2
import Derived.Test.YtejcgkplcbapfaaDoorSeq
import Derived.Test.YtejcgkplcbapfaaDoorFld
import Derived.Deep.WholeRow
import Derived.OwnWalkIn
namespace Go.Proofs.YtejcgkplcbapfaaDoor
open Go.RowKit Go.Shelf
set_option linter.unusedVariables false
attribute [local go_sem] Oper.semAt_some

theorem stop_store8 {P : Program} {ops : Array Oper} {rest : List Oper} {o : Oper} {a : Act} {w : World} {Q : Exit → Act → World → Prop} (t : TypeId) (x y : Operand) (ho : o.op = .store t x y) (h : wpList P ops Q (o :: rest) a w) : wpList P ops Q (o :: rest) a w := h
def runs8 : Array Value := (strV rows8).toArray
theorem runs8_size : runs8.size = 27 := by decide +kernel
theorem runs8_info : (Tryd.prog.info? 79).map (·.size) = some runs8.size := by rw [runs8_size]; kernel_rfl
theorem runs8_one : runs8.all (·.oneCell') = true := by decide +kernel
set_option maxRecDepth 100000 in
set_option maxHeartbeats 1000000 in
theorem runs_any (w : World) :
    Calls Tryd.prog 55 #[] w fun e w' => e = .returned (.agg runs8) ∧ w' = w.alloc (.cells runs8 79 (0, 0)) := by
  go_enter Tryd.func55, Tryd.ntmps55
  go_wp2_with (with_reducible refine stop_store8 79 _ _ rfl ?_; refine Hid.out ?_)
  refine Lib.hid ?_
  refine wpList_store_rowTo rfl 79 _ _ rfl rfl w.heap.size runs8 rfl (by kernel_rfl) 79 _ (World.alloc_heap_new w _) runs8_info (by rw [runs8_size]; rfl) runs8_one ?_
  rw [World.setRow_alloc_new]
  generalize hT : runs8 = T at *
  have HT := Lib.hid hT
  clear hT
  go_wp2
  exact bodyPost_ret (v := .agg T) (results_cell_row rfl _ _ w.heap.size 79 T (0, 0) (.array 27 9) rfl (World.alloc_heap_new w _) (by kernel_rfl) rfl (by rw [← HT.out]; exact runs8_info)) rfl ⟨by rw [HT.out], by rw [HT.out]⟩

theorem runs_index0 (W : World) : (Instr.index 79 (.agg runs8) (.int .i64 ((0 : Nat) : Int))).run Tryd.prog W = .ok (.string (rowAt8 0)) W := by kernel_rfl
theorem runs_index1 (W : World) : (Instr.index 79 (.agg runs8) (.int .i64 ((1 : Nat) : Int))).run Tryd.prog W = .ok (.string (rowAt8 1)) W := by kernel_rfl
theorem runs_index2 (W : World) : (Instr.index 79 (.agg runs8) (.int .i64 ((2 : Nat) : Int))).run Tryd.prog W = .ok (.string (rowAt8 2)) W := by kernel_rfl
theorem runs_index3 (W : World) : (Instr.index 79 (.agg runs8) (.int .i64 ((3 : Nat) : Int))).run Tryd.prog W = .ok (.string (rowAt8 3)) W := by kernel_rfl
theorem runs_index4 (W : World) : (Instr.index 79 (.agg runs8) (.int .i64 ((4 : Nat) : Int))).run Tryd.prog W = .ok (.string (rowAt8 4)) W := by kernel_rfl
theorem runs_index5 (W : World) : (Instr.index 79 (.agg runs8) (.int .i64 ((5 : Nat) : Int))).run Tryd.prog W = .ok (.string (rowAt8 5)) W := by kernel_rfl
theorem runs_index6 (W : World) : (Instr.index 79 (.agg runs8) (.int .i64 ((6 : Nat) : Int))).run Tryd.prog W = .ok (.string (rowAt8 6)) W := by kernel_rfl
theorem runs_index7 (W : World) : (Instr.index 79 (.agg runs8) (.int .i64 ((7 : Nat) : Int))).run Tryd.prog W = .ok (.string (rowAt8 7)) W := by kernel_rfl
theorem runs_index8 (W : World) : (Instr.index 79 (.agg runs8) (.int .i64 ((8 : Nat) : Int))).run Tryd.prog W = .ok (.string (rowAt8 8)) W := by kernel_rfl
theorem runs_index9 (W : World) : (Instr.index 79 (.agg runs8) (.int .i64 ((9 : Nat) : Int))).run Tryd.prog W = .ok (.string (rowAt8 9)) W := by kernel_rfl
theorem runs_index10 (W : World) : (Instr.index 79 (.agg runs8) (.int .i64 ((10 : Nat) : Int))).run Tryd.prog W = .ok (.string (rowAt8 10)) W := by kernel_rfl
theorem runs_index11 (W : World) : (Instr.index 79 (.agg runs8) (.int .i64 ((11 : Nat) : Int))).run Tryd.prog W = .ok (.string (rowAt8 11)) W := by kernel_rfl
theorem runs_index12 (W : World) : (Instr.index 79 (.agg runs8) (.int .i64 ((12 : Nat) : Int))).run Tryd.prog W = .ok (.string (rowAt8 12)) W := by kernel_rfl
theorem runs_index13 (W : World) : (Instr.index 79 (.agg runs8) (.int .i64 ((13 : Nat) : Int))).run Tryd.prog W = .ok (.string (rowAt8 13)) W := by kernel_rfl
theorem runs_index14 (W : World) : (Instr.index 79 (.agg runs8) (.int .i64 ((14 : Nat) : Int))).run Tryd.prog W = .ok (.string (rowAt8 14)) W := by kernel_rfl
theorem runs_index15 (W : World) : (Instr.index 79 (.agg runs8) (.int .i64 ((15 : Nat) : Int))).run Tryd.prog W = .ok (.string (rowAt8 15)) W := by kernel_rfl
theorem runs_index16 (W : World) : (Instr.index 79 (.agg runs8) (.int .i64 ((16 : Nat) : Int))).run Tryd.prog W = .ok (.string (rowAt8 16)) W := by kernel_rfl
theorem runs_index17 (W : World) : (Instr.index 79 (.agg runs8) (.int .i64 ((17 : Nat) : Int))).run Tryd.prog W = .ok (.string (rowAt8 17)) W := by kernel_rfl
theorem runs_index18 (W : World) : (Instr.index 79 (.agg runs8) (.int .i64 ((18 : Nat) : Int))).run Tryd.prog W = .ok (.string (rowAt8 18)) W := by kernel_rfl
theorem runs_index19 (W : World) : (Instr.index 79 (.agg runs8) (.int .i64 ((19 : Nat) : Int))).run Tryd.prog W = .ok (.string (rowAt8 19)) W := by kernel_rfl
theorem runs_index20 (W : World) : (Instr.index 79 (.agg runs8) (.int .i64 ((20 : Nat) : Int))).run Tryd.prog W = .ok (.string (rowAt8 20)) W := by kernel_rfl
theorem runs_index21 (W : World) : (Instr.index 79 (.agg runs8) (.int .i64 ((21 : Nat) : Int))).run Tryd.prog W = .ok (.string (rowAt8 21)) W := by kernel_rfl
theorem runs_index22 (W : World) : (Instr.index 79 (.agg runs8) (.int .i64 ((22 : Nat) : Int))).run Tryd.prog W = .ok (.string (rowAt8 22)) W := by kernel_rfl
theorem runs_index23 (W : World) : (Instr.index 79 (.agg runs8) (.int .i64 ((23 : Nat) : Int))).run Tryd.prog W = .ok (.string (rowAt8 23)) W := by kernel_rfl
theorem runs_index24 (W : World) : (Instr.index 79 (.agg runs8) (.int .i64 ((24 : Nat) : Int))).run Tryd.prog W = .ok (.string (rowAt8 24)) W := by kernel_rfl
theorem runs_index25 (W : World) : (Instr.index 79 (.agg runs8) (.int .i64 ((25 : Nat) : Int))).run Tryd.prog W = .ok (.string (rowAt8 25)) W := by kernel_rfl
theorem runs_index26 (W : World) : (Instr.index 79 (.agg runs8) (.int .i64 ((26 : Nat) : Int))).run Tryd.prog W = .ok (.string (rowAt8 26)) W := by kernel_rfl
theorem runs_index {k : Nat} (hk : k < 27) (W : World) : (Instr.index 79 (.agg runs8) (.int .i64 k)).run Tryd.prog W = .ok (.string (rowAt8 k)) W := by
  have h : k = 0 ∨ k = 1 ∨ k = 2 ∨ k = 3 ∨ k = 4 ∨ k = 5 ∨ k = 6 ∨ k = 7 ∨ k = 8 ∨ k = 9 ∨ k = 10 ∨ k = 11 ∨ k = 12 ∨ k = 13 ∨ k = 14 ∨ k = 15 ∨ k = 16 ∨ k = 17 ∨ k = 18 ∨ k = 19 ∨ k = 20 ∨ k = 21 ∨ k = 22 ∨ k = 23 ∨ k = 24 ∨ k = 25 ∨ k = 26 := by omega
  rcases h with rfl | rfl | rfl | rfl | rfl | rfl | rfl | rfl | rfl | rfl | rfl | rfl | rfl | rfl | rfl | rfl | rfl | rfl | rfl | rfl | rfl | rfl | rfl | rfl | rfl | rfl | rfl
  · exact runs_index0 W
  · exact runs_index1 W
  · exact runs_index2 W
  · exact runs_index3 W
  · exact runs_index4 W
  · exact runs_index5 W
  · exact runs_index6 W
  · exact runs_index7 W
  · exact runs_index8 W
  · exact runs_index9 W
  · exact runs_index10 W
  · exact runs_index11 W
  · exact runs_index12 W
  · exact runs_index13 W
  · exact runs_index14 W
  · exact runs_index15 W
  · exact runs_index16 W
  · exact runs_index17 W
  · exact runs_index18 W
  · exact runs_index19 W
  · exact runs_index20 W
  · exact runs_index21 W
  · exact runs_index22 W
  · exact runs_index23 W
  · exact runs_index24 W
  · exact runs_index25 W
  · exact runs_index26 W

theorem etable_in (F : Fence) (n : Nat) (hf : F.fn 45) (hro : F.round = none) (first : Bool) (w : World) :
    CallsIn F n Tryd.prog 45 #[.bool first] w fun e w' => e = .returned (.func (.func 54) #[] #[.pointer (some ⟨w.heap.size, 0, none⟩)]) ∧ w' = w.alloc (.cells #[.bool first] 4) := by
  refine callsIn_of_wp Tryd.func45 rfl hf ?_ hro
  simp only [Tryd.ntmps45, List.size_toArray, List.length_cons, List.length_nil, Nat.reduceAdd, Nat.reduceSub, Array.replicate_succ, Array.replicate_zero, List.push_toArray, List.append_toArray, List.nil_append, List.cons_append]
  gi_wp2
  go_ret
  exact ⟨rfl, rfl⟩

/-! ### marks of loops over funcs that were left -/
/-- marks in the order in which they were pushed, the newest first -/
def Marks (B : Nat) (W : World) : Nat → List Deferred → Prop
  | _, [] => True
  | hi, d :: ds => ∃ D, d = { target := .collected D, args := #[] } ∧ B ≤ D ∧ D < hi ∧ W.heap[D]? = some (.deferred (some [])) ∧ Marks B W D ds
theorem Marks.up {B : Nat} {W : World} : ∀ {hi hi' : Nat} {ds : List Deferred}, Marks B W hi ds → hi ≤ hi' → Marks B W hi' ds
  | _, _, [], _, _ => trivial
  | _, _, _ :: _, ⟨D, h1, h2, h3, h4, h5⟩, h => ⟨D, h1, h2, Nat.lt_of_lt_of_le h3 h, h4, h5⟩
theorem Marks.keep {B : Nat} {W W' : World} : ∀ {hi : Nat} {ds : List Deferred}, Marks B W hi ds → (∀ D, B ≤ D → D < hi → W.heap[D]? = some (.deferred (some [])) → W'.heap[D]? = some (.deferred (some []))) → Marks B W' hi ds
  | _, [], _, _ => trivial
  | _, _ :: _, ⟨D, h1, h2, h3, h4, h5⟩, h => ⟨D, h1, h2, h3, h D h2 h3 h4, h5.keep (fun D' a b c => h D' a (Nat.lt_trans b h3) c)⟩
theorem leaves_marks {F : Fence} {n : Nat} {P : Program} {fn : Func} {tmps : Array Value} {R : Ending → World → Prop} {B : Nat} :
    ∀ (ds : List Deferred) (hi : Nat) (W : World), Marks B W hi ds → (∀ W', Below B W W' → ∃ v, (results fn tmps).run P W' = .ok v W' ∧ R (.returned v) W') → LeavesInM F n P fn tmps R ds .returning W
  | [], _, W, _, h => h W (Below.refl _ _)
  | d :: ds, hi, W, ⟨D, h1, h2, h3, h4, h5⟩, h => by
    subst h1
    have hlt := (Array.getElem?_eq_some_iff.1 h4).1
    have hb : Below B W (W.putObj D (.deferred none)) := (Below.refl _ W).grown (grownBy_putObj' W D _) (by omega) (fun k e => by cases e; omega)
    refine ⟨by simp, .inl ⟨_, _, rfl, run_takeDeferred h4, ?_⟩⟩
    refine leaves_marks ds D _ (h5.keep (fun D' a b c => (World.putObj_heap_other (by omega)).trans c)) (fun W' hb' => h W' (hb.trans hb'))

end Go.Proofs.YtejcgkplcbapfaaDoor
