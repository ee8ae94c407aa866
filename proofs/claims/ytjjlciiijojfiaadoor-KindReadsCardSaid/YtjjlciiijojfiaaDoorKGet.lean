/- Contracts of kind's table: kinds, codes, Of. The contract of kind's Put. A region that draws its order, inside any fence (a round of a range over a function too): what each operation keeps, whatever came up before it. The contract of kind's tree of codes, and of Get. -/
import Derived.Test.YtjjlciiijojfiaaDoorKRef
import Derived.Test.YtjjlciiijojfiaaDoorPGrow
import Derived.Deep.WholeRow
import Derived.Test.YtjjlciiijojfiaaDoorKit
import Derived.OwnWalkIn
/- Contracts of kind's table: kinds, codes, Of. -/
namespace Go.Proofs.YtjjlciiijojfiaaDoor
open Go.RowKit Go.Shelf
set_option linter.unusedVariables false

/-- a row of the table: a kind, its code, its parts -/
abbrev rowCells (n : Int) (s : ByteArray) (p : P5) : Array Value := #[.int .i64 n, .string s, .bool p.intra, .bool p.quant, .bool p.vector, .bool p.filter, .bool p.coded]
def rowAt (k : Nat) : Array Value := rowCells ((k : Int) + 1) (codes5[k]?.getD ⟨#[]⟩) (partsOf ((k : Int) + 1))
def tabCells : Array Value := (List.range 10).foldl (fun a k => a ++ rowAt k) #[]

theorem stop_store {P : Program} {ops : Array Oper} {rest : List Oper} {o : Oper} {a : Act} {w : World} {Q : Exit → Act → World → Prop} (t : TypeId) (x y : Operand) (ho : o.op = .store t x y) (h : wpList P ops Q (o :: rest) a w) : wpList P ops Q (o :: rest) a w := h
theorem tab_size : tabCells.size = 70 := by decide +kernel
theorem tab_info : (Tryd.prog.info? 59).map (·.size) = some tabCells.size := by rw [tab_size]; kernel_rfl
theorem tab_one : tabCells.all (·.oneCell') = true := by decide +kernel
set_option maxRecDepth 100000 in
set_option maxHeartbeats 1000000 in
theorem kinds_any (w : World) :
    Calls Tryd.prog 30 #[] w fun e w' => e = .returned (.agg tabCells) ∧ w' = w.alloc (.cells tabCells 59 (0, 0)) := by
  go_enter Tryd.func30, Tryd.ntmps30
  go_wp2_with (with_reducible refine stop_store 59 _ _ rfl ?_; refine Hid.out ?_)
  refine Lib.hid ?_
  refine wpList_store_rowTo rfl 59 _ _ rfl rfl w.heap.size tabCells rfl (by kernel_rfl) 59 _ (World.alloc_heap_new w _) tab_info (by rw [tab_size]; rfl) tab_one ?_
  rw [World.setRow_alloc_new]
  generalize hT : tabCells = T at *
  have HT := Lib.hid hT
  clear hT
  go_wp2
  exact bodyPost_ret (v := .agg T) (results_cell_row rfl _ _ w.heap.size 59 T (0, 0) (.array 10 57) rfl (World.alloc_heap_new w _) (by kernel_rfl) rfl (by rw [← HT.out]; exact tab_info)) rfl ⟨by rw [HT.out], by rw [HT.out]⟩

theorem wpListIn_load_row {F : Fence} {n : Nat} {P : Program} {ops : Array Oper} {rest : List Oper} {o : Oper} {a : Act} {w : World} {Q : Exit → Act → World → Prop} (hgd : o.guard = none) (ty : TypeId) (x : Operand) (ho : o.op = .load ty x)
    (g : Nat) (hx : a.eval x = .pointer (some ⟨g, 0, none⟩)) (t : TypeId) (cs : Array Value) (fr : Nat × Nat) (d : TypeDesc) (hg : w.heap[g]? = some (.cells cs t fr))
    (hu : P.underlying ty = some d) (hd : (match d with | .struct _ | .array _ _ => true | _ => false) = true) (hi : (P.info? ty).map (·.size) = some cs.size)
    (h : wpListIn F n P ops Q rest (a.put o.dst (.agg cs)) w) : wpListIn F n P ops Q (o :: rest) a w := by
  refine wpListIn_plain hgd fun K hK' => ?_
  unfold Oper.wpIn
  refine ⟨?_, ?_⟩
  · simp [Oper.about, ho]
  · rw [Oper.semAt_plain F _ _ (by rw [ho]; intro c hc'; cases hc')]
    unfold execOp
    simp only [ho, hx, Instr.loadAt, Instr.sureAddr, Sem.run_bind, Sem.run_pure, Result.andThen_ok, run_loadVar_row w g t ty cs fr d hg hu hd hi]
    exact hK' _ _ h
theorem kcodes_in (F : Fence) (n : Nat) (hf : F.fn 31) (hro : F.round = none) (w : World) :
    CallsIn F n Tryd.prog 31 #[.agg tabCells] w fun e w' => e = .returned (.func (.func 48) #[] #[.pointer (some ⟨w.heap.size, 0, none⟩)]) ∧ w' = w.alloc (.cells tabCells 59) := by
  generalize tabCells = T
  refine callsIn_of_wp Tryd.func31 rfl hf ?_ hro
  simp only [Tryd.ntmps31, List.size_toArray, List.length_cons, List.length_nil, Nat.reduceAdd, Nat.reduceSub, Array.replicate_succ, Array.replicate_zero, List.push_toArray, List.append_toArray, List.nil_append, List.cons_append]
  gi_wp2
  go_ret
  exact ⟨rfl, rfl⟩

/-- what codes hands to a round -/
abbrev encK (k : Nat) : Array Value := #[.string (codes5[k]?.getD ⟨#[]⟩), .int .i64 ((k : Int) + 1)]
theorem tab_index0 (W : World) : (Instr.index 59 (.agg tabCells) (.int .i64 ((0 : Nat) : Int))).run Tryd.prog W = .ok (.agg (rowAt 0)) W := by kernel_rfl
theorem tab_index1 (W : World) : (Instr.index 59 (.agg tabCells) (.int .i64 ((1 : Nat) : Int))).run Tryd.prog W = .ok (.agg (rowAt 1)) W := by kernel_rfl
theorem tab_index2 (W : World) : (Instr.index 59 (.agg tabCells) (.int .i64 ((2 : Nat) : Int))).run Tryd.prog W = .ok (.agg (rowAt 2)) W := by kernel_rfl
theorem tab_index3 (W : World) : (Instr.index 59 (.agg tabCells) (.int .i64 ((3 : Nat) : Int))).run Tryd.prog W = .ok (.agg (rowAt 3)) W := by kernel_rfl
theorem tab_index4 (W : World) : (Instr.index 59 (.agg tabCells) (.int .i64 ((4 : Nat) : Int))).run Tryd.prog W = .ok (.agg (rowAt 4)) W := by kernel_rfl
theorem tab_index5 (W : World) : (Instr.index 59 (.agg tabCells) (.int .i64 ((5 : Nat) : Int))).run Tryd.prog W = .ok (.agg (rowAt 5)) W := by kernel_rfl
theorem tab_index6 (W : World) : (Instr.index 59 (.agg tabCells) (.int .i64 ((6 : Nat) : Int))).run Tryd.prog W = .ok (.agg (rowAt 6)) W := by kernel_rfl
theorem tab_index7 (W : World) : (Instr.index 59 (.agg tabCells) (.int .i64 ((7 : Nat) : Int))).run Tryd.prog W = .ok (.agg (rowAt 7)) W := by kernel_rfl
theorem tab_index8 (W : World) : (Instr.index 59 (.agg tabCells) (.int .i64 ((8 : Nat) : Int))).run Tryd.prog W = .ok (.agg (rowAt 8)) W := by kernel_rfl
theorem tab_index9 (W : World) : (Instr.index 59 (.agg tabCells) (.int .i64 ((9 : Nat) : Int))).run Tryd.prog W = .ok (.agg (rowAt 9)) W := by kernel_rfl
theorem tab_index {k : Nat} (hk : k < 10) (W : World) : (Instr.index 59 (.agg tabCells) (.int .i64 k)).run Tryd.prog W = .ok (.agg (rowAt k)) W := by
  have h : k = 0 ∨ k = 1 ∨ k = 2 ∨ k = 3 ∨ k = 4 ∨ k = 5 ∨ k = 6 ∨ k = 7 ∨ k = 8 ∨ k = 9 := by omega
  rcases h with rfl | rfl | rfl | rfl | rfl | rfl | rfl | rfl | rfl | rfl
  · exact tab_index0 W
  · exact tab_index1 W
  · exact tab_index2 W
  · exact tab_index3 W
  · exact tab_index4 W
  · exact tab_index5 W
  · exact tab_index6 W
  · exact tab_index7 W
  · exact tab_index8 W
  · exact tab_index9 W

theorem KpB.alloc {m bx by_ : Nat} {A B : World} (h : KpB m bx by_ A B) (hm : m ≤ B.heap.size) (h1 : bx < B.heap.size) (h2 : by_ < B.heap.size) (o : Obj) : KpB m bx by_ A (B.alloc o) :=
  ⟨h.1.alloc hm o, (World.cell?_alloc_old _ _ _ (Nat.ne_of_lt h1)).trans h.2.1, (World.cell?_alloc_old _ _ _ (Nat.ne_of_lt h2)).trans h.2.2⟩
set_option maxRecDepth 100000 in
set_option maxHeartbeats 2000000 in
theorem kcodes1_in (n : Nat) (hn : 1 ≤ n) (l m bb : Nat) (J Jx : List Nat → World → Prop) (W : World) (hm : m ≤ W.heap.size) (hJ : ∀ pre A o, J pre A → J pre (A.alloc o))
    (hY : ∀ pre x W, J pre W → pre.length < 10 → YieldAt Fence.wide (n - 1) Tryd.prog l (encK x) W fun e W' =>
      (e = .returned (.bool true) ∧ J (pre ++ [x]) W' ∧ KpB m bb bb W W') ∨ (e = .returned (.bool false) ∧ Jx (pre ++ [x]) W'))
    (hbb : W.heap[bb]? = some (.cells tabCells 59 (0, 0))) (h0 : J [] W) :
    CallsIn Fence.wide n Tryd.prog 48 #[.func (.yield l) #[] #[], .pointer (some ⟨bb, 0, none⟩)] W fun e W' => (∃ v, e = .returned v) ∧
      ((∃ ys, ys = List.range 10 ∧ J ys W') ∨ (∃ pre, (∃ k, k < 10 ∧ pre = List.range (k + 1)) ∧ Jx pre W')) := by
  have HI := Lib.hid (fun (k : Nat) (hk : k < 10) (W : World) => tab_index hk W)
  have hbs : bb < W.heap.size := (Array.getElem?_eq_some_iff.1 hbb).1
  have HL := Lib.hid hbb
  have HTI := Lib.hid tab_info
  clear hbb
  generalize tabCells = T at *
  refine callsIn_of_wp Tryd.func48 rfl trivial ?_ rfl
  simp only [Tryd.ntmps48, List.size_toArray, List.length_cons, List.length_nil, Nat.reduceAdd, Nat.reduceSub, Array.replicate_succ, Array.replicate_zero, List.push_toArray, List.append_toArray, List.nil_append, List.cons_append]
  gi_wp2_with (with_reducible refine wpListIn_load_row rfl 59 _ rfl bb rfl 59 T (0, 0) (.array 10 57) HL.out (by kernel_rfl) rfl HTI.out ?_)
  gi_loopw [6] (fun p wr => ∃ k : Nat, k ≤ 10 ∧ p = .int .i64 (k : Int) ∧ J (List.range k) wr ∧ KpB m bb bb W wr)
    (fun p _ => 10 - (intOf p).toNat)
  case atStart => exact ⟨0, Nat.zero_le _, rfl, h0, KpB.rfl⟩
  case round =>
    obtain ⟨k, hk, rfl, hJs, hK⟩ := hrel
    have hsz := hK.1.size
    by_cases hlt : k < 10
    · have hix := fun W => HI.out k hlt W
      unfold rowAt at hix
      have hJs2 := hJ _ _ (.cells (rowAt k) 57) hJs
      obtain ⟨fn, tmps, assign, body, hy, hR⟩ := hY _ k _ hJs2 (by simpa using hlt)
      unfold rowAt at hJs2 hy hR
      simp only [encK] at hy
      generalize codes5[k]?.getD ⟨#[]⟩ = s at *
      generalize partsOf ((k : Int) + 1) = p at *
      obtain ⟨p1, p2, p3, p4, p5⟩ := p
      clear hJs2
      gi_wp2
      refine hR.mono ?_
      rintro e W3 (⟨rfl, hJ3, hk3⟩ | ⟨rfl, hJx3⟩)
      · gi_wp2
        go_roundw
        case rel => exact ⟨k + 1, by omega, by go_num, by rw [List.range_succ]; exact hJ3, (hK.alloc (by omega) (by omega) (by omega) _).t hk3⟩
        case measure => simp [intOf]; omega
      · gi_wp2
        refine bodyPost_ret (results_none rfl _ _ _) rfl ?_
        exact ⟨⟨_, rfl⟩, .inr ⟨_, ⟨k, hlt, by rw [List.range_succ]⟩, hJx3⟩⟩
    · obtain rfl : k = 10 := by omega
      gi_wp2
      go_end0
      exact ⟨⟨_, rfl⟩, .inl ⟨_, rfl, hJs⟩⟩

theorem kcodes_stops (n : Nat) (hn : 1 ≤ n) (m bb : Nat) (w : World) (hm : m ≤ w.heap.size) (hbb : w.heap[bb]? = some (.cells tabCells 59 (0, 0))) :
    SeqStopsK Fence.wide n Tryd.prog 48 #[.pointer (some ⟨bb, 0, none⟩)] encK (KpB m bb bb) (fun ys => ys = List.range 10) (fun pre => ∃ k, k < 10 ∧ pre = List.range (k + 1)) 10 w := fun l J Jx W hW hJ _ hY h0 =>
  kcodes1_in n hn l m bb J Jx W (Nat.le_trans hm hW.size) (fun pre A o hj => hJ pre A _ none hj (World.grownBy_alloc A o none) (fun r e => by cases e)) hY
    ((hW.block bb (Array.getElem?_eq_some_iff.1 hbb).1).trans hbb) h0

theorem five_free {w : World} {g : Nat} {p : P5} (h : w.heap[g]? = some (partsO p)) (j : Nat) : w.frozen? ⟨g, j, none⟩ = false := Lib.frozen_of_heap h j
set_option maxRecDepth 100000 in
set_option maxHeartbeats 2000000 in
theorem kof_any (n : Int) (w : World) :
    Calls Tryd.prog 15 #[.int .i64 n] w fun e w' => e = .returned (.tuple #[partsV (partsOf n), .int .i64 (ofE n)]) ∧ Below w.heap.size w w' := by
  have HI := Lib.hid (fun (k : Nat) (hk : k < 10) (W : World) => tab_index hk W)
  have HK := Lib.hid (fun W => kinds_any W)
  generalize tabCells = T at *
  generalize hp : partsOf n = p
  generalize hE : ofE n = E
  have HE := Lib.hid hE
  have HP := Lib.hid hp
  clear hE hp
  obtain ⟨p1, p2, p3, p4, p5⟩ := p
  go_enter Tryd.func15, Tryd.ntmps15
  go_wp2_with (go_at_call 30; refine (HK.out _).mono ?_; rintro e w' ⟨rfl, rfl⟩)
  go_loopw [7] (fun i wr => ∃ k : Nat, k ≤ 10 ∧ i = .int .i64 (k : Int) ∧ (n < 1 ∨ (k : Int) < n) ∧ Below w.heap.size w wr ∧ wr.heap[w.heap.size]? = some (partsO ⟨false, false, false, false, false⟩))
    (fun i _ => 10 - (intOf i).toNat)
  case atStart => exact ⟨0, Nat.zero_le _, rfl, by omega, ((Below.refl _ w).alloc (Nat.le_refl _) _).alloc (by simp) _, by rw [Below.heap_alloc _ _ _ (by simp)]; exact World.alloc_heap_new _ _⟩
  case round =>
    obtain ⟨k, hk, rfl, hn, hB, hC⟩ := hrel
    have hsz := hB.size
    obtain ⟨c0, c1, c2, c3, c4⟩ := five_cells hC
    have f0 := five_free hC 0
    have f1 := five_free hC 1
    have f2 := five_free hC 2
    have f3 := five_free hC 3
    have f4 := five_free hC 4
    have hlt0 : w.heap.size < wr.heap.size := (Array.getElem?_eq_some_iff.1 hC).1
    have HB := Lib.hid hB
    have HC := Lib.hid hC
    clear hB hC
    by_cases hlt : k < 10
    · have hix := fun W => HI.out k hlt W
      unfold rowAt at hix
      generalize codes5[k]?.getD ⟨#[]⟩ = s at *
      by_cases he : (k : Int) + 1 = n
      · have e2 : partsOf ((k : Int) + 1) = ⟨p1, p2, p3, p4, p5⟩ := by rw [he]; exact HP.out
        rw [e2] at hix
        have hE0 : Hid (E = 0) := by
          have := HE.out
          unfold ofE at this
          rw [if_neg (by omega)] at this
          exact Lib.hid this.symm
        have hq : (((k : Int) + 1) == n) = true := by simp [he]
        clear he e2
        go_wp2
        refine bodyPost_ret (v := .tuple #[partsV ⟨p1, p2, p3, p4, p5⟩, .int .i64 0]) (by simp [results, Tryd.f15, go_sem, hlt0, c0, c1, c2, c3, c4]) rfl ⟨by rw [hE0.out], ?_⟩
        exact (((((HB.out.setCell (p := ⟨w.heap.size, 0, none⟩) (Nat.le_refl _) _).setCell (p := ⟨w.heap.size, 1, none⟩) (Nat.le_refl _) _).setCell (p := ⟨w.heap.size, 2, none⟩) (Nat.le_refl _) _).setCell (p := ⟨w.heap.size, 3, none⟩) (Nat.le_refl _) _).setCell (p := ⟨w.heap.size, 4, none⟩) (Nat.le_refl _) _).alloc (by simp; omega) _
      · have hq : (((k : Int) + 1) == n) = false := by simp [he]
        generalize partsOf ((k : Int) + 1) = q at *
        obtain ⟨q1, q2, q3, q4, q5⟩ := q
        go_wp2
        go_roundw
        case rel => exact ⟨k + 1, by omega, by go_num, by omega, HB.out.alloc hsz _, heap_keep HC.out _⟩
        case measure => simp [intOf]; omega
    · obtain rfl : k = 10 := by omega
      have hno : n < 1 ∨ 10 < n := by omega
      have hP0 : Hid ((⟨p1, p2, p3, p4, p5⟩ : P5) = ⟨false, false, false, false, false⟩) := by
        have := HP.out
        unfold partsOf at this
        rw [if_pos hno] at this
        exact Lib.hid this.symm
      have hE0 : Hid (E = 18) := by
        have := HE.out
        unfold ofE at this
        rw [if_pos hno] at this
        exact Lib.hid this.symm
      clear hn hno
      go_wp2
      refine bodyPost_ret (v := .tuple #[partsV ⟨false, false, false, false, false⟩, .int .i64 18]) (by simp [results, Tryd.f15, go_sem, c0, c1, c2, c3, c4]) rfl ⟨by rw [hE0.out, hP0.out], ?_⟩
      exact ((((HB.out.setCell (p := ⟨w.heap.size, 0, none⟩) (Nat.le_refl _) _).setCell (p := ⟨w.heap.size, 1, none⟩) (Nat.le_refl _) _).setCell (p := ⟨w.heap.size, 2, none⟩) (Nat.le_refl _) _).setCell (p := ⟨w.heap.size, 3, none⟩) (Nat.le_refl _) _).setCell (p := ⟨w.heap.size, 4, none⟩) (Nat.le_refl _) _

end Go.Proofs.YtjjlciiijojfiaaDoor

/- The contract of kind's Put. -/
namespace Go.Proofs.YtjjlciiijojfiaaDoor
open Go.RowKit Go.Shelf
set_option linter.unusedVariables false
attribute [local go_sem] Oper.semAt_some

theorem put5_yes {k : Nat} (hk : k < 10) : putS codes5 nums5 ((k : Int) + 1) = codes5[k]?.getD ⟨#[]⟩ ∧ putE3 nums5 ((k : Int) + 1) = 0 := by
  have h : k = 0 ∨ k = 1 ∨ k = 2 ∨ k = 3 ∨ k = 4 ∨ k = 5 ∨ k = 6 ∨ k = 7 ∨ k = 8 ∨ k = 9 := by omega
  rcases h with rfl | rfl | rfl | rfl | rfl | rfl | rfl | rfl | rfl | rfl <;> exact ⟨rfl, rfl⟩
theorem put5_no {n : Int} (h : ∀ k : Nat, k < 10 → (k : Int) + 1 ≠ n) : putS codes5 nums5 n = ⟨#[]⟩ ∧ putE3 nums5 n = 18 := by
  have hn : n < 1 ∨ 10 < n := by
    false_or_by_contra
    exact h (n - 1).toNat (by omega) (by omega)
  have e : putI nums5 n = none := by
    unfold putI nums5
    rw [List.findIdx?_eq_none_iff]
    intro x hx
    simp at hx
    rw [beq_eq_false_iff_ne]
    omega
  unfold putS putE3
  rw [e]
  exact ⟨rfl, rfl⟩

/-- the boxes of a call of Put -/
structure PutBoxes (W : World) (m : Nat) (n : Int) (s : ByteArray) (e : Int) : Prop where
  arg : W.heap[m]? = some (.cells #[.int .i64 n] 3 (0, 0))
  ra : W.heap[m + 1]? = some (.cells #[.string s] 9 (0, 0))
  rb : W.heap[m + 1 + 1]? = some (.cells #[.int .i64 e] 25 (0, 0))
theorem PutBoxes.kept {W W' : World} {row : Option Nat} {m : Nat} {n : Int} {s : ByteArray} {e : Int} (h : PutBoxes W m n s e) (hg : W.grownBy W' row) (hr : ∀ r, row = some r → ∃ o : Obj, W.heap[r]? = some o ∧ o.isCells = false) : PutBoxes W' m n s e :=
  ⟨(grownBy_keeps_cells hg hr h.arg rfl).trans h.arg, (grownBy_keeps_cells hg hr h.ra rfl).trans h.ra, (grownBy_keeps_cells hg hr h.rb rfl).trans h.rb⟩
/-- between two rounds of Put -/
structure PutI5 (w : World) (n : Int) (pre : List Nat) (W : World) : Prop where
  below : Below w.heap.size w W
  size : w.heap.size + 4 ≤ W.heap.size
  boxes : PutBoxes W w.heap.size n ⟨#[]⟩ 0
  none : ∀ k, k ∈ pre → (k : Int) + 1 ≠ n
structure PutX5 (w : World) (n : Int) (pre : List Nat) (W : World) : Prop where
  below : Below w.heap.size w W
  boxes : ∃ k, pre.getLast? = some k ∧ (k : Int) + 1 = n ∧ PutBoxes W w.heap.size n (codes5[k]?.getD ⟨#[]⟩) 0

set_option maxRecDepth 100000 in
set_option maxHeartbeats 4000000 in
theorem kput_in (n : Nat) (hn : 4 ≤ n) (x : Int) (w : World) :
    CallsIn Fence.wide n Tryd.prog 13 #[.int .i64 x] w fun e w' => e = .returned (.tuple #[.string (putS codes5 nums5 x), .int .i64 (putE3 nums5 x)]) ∧ Below w.heap.size w w' := by
  have hn1 : 1 ≤ n := by omega
  have HK := Lib.hid (fun W => kinds_any W)
  have HC := Lib.hid (fun W => kcodes_in Fence.wide (n - 1) trivial rfl W)
  have HS := Lib.hid (fun (w : World) (bb m : Nat) (hm : m ≤ w.heap.size) h => kcodes_stops (n - 1) (by omega) m bb w hm h)
  generalize tabCells = T at *
  refine callsIn_of_wp_marks Tryd.func13 rfl trivial ?_ rfl
  simp only [Tryd.ntmps13, List.size_toArray, List.length_cons, List.length_nil, Nat.reduceAdd, Nat.reduceSub, Array.replicate_succ, Array.replicate_zero, List.push_toArray, List.append_toArray, List.nil_append, List.cons_append]
  gi_wp2_with (first | (refine ⟨trivial, ?_⟩; gi_at_call 30; refine (callsIn_wide.2 (HK.out _)).mono ?_; rintro e w' ⟨rfl, rfl⟩) | (refine ⟨trivial, ?_⟩; gi_at_call 31; refine (HC.out _).mono ?_; rintro e w' ⟨rfl, rfl⟩))
  have hB5 : Below w.heap.size w (((((w.alloc (Obj.cells #[Value.int IntKind.i64 x] 3)).alloc (Obj.cells #[Value.string { data := #[] }] 9)).alloc (Obj.cells #[Value.int IntKind.i64 0] 25)).alloc (Obj.cells T 59)).alloc (Obj.cells T 59)) :=
    (((((Below.refl _ w).alloc (Nat.le_refl _) _).alloc (by simp) _).alloc (by simp; omega) _).alloc (by simp; omega) _).alloc (by simp; omega) _
  refine wpIn_rangeFunc_ownF rfl hn1 (gf := 48) (lb := #[.pointer (some ⟨w.heap.size + 1 + 1 + 1 + 1, 0, none⟩)]) rfl trivial (enters_of Tryd.func48 (by kernel_rfl) rfl)
    (HS.out _ (w.heap.size + 1 + 1 + 1 + 1) w.heap.size (by simp; omega) (heap_new _ (by simp) _)) KpB.t (KpB.b (by simp; omega) (by simp) (by simp)) (Below.refl _ _) (fun _ => rfl)
    (fun pre W => PutI5 w x pre W)
    (fun c pre W => c = .ret ∧ PutX5 w x pre W)
    ?own ?ownx ?start
    (fun k => { tmps := #[Value.int IntKind.i64 x, Value.pointer (some { block := w.heap.size, off := 0 }),
              Value.pointer (some { block := w.heap.size + 1, off := 0 }),
              Value.pointer (some { block := w.heap.size + 1 + 1, off := 0 }), .string (codes5[k]?.getD ⟨#[]⟩), .int .i64 ((k : Int) + 1), Value.agg T,
              Value.func (Fn.func 48) #[] #[Value.pointer (some { block := w.heap.size + 1 + 1 + 1 + 1, off := 0 })], .string (codes5[k]?.getD ⟨#[]⟩), .int .i64 ((k : Int) + 1),
              undef, undef, undef, undef], defers := [] }) ?assign ?body ?done ?stop
  case own =>
    intro pre A B row hI hg' hr
    have hr2 : ∀ r, row = some r → ∃ o : Obj, A.heap[r]? = some o ∧ o.isCells = false := fun r e => (hr r e).2
    obtain ⟨h1, h2, h3, h4⟩ := hI
    exact ⟨h1.grown hg' h1.size (fun r e => by have := (hr r e).1; simp at this; omega), Nat.le_trans h2 hg'.size, h3.kept hg' hr2, h4⟩
  case ownx =>
    intro c pre A B row hI hg' hr
    have hr2 : ∀ r, row = some r → ∃ o : Obj, A.heap[r]? = some o ∧ o.isCells = false := fun r e => (hr r e).2
    obtain ⟨hc, h1, k, h2, h4, h3⟩ := hI
    exact ⟨hc, h1.grown hg' h1.size (fun r e => by have := (hr r e).1; simp at this; omega), k, h2, h4, h3.kept hg' hr2⟩
  case start =>
    exact ⟨hB5, by simp, ⟨heap_keep (heap_keep (heap_keep (heap_keep (heap_new _ rfl _) _) _) _) _, heap_keep (heap_keep (heap_keep (heap_new _ (by simp) _) _) _) _, heap_keep (heap_keep (heap_new _ (by simp) _) _) _⟩, fun k hk => by simp at hk⟩
  case assign =>
    intro l k W K hK
    gi_wp2
    exact hK
  case body =>
    rintro l pre k W ⟨hBW, hW, hX, hno⟩ hlt
    obtain ⟨c0, _⟩ := one_cell hX.arg
    obtain ⟨c1, f1⟩ := one_cell hX.ra
    obtain ⟨c2, f2⟩ := one_cell hX.rb
    have HBW := Lib.hid hBW
    have HX := Lib.hid hX
    clear hBW hX
    by_cases hq : (k : Int) + 1 = x
    · have hb : (((k : Int) + 1) == x) = true := by simp [hq]
      have HQ := Lib.hid hq
      clear hq hno
      gi_wp2
      refine ⟨(KeepsOthers.setCell _ _ _).trans (KeepsOthers.setCell _ _ _), rfl, (HBW.out.setCell (p := ⟨w.heap.size + 1, 0, none⟩) (by simp) _).setCell (p := ⟨w.heap.size + 1 + 1, 0, none⟩) (by simp; omega) _, k, by simp, HQ.out, ?_, ?_, ?_⟩
      · exact (Below.heap_setCell _ _ _ _ (by simp; omega)).trans ((Below.heap_setCell _ _ _ _ (by simp)).trans HX.out.arg)
      · exact (Below.heap_setCell _ _ _ _ (by simp)).trans (heap_setCell_same _ (w.heap.size + 1) 0 _ _ _ HX.out.ra)
      · exact heap_setCell_same _ (w.heap.size + 1 + 1) 0 _ _ _ ((Below.heap_setCell _ _ _ _ (by simp)).trans HX.out.rb)
    · have hb : (((k : Int) + 1) == x) = false := by simp [hq]
      have HQ := Lib.hid hq
      have HN := Lib.hid hno
      clear hq hno
      gi_wp2
      refine ⟨KeepsOthers.refl _, KpB.rfl, HBW.out, hW, HX.out, fun j hj => ?_⟩
      rcases List.mem_append.1 hj with h | h
      · exact HN.out j h
      · simp at h; subst h; exact HQ.out
  case done =>
    rintro D ys W hD rfl ⟨hBW, hW, hX, hno⟩ hK
    have hD' : w.heap.size ≤ D := by simp only [World.size_alloc] at hD; omega
    have HP := Lib.hid (put5_no (n := x) (fun k hk => hno k (by simp; exact hk)))
    obtain ⟨c1, f1⟩ := one_cell hX.ra
    obtain ⟨c2, f2⟩ := one_cell hX.rb
    clear hno
    gi_wp2
    have hKO : KeepsOthers W ((W.setCell ⟨w.heap.size + 1, 0, none⟩ (.string ⟨#[]⟩)).setCell ⟨w.heap.size + 1 + 1, 0, none⟩ (.int .i64 18)) := (KeepsOthers.setCell _ _ _).trans (KeepsOthers.setCell _ _ _)
    have hK' := hKO.same D _ hK rfl
    refine ⟨by simp, .inl ⟨_, _, rfl, run_takeDeferred hK', ?_⟩⟩
    have hX1 : ((W.setCell ⟨w.heap.size + 1, 0, none⟩ (.string ⟨#[]⟩)).setCell ⟨w.heap.size + 1 + 1, 0, none⟩ (.int .i64 18)).heap[w.heap.size + 1]? = some (.cells #[.string ⟨#[]⟩] 9 (0, 0)) :=
      (Below.heap_setCell _ _ _ _ (by simp)).trans (heap_setCell_same _ (w.heap.size + 1) 0 _ _ _ hX.ra)
    have hX2 : ((W.setCell ⟨w.heap.size + 1, 0, none⟩ (.string ⟨#[]⟩)).setCell ⟨w.heap.size + 1 + 1, 0, none⟩ (.int .i64 18)).heap[w.heap.size + 1 + 1]? = some (.cells #[.int .i64 18] 25 (0, 0)) :=
      heap_setCell_same _ (w.heap.size + 1 + 1) 0 _ _ _ ((Below.heap_setCell _ _ _ _ (by simp)).trans hX.rb)
    have g0 := (one_cell ((grownBy_keeps_cells (grownBy_putObj' _ D (.deferred none)) (fun r e => by cases e; exact ⟨_, hK', rfl⟩) hX1 rfl).trans hX1)).1
    have g1 := (one_cell ((grownBy_keeps_cells (grownBy_putObj' _ D (.deferred none)) (fun r e => by cases e; exact ⟨_, hK', rfl⟩) hX2 rfl).trans hX2)).1
    refine ⟨.tuple #[.string ⟨#[]⟩, .int .i64 18], by simp [results, Tryd.f13, go_sem, g0, g1], by rw [HP.out.1, HP.out.2], ?_⟩
    exact ((hBW.setCell (p := ⟨w.heap.size + 1, 0, none⟩) (by simp) _).setCell (p := ⟨w.heap.size + 1 + 1, 0, none⟩) (by simp; omega) _).trans (belowK_b (w := w) (Nat.le_refl _) _ D _ _ hD' hK' rfl rfl)
  case stop =>
    rintro D c pre W hD ⟨k, hk, rfl⟩ ⟨rfl, hBW, j, hj, hjx, hX⟩ hK
    have hjk : j = k := by rw [List.range_succ] at hj; simp at hj; omega
    subst hjk
    have HP := Lib.hid (put5_yes hk)
    rw [hjx] at HP
    clear hj hjx
    gi_wp2
    refine ⟨by simp, .inl ⟨_, _, rfl, run_takeDeferred hK, ?_⟩⟩
    have hX5 := hX.kept (grownBy_putObj' _ D (.deferred none)) (fun r e => by cases e; exact ⟨_, hK, rfl⟩)
    have g0 := (one_cell hX5.ra).1
    have g1 := (one_cell hX5.rb).1
    refine ⟨.tuple #[.string (codes5[j]?.getD ⟨#[]⟩), .int .i64 0], by simp [results, Tryd.f13, go_sem, g0, g1], by rw [HP.out.1, HP.out.2], ?_⟩
    exact hBW.trans (belowK_b (w := w) (Nat.le_refl _) _ D _ _ (by simp only [World.size_alloc] at hD; omega) hK rfl rfl)

theorem kput_any (x : Int) (w : World) :
    Calls Tryd.prog 13 #[.int .i64 x] w fun e w' => e = .returned (.tuple #[.string (putS codes5 nums5 x), .int .i64 (putE3 nums5 x)]) ∧ Below w.heap.size w w' := callsIn_wide.1 (kput_in 4 (by omega) x w)

end Go.Proofs.YtjjlciiijojfiaaDoor

/- A region that draws its order, inside any fence (a round of a range over a function too): what each operation keeps, whatever came up before it. -/
namespace Go.Proofs.YtjjlciiijojfiaaDoor
open Go.RowKit Go.Shelf
set_option linter.unusedVariables false

/-- what has come up -/
def upB (L : Array Bool) (j : Nat) : Bool := L.getD j false
/-- what an operation stands behind has come up -/
def Behind (o : Oper) (L : Nat → Bool) : Prop := ∀ e ∈ o.after, Region.binds .any e = true → L e.on = true
/-- whatever has come up, all that it stands behind has -/
def ClosedB (ops : Array Oper) (L : Nat → Bool) : Prop := ∀ i o, ops[i]? = some o → L i = true → Behind o L
def setB (L : Nat → Bool) (i j : Nat) : Bool := if j = i then true else L j
theorem setB_same (L : Nat → Bool) (i : Nat) : setB L i i = true := by simp [setB]
theorem setB_ne {L : Nat → Bool} {i j : Nat} (h : j ≠ i) : setB L i j = L j := by simp [setB, h]

def offs (L : Array Bool) : Nat := (L.toList.filter (!·)).length
theorem offs_set {L : Array Bool} {i : Nat} (h : L.getD i true = false) : offs (L.setIfInBounds i true) + 1 = offs L := by
  have hi : i < L.size := by
    false_or_by_contra
    simp [Array.getD, show ¬ i < L.size by omega] at h
  have hg : L[i] = false := by simpa [Array.getD, hi] using h
  unfold offs
  rw [Array.toList_setIfInBounds]
  have hs : L.toList = L.toList.take i ++ (false :: L.toList.drop (i + 1)) := by
    conv => lhs; rw [← List.take_append_drop i L.toList]
    rw [List.drop_eq_getElem_cons (by simpa using hi)]
    simp [hg]
  have hset : L.toList.set i true = L.toList.take i ++ (true :: L.toList.drop (i + 1)) := by
    rw [List.set_eq_take_append_cons_drop, if_pos (by simpa using hi)]
  rw [hset]
  conv => rhs; rw [hs]
  simp only [List.filter_append, List.length_append, List.filter_cons, Bool.not_true, Bool.not_false, if_true, List.length_cons]
  simp
  omega
theorem offs_zero {L : Array Bool} (h : offs L = 0) (j : Nat) (hj : j < L.size) : L.getD j true = true := by
  unfold offs at h
  have h' := List.eq_nil_of_length_eq_zero h
  rw [List.filter_eq_nil_iff] at h'
  have := h' L[j] (by simp)
  simpa [Array.getD, hj] using this
theorem upB_set {L : Array Bool} {i : Nat} (hi : i < L.size) : upB (L.setIfInBounds i true) = setB (upB L) i := by
  funext j
  unfold upB setB
  by_cases h : j = i
  · subst h
    simp [Array.getD, hi]
  · rw [if_neg h, getD_set_ne false (fun e => h e.symm)]

variable {F : Fence} {n : Nat} {P : Program} {ops : Array Oper} {Q : Exit → Act → World → Prop}

theorem all_up {L : Array Bool} (hs : L.size = ops.size) (haft : ∀ i o, ops[i]? = some o → ∀ e ∈ o.after, Region.binds .any e = true → e.on < i) (hr : Region.ready .any ops L = []) : ∀ i, i < ops.size → upB L i = true := by
  intro i
  induction i using Nat.strongRecOn with
  | _ i ih =>
    intro hi
    false_or_by_contra
    rename_i hf
    have hf : upB L i = false := by simpa using hf
    have hm : i ∈ Region.ready .any ops L := by
      refine mem_ready.2 ⟨?_, ops[i], Array.getElem?_eq_getElem hi, fun e he hb => ?_⟩
      · unfold upB at hf
        simpa [Array.getD, show i < L.size by omega] using hf
      · have := haft i _ (Array.getElem?_eq_getElem hi) e he hb
        exact ih e.on this (by omega)
    rw [hr] at hm
    cases hm

theorem wpAnyIn_inv (hg : ∀ (i : Nat) (o : Oper), ops[i]? = some o → o.guard = none) (haft : ∀ i o, ops[i]? = some o → ∀ e ∈ o.after, Region.binds .any e = true → e.on < i)
    (Inv : (Nat → Bool) → Act → World → Prop)
    (hstep : ∀ L i o a w, ops[i]? = some o → L i = false → Behind o L → ClosedB ops L → Inv L a w → o.wpIn F n P a w (Inv (setB L i)) Q)
    (hdone : ∀ L a w, (∀ i, i < ops.size → L i = true) → Inv L a w → Q .normal a w) :
    ∀ (fuel : Nat) (L : Array Bool) (a : Act) (w : World), L.size = ops.size → offs L ≤ fuel → ClosedB ops (upB L) → Inv (upB L) a w → wpAnyIn F n P .any ops Q fuel L a w := by
  intro fuel
  induction fuel with
  | zero =>
    intro L a w hs ho hc hI
    have hr : Region.ready .any ops L = [] := by
      rw [List.eq_nil_iff_forall_not_mem]
      intro i hi
      have h1 := (mem_ready.1 hi).1
      have hlt : i < L.size := by
        false_or_by_contra
        simp [Array.getD, show ¬ i < L.size by omega] at h1
      rw [offs_zero (by omega) i hlt] at h1
      cases h1
    exact ⟨hr, hdone _ a w (all_up hs haft hr) hI⟩
  | succ fuel ih =>
    intro L a w hs ho hc hI
    refine ⟨fun hr => hdone _ a w (all_up hs haft hr) hI, fun i hi => ?_⟩
    obtain ⟨h1, o, hop, hd⟩ := mem_ready.1 hi
    have hlt : i < L.size := by
      false_or_by_contra
      simp [Array.getD, show ¬ i < L.size by omega] at h1
    have hf : upB L i = false := by
      unfold upB
      simpa [Array.getD, hlt] using h1
    unfold wpOpIn
    rw [hop]
    show if Region.wanted o (yielded ops a.tmps) = true then _ else _
    have hw : Region.wanted o (yielded ops a.tmps) = true := by simp [Region.wanted, hg i o hop]
    rw [if_pos hw]
    refine Oper.wpIn_mono (K := Inv (setB (upB L) i)) (fun a' w' hI' => ?_) (hstep _ i o a w hop hf hd hc hI)
    refine ih _ a' w' (by simpa using hs) (by have := offs_set h1; omega) ?_ (by rw [upB_set hlt]; exact hI')
    rw [upB_set hlt]
    intro k o' hk hL e he hb
    by_cases hki : k = i
    · subst hki
      rw [hop] at hk
      cases hk
      have := hd e he hb
      unfold setB
      split
      · rfl
      · exact this
    · rw [setB_ne hki] at hL
      have := hc k o' hk hL e he hb
      unfold setB
      split
      · rfl
      · exact this

/-- the operations' steps, one by one -/
def AllSteps (F : Fence) (n : Nat) (P : Program) (ops : Array Oper) (Q : Exit → Act → World → Prop) (Inv : (Nat → Bool) → Act → World → Prop) : Nat → List Oper → Prop
  | _, [] => True
  | i, o :: rest => (∀ L a w, L i = false → Behind o L → ClosedB ops L → Inv L a w → o.wpIn F n P a w (Inv (setB L i)) Q) ∧ AllSteps F n P ops Q Inv (i + 1) rest
theorem AllSteps.at {Inv : (Nat → Bool) → Act → World → Prop} : ∀ (l : List Oper) (k : Nat), AllSteps F n P ops Q Inv k l → ∀ i o, l[i]? = some o → ∀ L a w, L (k + i) = false → Behind o L → ClosedB ops L → Inv L a w → o.wpIn F n P a w (Inv (setB L (k + i))) Q
  | [], _, _, i, o, ho => by simp at ho
  | o' :: rest, k, h, 0, o, ho => by
    simp at ho
    subst ho
    exact h.1
  | o' :: rest, k, h, i + 1, o, ho => by
    have := AllSteps.at rest (k + 1) h.2 i o (by simpa using ho)
    rw [show k + (i + 1) = k + 1 + i by omega]
    exact this
theorem wpIn_region_inv {id : Nat} {a : Act} {w : World} (hm : P.follows .mixedOrders = true) (hg : ops.all (fun o => o.guard.isNone) = true)
    (haft : (List.range ops.size).all (fun i => (ops[i]?.map fun o => o.after.all fun e => !(Region.binds .any e) || decide (e.on < i)).getD true) = true)
    (Inv : (Nat → Bool) → Act → World → Prop) (h0 : ∀ L, (∀ i, L i = false) → Inv L a w.drew) (hsteps : AllSteps F n P ops Q Inv 0 ops.toList)
    (hdone : ∀ L a w, (∀ i, i < ops.size → L i = true) → Inv L a w → Q .normal a w) : (Code.region id ops true).wpIn F n P Q a w := by
  refine wpIn_region_any hm (wpAnyIn_inv ?_ ?_ Inv ?_ hdone _ _ _ _ (by simp) ?_ ?_ ?_)
  · intro i o ho
    have hm := Array.all_eq_true_iff_forall_mem.1 hg o (Array.mem_of_getElem? ho)
    simpa using hm
  · intro i o ho e he hb
    have hi := (Array.getElem?_eq_some_iff.1 ho).1
    have := List.all_eq_true.1 haft i (List.mem_range.2 hi)
    rw [ho] at this
    simp only [Option.map_some, Option.getD_some] at this
    have := Array.all_eq_true_iff_forall_mem.1 this e he
    simpa [hb] using this
  · intro L i o a w ho h1 h2 h3 h4
    have := AllSteps.at _ 0 hsteps i o (by simpa using ho) L a w (by simpa using h1) h2 h3 h4
    simpa using this
  · unfold offs
    simp
  · intro i o ho hL
    unfold upB at hL
    have : (Array.replicate ops.size false).getD i false = false := by
      unfold Array.getD
      split <;> simp
    rw [this] at hL
    cases hL
  · refine h0 _ (fun i => ?_)
    unfold upB Array.getD
    split <;> simp

/-- an operation that yields a value, inside any fence -/
theorem operIn_val {o : Oper} {a : Act} {w w' : World} {K : Act → World → Prop} {v : Value} (hab : o.about P w a.eval = none) (hnd : ∀ c, o.op ≠ .defer c) (hrun : (execOp a.eval o).run P w = .ok (.value v) w') (hK : K (a.put o.dst v) w') : o.wpIn F n P a w K Q := by
  unfold Oper.wpIn
  refine ⟨(fun f hf => by rw [hab] at hf; cases hf), ?_⟩
  rw [Oper.semAt_plain F _ _ hnd, hrun]
  exact hK
theorem operIn_append_v {w : World} {o : Oper} {a : Act} {K : Act → World → Prop} (s x : Operand) (t e : TypeId) (i : TypeInfo) (z : Value) (by_ : Nat)
    (ho : o.op = .call { callee := .builtin .append, args := #[s, x], argTypes := #[t, t] }) (ht : Tryd.prog.underlying t = some (.slice e)) (hi : Tryd.prog.info? e = some i) (hz0 : i.zero = some z) (hz1 : i.size = 1) (hz2 : i.bytes = by_) (hzc : z.cells.size = 1)
    (base : Nat) (v : Value) (n' : Nat) (xs : List Value) (hv : a.eval s = v) (hown : w.ownsRow base e 1 v n' xs)
    (A : Option Addr) (m c : Nat) (news : List Value) (hx : a.eval x = .slice A m c) (hs : Src w A m news) (hnc : A = none → c = 0) (h1 : ∀ u ∈ news, u.oneCell' = true) (hfit : (n' + m) * by_ ≤ 140737488355328) (hfit2 : n' + m ≤ 140737488355328) (hbase : base ≤ w.heap.size)
    (h : ∀ v' w', AppendedV e w w' base v v' (n' + m) (xs ++ news) → K (a.put o.dst v') w') : o.wpIn F n Tryd.prog a w K Q := by
  obtain ⟨v', w', hrun, hd⟩ := run_append_v (w := w) t e i z by_ ht hi hz0 hz1 hz2 hzc base v n' xs hown A m c news hs hnc h1 hfit hfit2 hbase o.type
  refine operIn_val (v := v') (w' := w') ?_ (by rw [ho]; intro c hc; cases hc) ?_ (h v' w' hd)
  · simp [Oper.about, ho, resolve, Target.leads, Sem.run_pure]
  · unfold execOp
    simp only [ho, resolve, invoke, builtin, Sem.run_bind, Sem.run_pure, Result.andThen_ok, List.map_toArray, List.map_cons, List.map_nil, hv, hx, hrun]

end Go.Proofs.YtjjlciiijojfiaaDoor

/- The contract of kind's tree of codes, and of Get. -/
namespace Go.Proofs.YtjjlciiijojfiaaDoor
open Go.RowKit Go.Shelf
set_option linter.unusedVariables false
attribute [local go_sem] Oper.semAt_some

def code5 (k : Nat) : ByteArray := codes5[k]?.getD ⟨#[]⟩
def num5 (k : Nat) : Int := (k : Int) + 1
theorem codes5_all : (List.range 10).map code5 = codes5 := rfl
theorem nums5_all : (List.range 10).map num5 = nums5 := rfl

/-- between two rounds of tree: two rows that grow -/
structure TreeR (m n : Nat) (ss ns : List Value) (sv iv : Value) (W : World) : Prop where
  ra : W.heap[m]? = some (.cells #[sv] 67 (0, 0))
  rb : W.heap[m + 1]? = some (.cells #[iv] 40 (0, 0))
  rowS : W.ownsRow (m + 4) 9 1 sv n ss
  rowI : W.ownsRow (m + 4) 3 1 iv n ns
  apart : ∀ k, sv.ownBlock = some k → iv.ownBlock ≠ some k
structure TreeW (w : World) (pre : List Nat) (W : World) : Prop where
  below : Below w.heap.size w W
  size : w.heap.size + 4 ≤ W.heap.size
  is : ∃ sv iv, TreeR w.heap.size pre.length (strV (pre.map code5)) (intV (pre.map num5)) sv iv W

theorem ownsRow_keptN {w w' : World} {base n : Nat} {e : TypeId} {v : Value} {xs : List Value} {row : Option Nat} (h : w.ownsRow base e 1 v n xs) (hg : w.grownBy w' row) (hr : ∀ r, row = some r → ∃ o : Obj, w.heap[r]? = some o ∧ o.isCells = false) : w'.ownsRow base e 1 v n xs := by
  refine h.kept hg ?_
  rcases h.2 with ⟨rfl, _⟩ | ⟨g, cap, cur, rfl, _, hc, _⟩
  · exact .inl rfl
  · right
    intro e
    obtain ⟨o, h1, h2⟩ := hr g e.symm
    rw [hc] at h1
    cases h1
    cases h2
theorem ownsRow_obj {w : World} {base n k : Nat} {e : TypeId} {v : Value} {xs : List Value} (h : w.ownsRow base e 1 v n xs) (hk : v.ownBlock = some k) : ∃ o : Obj, w.heap[k]? = some o ∧ o.isCells = true := by
  rcases h.2 with ⟨rfl, _⟩ | ⟨g, cap, cur, rfl, _, hc, _⟩
  · cases hk
  · cases hk; exact ⟨_, hc, rfl⟩
theorem TreeR.kept {W W' : World} {row : Option Nat} {m n : Nat} {ss ns : List Value} {sv iv : Value} (h : TreeR m n ss ns sv iv W) (hg : W.grownBy W' row) (hr : ∀ r, row = some r → ∃ o : Obj, W.heap[r]? = some o ∧ o.isCells = false) : TreeR m n ss ns sv iv W' :=
  ⟨(grownBy_keeps_cells hg hr h.ra rfl).trans h.ra, (grownBy_keeps_cells hg hr h.rb rfl).trans h.rb, ownsRow_keptN h.rowS hg hr, ownsRow_keptN h.rowI hg hr, h.apart⟩

theorem src_at {W : World} {g : Nat} {u : Value} {t : TypeId} (h : W.heap[g]? = some (.cells #[u] t (0, 0))) : Src W (some ⟨g, 0, none⟩) 1 [u] := by
  refine ⟨rfl, .inr ⟨_, rfl, fun j v hv => ?_⟩⟩
  have hadd : (⟨g, 0, none⟩ : Addr).add j = ⟨g, 0 + j, none⟩ := by unfold Addr.add; split <;> simp_all
  rw [hadd, Nat.zero_add]
  match j, hv with
  | 0, hv => cases hv; exact (one_cell h).1

theorem info_int5 : (Tryd.prog.info? 3).map (fun i => (i.zero, i.size, i.bytes)) = some (some (.int .i64 0), 1, 8) := by kernel_rfl

/-! ### one round: both rows grow by one, in whatever order -/
def KS (m : Nat) (sv iv : Value) (j : Nat) : Prop := j = m ∨ j = m + 1 ∨ sv.ownBlock = some j ∨ iv.ownBlock = some j
structure KRegC (m : Nat) (s : ByteArray) (num : Int) (n : Nat) (ss ns : List Value) (sv iv : Value) (W0 : World) (L : Nat → Bool) (x11 x12 x13 x14 x15 x16 x17 x18 : Value) (W : World) : Prop where
  bar : Bar (KS m sv iv) W0 W
  ra : W.heap[m]? = some (.cells #[if L 8 = true then x14 else sv] 67 (0, 0))
  rb : W.heap[m + 1]? = some (.cells #[if L 9 = true then x18 else iv] 40 (0, 0))
  l0 : L 0 = true → x11 = sv
  l1 : L 1 = true → x12 = .string s
  l2 : L 2 = true → ∃ g, x13 = .slice (some ⟨g, 0, none⟩) 1 1 ∧ W0.heap.size ≤ g ∧ (L 3 = false → W.heap[g]? = some (.cells #[.string s] 9 (0, 0)))
  l4 : L 4 = true → x15 = iv
  l5 : L 5 = true → x16 = .int .i64 num
  l6 : L 6 = true → ∃ g, x17 = .slice (some ⟨g, 0, none⟩) 1 1 ∧ W0.heap.size ≤ g ∧ (L 7 = false → W.heap[g]? = some (.cells #[.int .i64 num] 3 (0, 0)))
  n3 : L 3 = false → W.ownsRow (m + 4) 9 1 sv n ss
  l3 : L 3 = true → W.ownsRow (m + 4) 9 1 x14 (n + 1) (ss ++ [.string s]) ∧ ∀ k, x14.ownBlock = some k → sv.ownBlock = some k ∨ W0.heap.size ≤ k
  n7 : L 7 = false → W.ownsRow (m + 4) 3 1 iv n ns
  l7 : L 7 = true → W.ownsRow (m + 4) 3 1 x18 (n + 1) (ns ++ [.int .i64 num]) ∧ ∀ k, x18.ownBlock = some k → iv.ownBlock = some k ∨ (W0.heap.size ≤ k ∧ x14.ownBlock ≠ some k)
def KRegI (m : Nat) (s : ByteArray) (num : Int) (n : Nat) (ss ns : List Value) (sv iv : Value) (T : Array Value) (W0 : World) (L : Nat → Bool) (a : Act) (W : World) : Prop :=
  ∃ x11 x12 x13 x14 x15 x16 x17 x18, a = { tmps := #[Value.pointer none, Value.pointer (some { block := m, off := 0 }),
              Value.pointer (some { block := m + 1, off := 0 }), .string s, .int .i64 num, undef, undef, Value.agg T,
              Value.func (Fn.func 48) #[] #[Value.pointer (some { block := m + 1 + 1 + 1, off := 0 })], .string s, .int .i64 num,
              x11, x12, x13, x14, x15, x16, x17, x18, undef, undef, undef, undef, undef, undef, undef], defers := [] } ∧
    KRegC m s num n ss ns sv iv W0 L x11 x12 x13 x14 x15 x16 x17 x18 W

set_option maxRecDepth 100000 in
set_option maxHeartbeats 4000000 in
theorem ktree_in (n : Nat) (hn : 4 ≤ n) (w : World) :
    CallsIn Fence.wide n Tryd.prog 26 #[] w fun e w' => ∃ n₀ m₁ b, e = .returned (.pointer (some ⟨b, 0, none⟩)) ∧ IsPT n₀ m₁ w' b codes5 nums5 ∧ Below w.heap.size w w' := by
  have hn1 : 1 ≤ n := by omega
  have HK := Lib.hid (fun W => kinds_any W)
  have HC := Lib.hid (fun W => kcodes_in Fence.wide (n - 1) trivial rfl W)
  have HS := Lib.hid (fun (w : World) (bb m : Nat) (hm : m ≤ w.heap.size) h => kcodes_stops (n - 1) (by omega) m bb w hm h)
  generalize tabCells = T at *
  refine callsIn_of_wp_marks Tryd.func26 rfl trivial ?_ rfl
  simp only [Tryd.ntmps26, List.size_toArray, List.length_nil, Nat.reduceSub, Array.replicate_succ, Array.replicate_zero, List.push_toArray, List.append_toArray, List.nil_append, List.cons_append]
  gi_wp2_with (first | (refine ⟨trivial, ?_⟩; gi_at_call 30; refine (callsIn_wide.2 (HK.out _)).mono ?_; rintro e w' ⟨rfl, rfl⟩) | (refine ⟨trivial, ?_⟩; gi_at_call 31; refine (HC.out _).mono ?_; rintro e w' ⟨rfl, rfl⟩))
  have hB4 : Below w.heap.size w ((((w.alloc (Obj.cells #[Value.slice none 0 0] 67)).alloc (Obj.cells #[Value.slice none 0 0] 40)).alloc (Obj.cells T 59)).alloc (Obj.cells T 59)) :=
    ((((Below.refl _ w).alloc (Nat.le_refl _) _).alloc (by simp) _).alloc (by simp; omega) _).alloc (by simp; omega) _
  refine wpIn_rangeFunc_ownF rfl hn1 (gf := 48) (lb := #[.pointer (some ⟨w.heap.size + 1 + 1 + 1, 0, none⟩)]) rfl trivial (enters_of Tryd.func48 (by kernel_rfl) rfl)
    (HS.out _ (w.heap.size + 1 + 1 + 1) w.heap.size (by simp; omega) (heap_new _ (by simp) _)) KpB.t (KpB.b (by simp; omega) (by simp) (by simp)) (Below.refl _ _) (fun _ => rfl)
    (fun pre W => TreeW w pre W)
    (fun _ _ _ => False)
    ?own (fun _ _ _ _ _ hs _ _ => hs) ?start
    (fun k => { tmps := #[Value.pointer none, Value.pointer (some { block := w.heap.size, off := 0 }),
              Value.pointer (some { block := w.heap.size + 1, off := 0 }), .string (code5 k), .int .i64 (num5 k), undef, undef, Value.agg T,
              Value.func (Fn.func 48) #[] #[Value.pointer (some { block := w.heap.size + 1 + 1 + 1, off := 0 })], .string (code5 k), .int .i64 (num5 k),
              undef, undef, undef, undef, undef, undef, undef, undef, undef, undef, undef, undef, undef, undef, undef], defers := [] }) ?assign ?body ?done (fun _ _ _ _ _ _ h _ => h.elim)
  case own =>
    intro pre A B row hI hg' hr
    have hr2 : ∀ r, row = some r → ∃ o : Obj, A.heap[r]? = some o ∧ o.isCells = false := fun r e => (hr r e).2
    obtain ⟨h1, h2, sv, iv, h3⟩ := hI
    exact ⟨h1.grown hg' h1.size (fun r e => by have := (hr r e).1; simp at this; omega), Nat.le_trans h2 hg'.size, sv, iv, h3.kept hg' hr2⟩
  case start =>
    exact ⟨hB4, by simp, .slice none 0 0, .slice none 0 0, heap_keep (heap_keep (heap_keep (heap_new _ rfl _) _) _) _, heap_keep (heap_keep (heap_new _ (by simp) _) _) _, World.ownsRow_nil _ _ _ _, World.ownsRow_nil _ _ _ _, fun k hk => by cases hk⟩
  case assign =>
    intro l k W K hK
    gi_wp2
    exact hK
  case body =>
    rintro l pre k W ⟨hBW, hW, sv, iv, hR⟩ hlt
    generalize hs5 : code5 k = s at *
    generalize hn5 : num5 k = num at *
    have HS5 := Lib.hid hs5
    have HN5 := Lib.hid hn5
    clear hs5 hn5
    gi_wp2
    refine wpIn_mono (Q := fun e aa W' => e = .normal ∧ Bar (KS w.heap.size sv iv) W W' ∧ ∃ sv' iv', TreeR w.heap.size (pre.length + 1) (strV (pre.map code5) ++ [.string s]) (intV (pre.map num5) ++ [.int .i64 num]) sv' iv' W') ?reg ?rest
    case reg =>
      have hsv := fun k h => (hR.rowS.lt k h)
      have hiv := fun k h => (hR.rowI.lt k h)
      have HSV := Lib.hid hsv
      have HIV := Lib.hid hiv
      have HAp := Lib.hid hR.apart
      have HR := Lib.hid hR
      clear hsv hiv hR HK HC HS
      generalize strV (pre.map code5) = ss at *
      generalize intV (pre.map num5) = ns at *
      generalize pre.length = N at *
      generalize w.heap.size = m at *
      refine wpIn_region_inv (by kernel_rfl) (by kernel_rfl) (by kernel_rfl) (KRegI m s num N ss ns sv iv T W) ?h0 ?st ?hd
      case h0 =>
        intro L hL
        have e : ∀ i, ¬ L i = true := fun i h => by rw [hL i] at h; cases h
        refine ⟨undef, undef, undef, undef, undef, undef, undef, undef, rfl, (Bar.refl _ _).drew, ?_, ?_, fun h => (e _ h).elim, fun h => (e _ h).elim, fun h => (e _ h).elim, fun h => (e _ h).elim, fun h => (e _ h).elim, fun h => (e _ h).elim, fun _ => HR.out.rowS, fun h => (e _ h).elim, fun _ => HR.out.rowI, fun h => (e _ h).elim⟩
        · rw [if_neg (e 8)]; exact HR.out.ra
        · rw [if_neg (e 9)]; exact HR.out.rb
      case st =>
        refine ⟨?o0, ?o1, ?o2, ?o3, ?o4, ?o5, ?o6, ?o7, ?o8, ?o9, trivial⟩
        case o0 =>
          rintro L a W' hL hbe hcl ⟨x11, x12, x13, x14, x15, x16, x17, x18, rfl, hC⟩
          have h8 : L 8 = false := by
            rw [Bool.eq_false_iff]; intro h
            have := hcl 8 _ rfl h { on := 0, ground := .phase } (by simp) rfl
            rw [hL] at this; cases this
          have hra := hC.ra
          rw [if_neg (by simp [h8])] at hra
          obtain ⟨c0, _⟩ := one_cell hra
          have HC := Lib.hid hC
          clear hC hra h8 hcl hbe
          go_simp
          exact ⟨sv, x12, x13, x14, x15, x16, x17, x18, rfl, HC.out.bar, HC.out.ra, HC.out.rb, fun _ => rfl, HC.out.l1, HC.out.l2, HC.out.l4, HC.out.l5, HC.out.l6, HC.out.n3, HC.out.l3, HC.out.n7, HC.out.l7⟩
        case o1 =>
          rintro L a W' hL hbe hcl ⟨x11, x12, x13, x14, x15, x16, x17, x18, rfl, hC⟩
          have HC := Lib.hid hC
          clear hC hcl hbe
          go_simp
          exact ⟨x11, .string s, x13, x14, x15, x16, x17, x18, rfl, HC.out.bar, HC.out.ra, HC.out.rb, HC.out.l0, fun _ => rfl, HC.out.l2, HC.out.l4, HC.out.l5, HC.out.l6, HC.out.n3, HC.out.l3, HC.out.n7, HC.out.l7⟩
        case o2 =>
          rintro L a W' hL hbe hcl ⟨x11, x12, x13, x14, x15, x16, x17, x18, rfl, hC⟩
          obtain rfl := hC.l1 (hbe { on := 1, ground := .data } (by simp) rfl)
          have HC := Lib.hid hC
          clear hC hcl hbe
          go_simp
          exact ⟨x11, _, _, x14, x15, x16, x17, x18, rfl, HC.out.bar.alloc _, heap_keep HC.out.ra _, heap_keep HC.out.rb _, HC.out.l0, fun _ => rfl, fun _ => ⟨W'.heap.size, rfl, HC.out.bar.size, fun _ => World.alloc_heap_new _ _⟩, HC.out.l4, HC.out.l5,
            fun h => by obtain ⟨g, e1, e2, e3⟩ := HC.out.l6 h; exact ⟨g, e1, e2, fun h => heap_keep (e3 h) _⟩, fun h => (HC.out.n3 h).alloc _, fun h => ⟨(HC.out.l3 h).1.alloc _, (HC.out.l3 h).2⟩, fun h => (HC.out.n7 h).alloc _, fun h => ⟨(HC.out.l7 h).1.alloc _, (HC.out.l7 h).2⟩⟩
        case o3 =>
          rintro L a W' hL hbe hcl ⟨x11, x12, x13, x14, x15, x16, x17, x18, rfl, hC⟩
          have h0 : L 0 = true := hbe { on := 0, ground := .data } (by simp) rfl
          have h2 : L 2 = true := hbe { on := 2, ground := .data } (by simp) rfl
          have h7 : L 7 = false := by
            rw [Bool.eq_false_iff]; intro h
            have := hcl 7 _ rfl h { on := 3, ground := .chain } (by simp) rfl
            rw [hL] at this; cases this
          have h8 : L 8 = false := by
            rw [Bool.eq_false_iff]; intro h
            have := hcl 8 _ rfl h { on := 7, ground := .chain } (by simp) rfl
            rw [h7] at this; cases this
          have h9 : L 9 = false := by
            rw [Bool.eq_false_iff]; intro h
            have := hcl 9 _ rfl h { on := 8, ground := .chain } (by simp) rfl
            rw [h8] at this; cases this
          obtain rfl := hC.l0 h0
          obtain ⟨g, rfl, hg1, hg2⟩ := hC.l2 h2
          have hgh := hg2 hL
          obtain ⟨i0, hi, hz0, hz1, hz2⟩ := info_parts Tryd.info9
          have hown := hC.n3 hL
          have hsz := hC.bar.size
          have hra := hC.ra
          have hrb := hC.rb
          rw [if_neg (by simp [h8])] at hra
          rw [if_neg (by simp [h9])] at hrb
          have hm1 := (Array.getElem?_eq_some_iff.1 hrb).1
          refine operIn_append_v (.tmp 11) (.tmp 13) 67 9 i0 (.string ⟨#[]⟩) 16 rfl Tryd.underlying67x hi hz0 hz1 hz2 rfl (m + 4) _ N ss rfl hown (some ⟨g, 0, none⟩) 1 1 [.string s] rfl (src_at hgh) (fun e => by cases e) (by simp [Value.oneCell']) (by omega) (by omega) (by omega) (fun v' w2 hap => ?_)
          obtain ⟨ha1, ha2, ha3⟩ := hap
          refine ⟨_, x12, _, v', x15, x16, x17, x18, rfl, hC.bar.trans (bar_of_grown (S := KS m _ iv) ha2 (fun k e => .inr (.inr (.inl e)))) (fun j _ e => e), ?_, ?_, fun _ => rfl, hC.l1, fun _ => ⟨g, rfl, hg1, fun h => by cases h⟩, hC.l4, hC.l5, fun h => ?_, fun h => by (cases h), fun _ => ⟨ha1, fun k hk => ?_⟩, fun h => ?_, fun h => ?_⟩
          · show w2.heap[m]? = some (.cells #[if L 8 = true then v' else _] 67 (0, 0))
            rw [if_neg (by simp [h8])]
            exact (ha2.block m (by omega) (fun e => by have := (HSV.out _ e.symm).1; omega)).trans hra
          · show w2.heap[m + 1]? = some (.cells #[if L 9 = true then x18 else iv] 40 (0, 0))
            rw [if_neg (by simp [h9])]
            exact (ha2.block (m + 1) hm1 (fun e => by have := (HSV.out _ e.symm).1; omega)).trans hrb
          · obtain ⟨g', e1, e2, e3⟩ := hC.l6 h
            exact ⟨g', e1, e2, fun h7 => (ha2.block g' (Array.getElem?_eq_some_iff.1 (e3 h7)).1 (fun e => by have := (HSV.out _ e.symm).2; omega)).trans (e3 h7)⟩
          · rcases ha3 k hk with e | e
            · exact .inl e
            · exact .inr (by omega)
          · refine (hC.n7 h).kept ha2 ?_
            cases hk : iv.ownBlock with
            | none => exact .inl rfl
            | some k => exact .inr (fun e => HAp.out k e.symm hk)
          · exact absurd (show L 7 = true from h) (by simp [h7])
        case o4 =>
          rintro L a W' hL hbe hcl ⟨x11, x12, x13, x14, x15, x16, x17, x18, rfl, hC⟩
          have h9 : L 9 = false := by
            rw [Bool.eq_false_iff]; intro h
            have := hcl 9 _ rfl h { on := 4, ground := .phase } (by simp) rfl
            rw [hL] at this; cases this
          have hrb := hC.rb
          rw [if_neg (by simp [h9])] at hrb
          obtain ⟨c0, _⟩ := one_cell hrb
          have HC := Lib.hid hC
          clear hC hrb h9 hcl hbe
          go_simp
          exact ⟨x11, x12, x13, x14, iv, x16, x17, x18, rfl, HC.out.bar, HC.out.ra, HC.out.rb, HC.out.l0, HC.out.l1, HC.out.l2, fun _ => rfl, HC.out.l5, HC.out.l6, HC.out.n3, HC.out.l3, HC.out.n7, HC.out.l7⟩
        case o5 =>
          rintro L a W' hL hbe hcl ⟨x11, x12, x13, x14, x15, x16, x17, x18, rfl, hC⟩
          have HC := Lib.hid hC
          clear hC hcl hbe
          go_simp
          exact ⟨x11, x12, x13, x14, x15, .int .i64 num, x17, x18, rfl, HC.out.bar, HC.out.ra, HC.out.rb, HC.out.l0, HC.out.l1, HC.out.l2, HC.out.l4, fun _ => rfl, HC.out.l6, HC.out.n3, HC.out.l3, HC.out.n7, HC.out.l7⟩
        case o6 =>
          rintro L a W' hL hbe hcl ⟨x11, x12, x13, x14, x15, x16, x17, x18, rfl, hC⟩
          obtain rfl := hC.l5 (hbe { on := 5, ground := .data } (by simp) rfl)
          have HC := Lib.hid hC
          clear hC hcl hbe
          go_simp
          exact ⟨x11, x12, x13, x14, x15, _, _, x18, rfl, HC.out.bar.alloc _, heap_keep HC.out.ra _, heap_keep HC.out.rb _, HC.out.l0, HC.out.l1, fun h => by obtain ⟨g, e1, e2, e3⟩ := HC.out.l2 h; exact ⟨g, e1, e2, fun h => heap_keep (e3 h) _⟩, HC.out.l4, fun _ => rfl, fun _ => ⟨W'.heap.size, rfl, HC.out.bar.size, fun _ => World.alloc_heap_new _ _⟩,
            fun h => (HC.out.n3 h).alloc _, fun h => ⟨(HC.out.l3 h).1.alloc _, (HC.out.l3 h).2⟩, fun h => (HC.out.n7 h).alloc _, fun h => ⟨(HC.out.l7 h).1.alloc _, (HC.out.l7 h).2⟩⟩
        case o7 =>
          rintro L a W' hL hbe hcl ⟨x11, x12, x13, x14, x15, x16, x17, x18, rfl, hC⟩
          have h4 : L 4 = true := hbe { on := 4, ground := .data } (by simp) rfl
          have h6 : L 6 = true := hbe { on := 6, ground := .data } (by simp) rfl
          have h3 : L 3 = true := hbe { on := 3, ground := .chain } (by simp) rfl
          have h8 : L 8 = false := by
            rw [Bool.eq_false_iff]; intro h
            have := hcl 8 _ rfl h { on := 7, ground := .chain } (by simp) rfl
            rw [hL] at this; cases this
          have h9 : L 9 = false := by
            rw [Bool.eq_false_iff]; intro h
            have := hcl 9 _ rfl h { on := 8, ground := .chain } (by simp) rfl
            rw [h8] at this; cases this
          obtain rfl := hC.l4 h4
          obtain ⟨g, rfl, hg1, hg2⟩ := hC.l6 h6
          have hgh := hg2 hL
          obtain ⟨i0, hi, hz0, hz1, hz2⟩ := info_parts info_int5
          have hown := hC.n7 hL
          have hsz := hC.bar.size
          have hra := hC.ra
          have hrb := hC.rb
          rw [if_neg (by simp [h8])] at hra
          rw [if_neg (by simp [h9])] at hrb
          have hm1 := (Array.getElem?_eq_some_iff.1 hrb).1
          obtain ⟨hs1, hs2⟩ := hC.l3 h3
          refine operIn_append_v (.tmp 15) (.tmp 17) 40 3 i0 (.int .i64 0) 8 rfl Tryd.underlying40y hi hz0 hz1 hz2 rfl (m + 4) _ N ns rfl hown (some ⟨g, 0, none⟩) 1 1 [.int .i64 num] rfl (src_at hgh) (fun e => by cases e) (by simp [Value.oneCell']) (by omega) (by omega) (by omega) (fun v' w2 hap => ?_)
          obtain ⟨ha1, ha2, ha3⟩ := hap
          refine ⟨x11, x12, x13, x14, _, x16, _, v', rfl, hC.bar.trans (bar_of_grown (S := KS m sv _) ha2 (fun k e => .inr (.inr (.inr e)))) (fun j _ e => e), ?_, ?_, hC.l0, hC.l1, fun h => ?_, fun _ => rfl, hC.l5, fun _ => ⟨g, rfl, hg1, fun h => by cases h⟩, fun h => ?_, fun h => ⟨hs1.kept ha2 ?_, hs2⟩, fun h => by (cases h), fun _ => ⟨ha1, fun k hk => ?_⟩⟩
          · show w2.heap[m]? = some (.cells #[if L 8 = true then x14 else sv] 67 (0, 0))
            rw [if_neg (by simp [h8])]
            exact (ha2.block m (by omega) (fun e => by have := (HIV.out _ e.symm).1; omega)).trans hra
          · show w2.heap[m + 1]? = some (.cells #[if L 9 = true then v' else _] 40 (0, 0))
            rw [if_neg (by simp [h9])]
            exact (ha2.block (m + 1) hm1 (fun e => by have := (HIV.out _ e.symm).1; omega)).trans hrb
          · obtain ⟨g', e1, e2, e3⟩ := hC.l2 h
            exact ⟨g', e1, e2, fun h' => absurd (show L 3 = false from h') (by simp [h3])⟩
          · exact absurd (show L 3 = false from h) (by simp [h3])
          · cases hk : x14.ownBlock with
            | none => exact .inl rfl
            | some k =>
              refine .inr (fun e => ?_)
              rcases hs2 k hk with e2 | e2
              · exact HAp.out k e2 e.symm
              · have := (HIV.out _ e.symm).2; omega
          · rcases ha3 k hk with e | e
            · exact .inl e
            · refine .inr ⟨by omega, fun e2 => ?_⟩
              have := (hs1.lt k e2).2
              omega
        case o8 =>
          rintro L a W' hL hbe hcl ⟨x11, x12, x13, x14, x15, x16, x17, x18, rfl, hC⟩
          have h3 : L 3 = true := hbe { on := 3, ground := .data } (by simp) rfl
          have h7 : L 7 = true := hbe { on := 7, ground := .chain } (by simp) rfl
          have hra := hC.ra
          rw [if_neg (by simp [hL])] at hra
          obtain ⟨c0, f0⟩ := one_cell hra
          obtain ⟨hs1, hs2⟩ := hC.l3 h3
          have hlow := fun k h => (hs1.lt k h).1
          have hlow2 := fun k h => ((hC.l7 h7).1.lt k h).1
          obtain ⟨sa, sc, hx14, _⟩ := rowV_own4 hs1
          have HX := Lib.hid hx14
          subst hx14
          have HC := Lib.hid hC
          have HL2 := Lib.hid hlow
          have HL3 := Lib.hid hlow2
          have H3 := Lib.hid h3
          have H7 := Lib.hid h7
          clear hC hcl hbe hlow hlow2 hs1 hs2 hra h3 h7
          go_simp
          refine ⟨x11, x12, x13, .slice sa (N + 1) sc, x15, x16, x17, x18, rfl, HC.out.bar.setCell (p := ⟨m, 0, none⟩) (fun _ => .inl rfl) _, ?_, ?_, HC.out.l0, HC.out.l1, fun h => ?_, HC.out.l4, HC.out.l5, fun h => ?_, fun h => absurd (show L 3 = false from h) (by simp [H3.out]), fun h => ⟨ownsRow_setCell_other (HC.out.l3 H3.out).1 (a := ⟨m, 0, none⟩) (fun e => absurd (HL2.out _ e) (by show ¬ (m + 4 ≤ m); omega)) _, (HC.out.l3 H3.out).2⟩, fun h => absurd (show L 7 = false from h) (by simp [H7.out]), fun h => ⟨ownsRow_setCell_other (HC.out.l7 H7.out).1 (a := ⟨m, 0, none⟩) (fun e => absurd (HL3.out _ e) (by show ¬ (m + 4 ≤ m); omega)) _, (HC.out.l7 H7.out).2⟩⟩
          · show (W'.setCell ⟨m, 0, none⟩ _).heap[m]? = some (.cells #[Value.slice sa (N + 1) sc] 67 (0, 0))
            exact heap_setCell_same _ m 0 _ _ _ HC.out.ra
          · exact (Below.heap_setCell _ _ _ _ (by simp)).trans HC.out.rb
          · obtain ⟨g', e1, e2, e3⟩ := HC.out.l2 h
            exact ⟨g', e1, e2, fun h' => absurd (show L 3 = false from h') (by simp [H3.out])⟩
          · obtain ⟨g', e1, e2, e3⟩ := HC.out.l6 h
            exact ⟨g', e1, e2, fun h' => absurd (show L 7 = false from h') (by simp [H7.out])⟩
        case o9 =>
          rintro L a W' hL hbe hcl ⟨x11, x12, x13, x14, x15, x16, x17, x18, rfl, hC⟩
          have h3 : L 3 = true := hbe { on := 3, ground := .phase } (by simp) rfl
          have h7 : L 7 = true := hbe { on := 7, ground := .data } (by simp) rfl
          have hrb := hC.rb
          rw [if_neg (by simp [hL])] at hrb
          obtain ⟨c0, f0⟩ := one_cell hrb
          obtain ⟨hs1, hs2⟩ := hC.l7 h7
          have hlow := fun k h => (hs1.lt k h).1
          have hlow2 := fun k h => ((hC.l3 h3).1.lt k h).1
          obtain ⟨sa, sc, hx18, _⟩ := rowV_own4 hs1
          subst hx18
          have HC := Lib.hid hC
          have HL2 := Lib.hid hlow
          have HL3 := Lib.hid hlow2
          have H3 := Lib.hid h3
          have H7 := Lib.hid h7
          clear hC hcl hbe hlow hlow2 hs1 hs2 hrb h3 h7
          go_simp
          refine ⟨x11, x12, x13, x14, x15, x16, x17, .slice sa (N + 1) sc, rfl, HC.out.bar.setCell (p := ⟨m + 1, 0, none⟩) (fun _ => .inr (.inl rfl)) _, ?_, ?_, HC.out.l0, HC.out.l1, fun h => ?_, HC.out.l4, HC.out.l5, fun h => ?_, fun h => absurd (show L 3 = false from h) (by simp [H3.out]), fun h => ⟨ownsRow_setCell_other (HC.out.l3 H3.out).1 (a := ⟨m + 1, 0, none⟩) (fun e => absurd (HL3.out _ e) (by show ¬ (m + 4 ≤ m + 1); omega)) _, (HC.out.l3 H3.out).2⟩, fun h => absurd (show L 7 = false from h) (by simp [H7.out]), fun h => ⟨ownsRow_setCell_other (HC.out.l7 H7.out).1 (a := ⟨m + 1, 0, none⟩) (fun e => absurd (HL2.out _ e) (by show ¬ (m + 4 ≤ m + 1); omega)) _, (HC.out.l7 H7.out).2⟩⟩
          · exact (Below.heap_setCell _ _ _ _ (by simp)).trans HC.out.ra
          · show (W'.setCell ⟨m + 1, 0, none⟩ _).heap[m + 1]? = some (.cells #[Value.slice sa (N + 1) sc] 40 (0, 0))
            exact heap_setCell_same _ (m + 1) 0 _ _ _ HC.out.rb
          · obtain ⟨g', e1, e2, e3⟩ := HC.out.l2 h
            exact ⟨g', e1, e2, fun h' => absurd (show L 3 = false from h') (by simp [H3.out])⟩
          · obtain ⟨g', e1, e2, e3⟩ := HC.out.l6 h
            exact ⟨g', e1, e2, fun h' => absurd (show L 7 = false from h') (by simp [H7.out])⟩
      case hd =>
        rintro L a W' hL ⟨x11, x12, x13, x14, x15, x16, x17, x18, rfl, hC⟩
        have hL : ∀ i, i < 10 → L i = true := hL
        have hra := hC.ra
        have hrb := hC.rb
        rw [if_pos (hL 8 (by omega))] at hra
        rw [if_pos (hL 9 (by omega))] at hrb
        refine ⟨rfl, hC.bar, x14, x18, hra, hrb, (hC.l3 (hL 3 (by omega))).1, (hC.l7 (hL 7 (by omega))).1, fun k h1 h2 => ?_⟩
        rcases (hC.l7 (hL 7 (by omega))).2 k h2 with e | ⟨_, e⟩
        · rcases (hC.l3 (hL 3 (by omega))).2 k h1 with e2 | e2
          · exact HAp.out k e2 e
          · have := (HIV.out _ e).2; omega
        · exact e h1
    case rest =>
      rintro e a' W' ⟨rfl, hbar, sv', iv', hR'⟩
      have hS : ∀ j, KS w.heap.size sv iv j → j = w.heap.size ∨ j = w.heap.size + 1 ∨ w.heap.size + 4 ≤ j := by
        rintro j (e | e | e | e)
        · exact .inl e
        · exact .inr (.inl e)
        · exact .inr (.inr (hR.rowS.lt j e).1)
        · exact .inr (.inr (hR.rowI.lt j e).1)
      refine ⟨keeps_of_bar hbar (fun j hj hlt => ?_), ⟨hbar.below (by omega) (fun j hj e => by have := hS j e; omega), ?_, ?_⟩, ?_⟩
      · rcases hj with rfl | rfl | e | e
        · exact ⟨_, hR.ra, rfl⟩
        · exact ⟨_, hR.rb, rfl⟩
        · exact ownsRow_obj hR.rowS e
        · exact ownsRow_obj hR.rowI e
      · exact World.cell?_of_block (hbar.block (w.heap.size + 1 + 1 + 1) (by omega) (fun e => by have := hS _ e; omega))
      · exact World.cell?_of_block (hbar.block (w.heap.size + 1 + 1 + 1) (by omega) (fun e => by have := hS _ e; omega))
      · refine ⟨hBW.trans (hbar.below hBW.size (fun j hj e => by have := hS j e; omega)), Nat.le_trans hW hbar.size, sv', iv', ?_⟩
        have e1 : strV ((pre ++ [k]).map code5) = strV (pre.map code5) ++ [.string s] := by rw [List.map_append, ← HS5.out]; simp
        have e2 : intV ((pre ++ [k]).map num5) = intV (pre.map num5) ++ [.int .i64 num] := by rw [List.map_append, ← HN5.out]; simp
        rw [List.length_append, e1, e2]
        exact hR'
  case done =>
    rintro D ys W hD rfl ⟨hBW, hW, sv, iv, hR⟩ hK
    have hD' : w.heap.size ≤ D := by simp only [World.size_alloc] at hD; omega
    obtain ⟨c0, _⟩ := one_cell hR.ra
    obtain ⟨c1, _⟩ := one_cell hR.rb
    have h1 := hR.rowS
    have h2 := hR.rowI
    rw [codes5_all, List.length_range] at h1
    rw [nums5_all, List.length_range] at h2
    obtain ⟨sa, sc, rfl, hsr⟩ := rowV_own4 h1
    obtain ⟨ia, ic, rfl, hir⟩ := rowV_own4 h2
    have HM := Lib.hid (makeP_any hsr hir codes5_small (by intro x hx; simp [nums5] at hx; omega))
    have HB := Lib.hid hBW
    have HKD := Lib.hid hK
    clear hR h1 h2 hsr hir hBW hK
    gi_wp2_with (refine ⟨trivial, ?_⟩; gi_at_call 39; refine (callsIn_wide.2 HM.out).mono ?_; rintro e w3 ⟨hb3, hm⟩; obtain ⟨_, bt, rfl, hT⟩ := hm.resolve_right (fun h => h.1 make5); have HB3 := Lib.hid hb3; have HT := Lib.hid hT; clear hb3 hT hm)
    have hlt := (Array.getElem?_eq_some_iff.1 HKD.out).1
    have hK3 := (HB3.out.block D hlt).trans HKD.out
    refine ⟨by simp, .inl ⟨_, _, rfl, run_takeDeferred hK3, ?_⟩⟩
    refine ⟨.pointer (some ⟨bt, 0, none⟩), by simp [results, Tryd.f26, go_sem], _, _, bt, rfl, HT.out.keep (S := fun j => j = D) (bar_of_grown (grownBy_putObj' _ D (.deferred none)) (fun k e => by cases e; rfl)) (fun k h1 _ e => by omega), ?_⟩
    exact (HB.out.trans (HB3.out.mono HB.out.size)).trans (belowK_b (w := w) (Nat.le_refl _) _ D _ _ hD' hK3 rfl rfl)

theorem ktree_any (w : World) :
    Calls Tryd.prog 26 #[] w fun e w' => ∃ n₀ m₁ b, e = .returned (.pointer (some ⟨b, 0, none⟩)) ∧ IsPT n₀ m₁ w' b codes5 nums5 ∧ Below w.heap.size w w' := callsIn_wide.1 (ktree_in 4 (by omega) w)

set_option maxHeartbeats 1000000 in
theorem kget_any {n₁ : Nat} {w : World} {sv : Value} {zs : List UInt8} (hB : Byt n₁ w sv zs) (hn : n₁ ≤ w.heap.size) (hl : zs.length ≤ 1099511627776) (x : Int) (hx : x ≤ 9223372036854775807) :
    Calls Tryd.prog 10 #[sv, .int .i64 x] w fun e w' => e = .returned (getT codes5 nums5 zs x) ∧ Below w.heap.size w w' := by
  have HB := Lib.hid (fun w' (hb : Below w.heap.size w w') => hB.below (hb.mono hn))
  clear hB
  obtain ⟨g, n, e0, hg⟩ : ∃ g n e : Int, getT codes5 nums5 zs x = .tuple #[.int .i64 g, .int .i64 n, .int .i64 e] := by
    unfold getT
    split
    · exact ⟨_, _, _, rfl⟩
    · exact ⟨_, _, _, rfl⟩
  have HG := Lib.hid hg
  rw [hg]
  clear hg
  go_enter Tryd.func10, Tryd.ntmps10
  go_wp2_with fail
  refine (ktree_any w).mono ?_
  rintro e w1 ⟨n₀, m₁, b, rfl, hT, b1⟩
  have HGt := Lib.hid (getP_any hT (HB.out _ b1) (by have := b1.size; omega) hl x hx)
  rw [HG.out] at HGt
  have HB1 := Lib.hid b1
  clear hT b1
  go_wp2_with (go_at_call 27; refine HGt.out.mono ?_; rintro e w2 ⟨rfl, b2⟩)
  go_ret3
  exact ⟨rfl, below_chain HB1.out (Nat.le_refl _) b2⟩

/-- kind's functions, as the laws want them -/
theorem kindI : KindI where
  get := fun hB hn hl x hx => kget_any hB hn hl x hx
  put := fun n w _ _ => kput_any n w
  of := fun n w _ _ => kof_any n w

end Go.Proofs.YtjjlciiijojfiaaDoor
