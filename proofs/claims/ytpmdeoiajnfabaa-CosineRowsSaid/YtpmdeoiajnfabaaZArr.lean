/- Arrays of numbers by value: laid, boxed, loaded, stored, asked for one of them. -/
import Derived.Test.YtpmdeoiajnfabaaZPairs
import Derived.Test.YtpmdeoiajnfabaaZPlain
import Derived.Test.YtpmdeoiajnfabaaRegI
import Derived.Deep.WholeRow
import Derived.OwnWalkIn
namespace Go.Proofs.Ytpmdeoiajnfabaa
open Go.RowKit Go.Shelf
set_option linter.unusedVariables false

section
variable {F : Fence} {n : Nat} {P : Program} {ops : Array Oper} {rest : List Oper} {o : Oper} {a : Act} {w w' : World} {Q : Exit → Act → World → Prop}
/-- an operation that yields a value, inside any fence -/
theorem wpListIn_valZ {v : Value} (hgd : o.guard = none) (hab : o.about P w a.eval = none) (hnd : ∀ c, o.op ≠ .defer c) (hrun : (execOp a.eval o).run P w = .ok (.value v) w') (h : wpListIn F n P ops Q rest (a.put o.dst v) w') : wpListIn F n P ops Q (o :: rest) a w := by
  refine wpListIn_plain hgd fun K hK => ?_
  unfold Oper.wpIn
  refine ⟨(fun f hf => by rw [hab] at hf; cases hf), ?_⟩
  rw [Oper.semAt_plain F _ _ hnd, hrun]
  exact hK _ _ h
theorem wpList_valZ {v : Value} (hgd : o.guard = none) (hrun : (execOp a.eval o).run P w = .ok (.value v) w') (h : wpList P ops Q rest (a.put o.dst v) w') : wpList P ops Q (o :: rest) a w := by
  refine wpList_plain hgd fun K hK => ?_
  unfold Oper.wp
  rw [hrun]
  exact hK _ _ h

theorem wpListIn_skipZ (hgd : o.guard = none) (hab : o.about P w a.eval = none) (hnd : ∀ c, o.op ≠ .defer c) (hrun : (execOp a.eval o).run P w = .ok .skip w') (h : wpListIn F n P ops Q rest (a.put o.dst undef) w') : wpListIn F n P ops Q (o :: rest) a w := by
  refine wpListIn_plain hgd fun K hK => ?_
  unfold Oper.wpIn
  refine ⟨(fun f hf => by rw [hab] at hf; cases hf), ?_⟩
  rw [Oper.semAt_plain F _ _ hnd, hrun]
  exact hK _ _ h
theorem wpList_skipZ (hgd : o.guard = none) (hrun : (execOp a.eval o).run P w = .ok .skip w') (h : wpList P ops Q rest (a.put o.dst undef) w') : wpList P ops Q (o :: rest) a w := by
  refine wpList_plain hgd fun K hK => ?_
  unfold Oper.wp
  rw [hrun]
  exact hK _ _ h

theorem exec_allocZ {ev : Operand → Value} (t : TypeId) (z : Array Value) (ho : o.op = .alloc t) (hz : (P.info? t).map (·.zero) = some (some (.agg z))) :
    (execOp ev o).run P w = .ok (.value (.pointer (some ⟨w.heap.size, 0, none⟩))) (w.alloc (.cells z t)) := by
  cases hq : P.info? t with
  | none => simp [hq] at hz
  | some i =>
    have hs : i.zero = some (.agg z) := by simpa [hq] using hz
    unfold execOp
    simp [ho, Sem.run_bind, Instr.alloc, newVar, newRow, zeroValue, typeInfo, hq, hs, Value.cells]
theorem exec_boxZ {ev : Operand → Value} (t : TypeId) (x : Operand) (ho : o.op = .box t x) (cells : Array Value) (hx : ev x = .agg cells) :
    (execOp ev o).run P w = .ok (.value (.pointer (some ⟨w.heap.size, 0, none⟩))) (w.alloc (.cells cells t)) := by
  unfold execOp
  simp [ho, Instr.box, newVar, newRow, hx, Value.cells]
theorem exec_loadZ {ev : Operand → Value} (t : TypeId) (x : Operand) (ho : o.op = .load t x) (p : Addr) (hx : ev x = .pointer (some p)) (vs : List Value) (hc : ∀ j u, vs[j]? = some u → w.cell? (p.add j) = some u)
    (k : Nat) (e : TypeId) (hu : P.underlying t = some (.array k e)) (hi : (P.info? t).map (·.size) = some vs.length) :
    (execOp ev o).run P w = .ok (.value (.agg vs.toArray)) w := by
  have hl : (loadCells p vs.length).run P w = .ok vs.toArray w := run_loadCells_list (P := P) w p vs hc
  cases hq : P.info? t with
  | none => simp [hq] at hi
  | some i =>
    have hs : i.size = vs.length := by simpa [hq] using hi
    have hagg : (isAgg t).run P w = .ok true w := by
      unfold isAgg
      rw [Sem.run_bind, run_underlying hu w]
      rfl
    unfold execOp
    simp [ho, hx, Instr.loadAt, Instr.sureAddr, loadVar, Sem.run_bind, hagg, sizeOf, typeInfo, hq, hs, hl]
theorem exec_storeZ {ev : Operand → Value} (t : TypeId) (x y : Operand) (ho : o.op = .store t x y) (g : Nat) (cells : Array Value) (hx : ev x = .pointer (some ⟨g, 0, none⟩)) (hy : ev y = .agg cells)
    (t' : TypeId) (old : Array Value) (hg : w.heap[g]? = some (.cells old t' (0, 0))) (hi : (P.info? t).map (·.size) = some cells.size) (hold : old.size = cells.size) (h1 : cells.all (·.oneCell') = true) :
    (execOp ev o).run P w = .ok .skip (w.setRow g cells) := by
  unfold execOp
  simp only [ho, hx, hy, Instr.storeAt, Instr.sureAddr, Sem.run_bind, Sem.run_pure, Result.andThen_ok, run_storeVar_row w g t' t old cells hg hi hold h1]
end

section
variable {F : Fence} {n : Nat} {P : Program} {ops : Array Oper} {rest : List Oper} {o : Oper} {a : Act} {w w' : World} {Q : Exit → Act → World → Prop}
theorem stopIn_load (t : TypeId) (x : Operand) (ho : o.op = .load t x) (h : wpListIn F n P ops Q (o :: rest) a w) : wpListIn F n P ops Q (o :: rest) a w := h
theorem stop_load (t : TypeId) (x : Operand) (ho : o.op = .load t x) (h : wpList P ops Q (o :: rest) a w) : wpList P ops Q (o :: rest) a w := h
theorem stop_storeZ (t : TypeId) (x y : Operand) (ho : o.op = .store t x y) (h : wpList P ops Q (o :: rest) a w) : wpList P ops Q (o :: rest) a w := h
theorem stopIn_storeZ (t : TypeId) (x y : Operand) (ho : o.op = .store t x y) (h : wpListIn F n P ops Q (o :: rest) a w) : wpListIn F n P ops Q (o :: rest) a w := h
theorem wpListIn_allocZ (hgd : o.guard = none) (t : TypeId) (z : Array Value) (ho : o.op = .alloc t) (hz : (P.info? t).map (·.zero) = some (some (.agg z)))
    (h : wpListIn F n P ops Q rest (a.put o.dst (.pointer (some ⟨w.heap.size, 0, none⟩))) (w.alloc (.cells z t))) : wpListIn F n P ops Q (o :: rest) a w :=
  wpListIn_valZ hgd (by simp [Oper.about, ho]) (by rw [ho]; intro c hc; cases hc) (exec_allocZ t z ho hz) h
theorem wpList_allocZ (hgd : o.guard = none) (t : TypeId) (z : Array Value) (ho : o.op = .alloc t) (hz : (P.info? t).map (·.zero) = some (some (.agg z)))
    (h : wpList P ops Q rest (a.put o.dst (.pointer (some ⟨w.heap.size, 0, none⟩))) (w.alloc (.cells z t))) : wpList P ops Q (o :: rest) a w :=
  wpList_valZ hgd (exec_allocZ t z ho hz) h
theorem wpListIn_boxZ (hgd : o.guard = none) (t : TypeId) (x : Operand) (ho : o.op = .box t x) (cells : Array Value) (hx : a.eval x = .agg cells)
    (h : wpListIn F n P ops Q rest (a.put o.dst (.pointer (some ⟨w.heap.size, 0, none⟩))) (w.alloc (.cells cells t))) : wpListIn F n P ops Q (o :: rest) a w :=
  wpListIn_valZ hgd (by simp [Oper.about, ho]) (by rw [ho]; intro c hc; cases hc) (exec_boxZ t x ho cells hx) h
theorem wpList_boxZ (hgd : o.guard = none) (t : TypeId) (x : Operand) (ho : o.op = .box t x) (cells : Array Value) (hx : a.eval x = .agg cells)
    (h : wpList P ops Q rest (a.put o.dst (.pointer (some ⟨w.heap.size, 0, none⟩))) (w.alloc (.cells cells t))) : wpList P ops Q (o :: rest) a w :=
  wpList_valZ hgd (exec_boxZ t x ho cells hx) h
theorem wpListIn_loadZ (hgd : o.guard = none) (t : TypeId) (x : Operand) (ho : o.op = .load t x) (p : Addr) (hx : a.eval x = .pointer (some p)) (vs : List Value) (hc : ∀ j u, vs[j]? = some u → w.cell? (p.add j) = some u)
    (k : Nat) (e : TypeId) (hu : P.underlying t = some (.array k e)) (N : Nat) (hN : vs.length = N) (hi : (P.info? t).map (·.size) = some N)
    (h : wpListIn F n P ops Q rest (a.put o.dst (.agg vs.toArray)) w) : wpListIn F n P ops Q (o :: rest) a w :=
  wpListIn_valZ hgd (by simp [Oper.about, ho]) (by rw [ho]; intro c hc; cases hc) (exec_loadZ t x ho p hx vs hc k e hu (by rw [hN]; exact hi)) h
theorem wpList_loadZ (hgd : o.guard = none) (t : TypeId) (x : Operand) (ho : o.op = .load t x) (p : Addr) (hx : a.eval x = .pointer (some p)) (vs : List Value) (hc : ∀ j u, vs[j]? = some u → w.cell? (p.add j) = some u)
    (k : Nat) (e : TypeId) (hu : P.underlying t = some (.array k e)) (N : Nat) (hN : vs.length = N) (hi : (P.info? t).map (·.size) = some N)
    (h : wpList P ops Q rest (a.put o.dst (.agg vs.toArray)) w) : wpList P ops Q (o :: rest) a w :=
  wpList_valZ hgd (exec_loadZ t x ho p hx vs hc k e hu (by rw [hN]; exact hi)) h
theorem wpListIn_storeZ (hgd : o.guard = none) (t : TypeId) (x y : Operand) (ho : o.op = .store t x y) (g : Nat) (cells : Array Value) (hx : a.eval x = .pointer (some ⟨g, 0, none⟩)) (hy : a.eval y = .agg cells)
    (t' : TypeId) (old : Array Value) (hg : w.heap[g]? = some (.cells old t' (0, 0))) (N : Nat) (hN : cells.size = N) (hi : (P.info? t).map (·.size) = some N) (hold : old.size = N) (h1 : cells.all (·.oneCell') = true)
    (h : wpListIn F n P ops Q rest (a.put o.dst undef) (w.setRow g cells)) : wpListIn F n P ops Q (o :: rest) a w :=
  wpListIn_skipZ hgd (by simp [Oper.about, ho]) (by rw [ho]; intro c hc; cases hc) (exec_storeZ t x y ho g cells hx hy t' old hg (by rw [hN]; exact hi) (by rw [hN]; exact hold) h1) h
theorem wpList_storeZ (hgd : o.guard = none) (t : TypeId) (x y : Operand) (ho : o.op = .store t x y) (g : Nat) (cells : Array Value) (hx : a.eval x = .pointer (some ⟨g, 0, none⟩)) (hy : a.eval y = .agg cells)
    (t' : TypeId) (old : Array Value) (hg : w.heap[g]? = some (.cells old t' (0, 0))) (N : Nat) (hN : cells.size = N) (hi : (P.info? t).map (·.size) = some N) (hold : old.size = N) (h1 : cells.all (·.oneCell') = true)
    (h : wpList P ops Q rest (a.put o.dst undef) (w.setRow g cells)) : wpList P ops Q (o :: rest) a w :=
  wpList_skipZ hgd (exec_storeZ t x y ho g cells hx hy t' old hg (by rw [hN]; exact hi) (by rw [hN]; exact hold) h1) h
end

/-- cells of numbers, as an array holds them -/
abbrev numsA (b : List Int) : Array Value := (intV b).toArray
theorem numsA_size (b : List Int) : (numsA b).size = b.length := by simp
theorem numsA_one (b : List Int) : (numsA b).all (·.oneCell') = true := by
  rw [Array.all_eq_true_iff_forall_mem]
  intro u hu
  simp at hu
  obtain ⟨x, _, rfl⟩ := hu
  rfl
theorem numsA_get {b : List Int} {k : Nat} (h : k < b.length) : (numsA b)[k]? = some (.int .i64 (b[k]?.getD 0)) := by simp [h]
theorem numsA_set (b : List Int) (k : Nat) (x : Int) : (numsA b).setIfInBounds k (.int .i64 x) = numsA (b.set k x) := by
  apply Array.ext'
  simp [List.map_set]

theorem a64_under : Try.prog.underlying 41 = some (.array 64 3) := by kernel_rfl
theorem a64_info : (Try.prog.info? 41).map (·.size) = some 64 := by kernel_rfl
theorem a64_zero : (Try.prog.info? 41).map (·.zero) = some (some (.agg (numsA zeros64))) := by kernel_rfl
theorem run_index64 (t : TypeId) (hu : Try.prog.underlying t = some (.array 64 3)) (cs : Array Value) (k : Nat) (v : Value) (hk : k < 64) (hv : cs[k]? = some v) (W : World) :
    (Instr.index t (.agg cs) (.int .i64 k)).run Try.prog W = .ok v W := by
  have h2 : (sizeOf 3).run Try.prog W = .ok 1 W := by kernel_rfl
  simp [Instr.index, asIntOf, Sem.run_bind, run_underlying hu, hk, part, h2, hv]
theorem a64_index {b : List Int} (hb : b.length = 64) {k : Nat} (hk : k < 64) (W : World) : (Instr.index 41 (.agg (numsA b)) (.int .i64 k)).run Try.prog W = .ok (.int .i64 (b[k]?.getD 0)) W :=
  run_index64 _ a64_under _ k _ hk (numsA_get (by omega)) W

/-- numbers lie in a block of their own -/
def NumsAt (w : World) (g : Nat) (t : TypeId) (b : List Int) : Prop := w.heap[g]? = some (.cells (numsA b) t (0, 0))
theorem NumsAt.cell {w : World} {g : Nat} {t : TypeId} {b : List Int} (h : NumsAt w g t b) {k : Nat} (hk : k < b.length) : w.cell? ⟨g, k, none⟩ = some (.int .i64 (b[k]?.getD 0)) := by
  unfold NumsAt at h
  simp [World.cell?, h, hk]
theorem NumsAt.frozen {w : World} {g : Nat} {t : TypeId} {b : List Int} (h : NumsAt w g t b) (k : Nat) : w.frozen? ⟨g, k, none⟩ = false := by
  unfold NumsAt at h
  simp [World.frozen?, h]
theorem NumsAt.lt {w : World} {g : Nat} {t : TypeId} {b : List Int} (h : NumsAt w g t b) : g < w.heap.size := (Array.getElem?_eq_some_iff.1 h).1
theorem NumsAt.set {w : World} {g : Nat} {t : TypeId} {b : List Int} (h : NumsAt w g t b) (k : Nat) (x : Int) : NumsAt (w.setCell ⟨g, k, none⟩ (.int .i64 x)) g t (b.set k x) := by
  unfold NumsAt at h ⊢
  rw [heap_setCell_same w g k _ _ _ h, numsA_set]
theorem NumsAt.other {w : World} {g : Nat} {t : TypeId} {b : List Int} (h : NumsAt w g t b) {p : Addr} (hp : g ≠ p.block) (v : Value) : NumsAt (w.setCell p v) g t b := (heap_setCell_other w p g v hp).trans h
theorem NumsAt.below {n : Nat} {w w' : World} {g : Nat} {t : TypeId} {b : List Int} (h : NumsAt w g t b) (hb : Below n w w') (hg : g < n) : NumsAt w' g t b := (hb.block g hg).trans h
theorem NumsAt.alloc {w : World} {g : Nat} {t : TypeId} {b : List Int} (h : NumsAt w g t b) (o : Obj) : NumsAt (w.alloc o) g t b := (Below.heap_alloc _ _ _ h.lt).trans h
theorem numsAt_new (w : World) (t : TypeId) (b : List Int) : NumsAt (w.alloc (.cells (numsA b) t)) w.heap.size t b := World.alloc_heap_new w _
theorem NumsAt.cells {w : World} {g : Nat} {t : TypeId} {b : List Int} (h : NumsAt w g t b) : ∀ j u, (intV b)[j]? = some u → w.cell? ((⟨g, 0, none⟩ : Addr).add j) = some u := by
  intro j u hu
  have hadd : (⟨g, 0, none⟩ : Addr).add j = ⟨g, j, none⟩ := by unfold Addr.add; split <;> simp_all
  rw [hadd]
  have hj : j < b.length := by
    false_or_by_contra
    rw [List.getElem?_eq_none (by simp; omega)] at hu
    cases hu
  rw [h.cell hj]
  rw [← hu]
  simp [hj]
/-- the whole of the block, as a row that the call owns -/
theorem NumsAt.own {w : World} {g : Nat} {t : TypeId} {b : List Int} (h : NumsAt w g t b) (hb : b.length = 64) {base : Nat} (hg : base ≤ g) : w.ownsRow base t 1 (.slice (some ⟨g, 0, none⟩) 64 64) 64 (intV b) :=
  ⟨by simp [hb], .inr ⟨g, 64, numsA b, rfl, hg, h, Nat.le_refl _, by unfold maxLen; decide, by simp [hb], List.take_of_length_le (by simp [hb])⟩⟩

theorem NumsAt.setRow {w : World} {g : Nat} {t : TypeId} {b c : List Int} (h : NumsAt w g t b) : NumsAt (w.setRow g (numsA c)) g t c := setRow_heap w g _ _ t _ h
theorem NumsAt.setRow_other {w : World} {g g' : Nat} {t : TypeId} {b : List Int} (h : NumsAt w g t b) (hg : g ≠ g') (cs : Array Value) : NumsAt (w.setRow g' cs) g t b := (Go.setRow_other w g' g cs hg).trans h
theorem below_setRowZ {B g : Nat} {w0 w : World} (hb : Below B w0 w) (hBg : B ≤ g) (cs : Array Value) : Below B w0 (w.setRow g cs) :=
  ⟨hb.os, hb.tape, hb.output, by simpa using hb.size, fun k hk => (Go.setRow_other w g k cs (by omega)).trans (hb.block k hk)⟩

end Go.Proofs.Ytpmdeoiajnfabaa
