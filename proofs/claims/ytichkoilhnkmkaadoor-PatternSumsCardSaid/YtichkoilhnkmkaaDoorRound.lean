/- What rounds of a range over a function's values keep: boxes of a call, rows that a call owns; an append inside any fence. -/
import Derived.Test.YtichkoilhnkmkaaDoorPGrow
import Derived.Test.YtichkoilhnkmkaaDoorKit
import Derived.OwnWalkIn
namespace Go.Proofs.YtichkoilhnkmkaaDoor
open Go.RowKit Go.Shelf
set_option linter.unusedVariables false
attribute [local go_sem] Oper.semAt_some

/-- the boxes of a call of Put -/
structure PutBoxes (W : World) (m : Nat) (n : Int) (s : ByteArray) (e : Int) : Prop where
  arg : W.heap[m]? = some (.cells #[.int .i64 n] 3 (0, 0))
  ra : W.heap[m + 1]? = some (.cells #[.string s] 9 (0, 0))
  rb : W.heap[m + 1 + 1]? = some (.cells #[.int .i64 e] 25 (0, 0))
theorem PutBoxes.kept {W W' : World} {row : Option Nat} {m : Nat} {n : Int} {s : ByteArray} {e : Int} (h : PutBoxes W m n s e) (hg : W.grownBy W' row) (hr : ∀ r, row = some r → ∃ o : Obj, W.heap[r]? = some o ∧ o.isCells = false) : PutBoxes W' m n s e :=
  ⟨(grownBy_keeps_cells hg hr h.arg rfl).trans h.arg, (grownBy_keeps_cells hg hr h.ra rfl).trans h.ra, (grownBy_keeps_cells hg hr h.rb rfl).trans h.rb⟩
theorem ownsRow_keptN {w w' : World} {base n : Nat} {e : TypeId} {v : Value} {xs : List Value} {row : Option Nat} (h : w.ownsRow base e 1 v n xs) (hg : w.grownBy w' row) (hr : ∀ r, row = some r → ∃ o : Obj, w.heap[r]? = some o ∧ o.isCells = false) : w'.ownsRow base e 1 v n xs := by
  refine h.kept hg ?_
  rcases h.2 with ⟨rfl, _⟩ | ⟨g, cap, cur, rfl, _, hc, _⟩
  · exact .inl rfl
  · right
    intro e
    obtain ⟨o, h1, h2⟩ := hr g e.symm
    rw [hc] at h1
    cases h1
    cases h2
theorem ownsRow_obj {w : World} {base n k : Nat} {e : TypeId} {v : Value} {xs : List Value} (h : w.ownsRow base e 1 v n xs) (hk : v.ownBlock = some k) : ∃ o : Obj, w.heap[k]? = some o ∧ o.isCells = true := by
  rcases h.2 with ⟨rfl, _⟩ | ⟨g, cap, cur, rfl, _, hc, _⟩
  · cases hk
  · cases hk; exact ⟨_, hc, rfl⟩
theorem src_at {W : World} {g : Nat} {u : Value} {t : TypeId} (h : W.heap[g]? = some (.cells #[u] t (0, 0))) : Src W (some ⟨g, 0, none⟩) 1 [u] := by
  refine ⟨rfl, .inr ⟨_, rfl, fun j v hv => ?_⟩⟩
  have hadd : (⟨g, 0, none⟩ : Addr).add j = ⟨g, 0 + j, none⟩ := by unfold Addr.add; split <;> simp_all
  rw [hadd, Nat.zero_add]
  match j, hv with
  | 0, hv => cases hv; exact (one_cell h).1

theorem info_int5 : (Tryd.prog.info? 3).map (fun i => (i.zero, i.size, i.bytes)) = some (some (.int .i64 0), 1, 8) := by kernel_rfl

section In
variable {F : Fence} {n : Nat} {P : Program} {ops : Array Oper} {Q : Exit → Act → World → Prop}

/-- an operation that yields a value, inside any fence -/
theorem operIn_val {o : Oper} {a : Act} {w w' : World} {K : Act → World → Prop} {v : Value} (hab : o.about P w a.eval = none) (hnd : ∀ c, o.op ≠ .defer c) (hrun : (execOp a.eval o).run P w = .ok (.value v) w') (hK : K (a.put o.dst v) w') : o.wpIn F n P a w K Q := by
  unfold Oper.wpIn
  refine ⟨(fun f hf => by rw [hab] at hf; cases hf), ?_⟩
  rw [Oper.semAt_plain F _ _ hnd, hrun]
  exact hK
theorem operIn_append_v {w : World} {o : Oper} {a : Act} {K : Act → World → Prop} (s x : Operand) (t e : TypeId) (i : TypeInfo) (z : Value) (by_ : Nat)
    (ho : o.op = .call { callee := .builtin .append, args := #[s, x], argTypes := #[t, t] }) (ht : Tryd.prog.underlying t = some (.slice e)) (hi : Tryd.prog.info? e = some i) (hz0 : i.zero = some z) (hz1 : i.size = 1) (hz2 : i.bytes = by_) (hzc : z.cells.size = 1)
    (base : Nat) (v : Value) (n' : Nat) (xs : List Value) (hv : a.eval s = v) (hown : w.ownsRow base e 1 v n' xs)
    (A : Option Addr) (m c : Nat) (news : List Value) (hx : a.eval x = .slice A m c) (hs : Src w A m news) (hnc : A = none → c = 0) (h1 : ∀ u ∈ news, u.oneCell' = true) (hfit : (n' + m) * by_ ≤ 140737488355328) (hfit2 : n' + m ≤ 140737488355328) (hbase : base ≤ w.heap.size)
    (h : ∀ v' w', AppendedV e w w' base v v' (n' + m) (xs ++ news) → K (a.put o.dst v') w') : o.wpIn F n Tryd.prog a w K Q := by
  obtain ⟨v', w', hrun, hd⟩ := run_append_v (w := w) t e i z by_ ht hi hz0 hz1 hz2 hzc base v n' xs hown A m c news hs hnc h1 hfit hfit2 hbase o.type
  refine operIn_val (v := v') (w' := w') ?_ (by rw [ho]; intro c hc; cases hc) ?_ (h v' w' hd)
  · simp [Oper.about, ho, resolve, Target.leads, Sem.run_pure]
  · unfold execOp
    simp only [ho, resolve, invoke, builtin, Sem.run_bind, Sem.run_pure, Result.andThen_ok, List.map_toArray, List.map_cons, List.map_nil, hv, hx, hrun]
theorem wpListIn_append_v {w : World} {rest : List Oper} {o : Oper} {a : Act} (hgd : o.guard = none) (s x : Operand) (t e : TypeId) (i : TypeInfo) (z : Value) (by_ : Nat)
    (ho : o.op = .call { callee := .builtin .append, args := #[s, x], argTypes := #[t, t] }) (ht : Tryd.prog.underlying t = some (.slice e)) (hi : Tryd.prog.info? e = some i) (hz0 : i.zero = some z) (hz1 : i.size = 1) (hz2 : i.bytes = by_) (hzc : z.cells.size = 1)
    (base : Nat) (v : Value) (n' : Nat) (xs : List Value) (hv : a.eval s = v) (hown : w.ownsRow base e 1 v n' xs)
    (A : Option Addr) (m c : Nat) (news : List Value) (hx : a.eval x = .slice A m c) (hs : Src w A m news) (hnc : A = none → c = 0) (h1 : ∀ u ∈ news, u.oneCell' = true) (hfit : (n' + m) * by_ ≤ 140737488355328) (hfit2 : n' + m ≤ 140737488355328) (hbase : base ≤ w.heap.size)
    (h : ∀ v' w', AppendedV e w w' base v v' (n' + m) (xs ++ news) → wpListIn F n Tryd.prog ops Q rest (a.put o.dst v') w') : wpListIn F n Tryd.prog ops Q (o :: rest) a w :=
  wpListIn_plain hgd fun K hK => operIn_append_v s x t e i z by_ ho ht hi hz0 hz1 hz2 hzc base v n' xs hv hown A m c news hx hs hnc h1 hfit hfit2 hbase fun v' w' hd => hK _ _ (h v' w' hd)
end In

end Go.Proofs.YtichkoilhnkmkaaDoor
