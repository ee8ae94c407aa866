/- Append of bytes, from whatever slice of bytes (nil and empty ones too), to a row that the call owns: what comes out, and where it lies. -/
import Derived.Test.YtmampneedmodeaaDoorCopy
import Derived.Laws.OwnMore
namespace Go.Proofs.YtmampneedmodeaaDoor
open Go.RowKit Go.Shelf
set_option linter.unusedVariables false

/-- the source of an append: m cells from an address on, or none at all -/
def Src (w : World) (A : Option Addr) (m : Nat) (news : List Value) : Prop := news.length = m ∧ (m = 0 ∨ ∃ ad, A = some ad ∧ ∀ j u, news[j]? = some u → w.cell? (ad.add j) = some u)
theorem Src.at_ {w : World} {ad : Addr} {m : Nat} {news : List Value} (h : Src w (some ad) m news) : ∀ j u, news[j]? = some u → w.cell? (ad.add j) = some u := by
  rcases h.2 with h0 | ⟨ad', e, hc⟩
  · intro j u hu
    have := List.eq_nil_of_length_eq_zero (h.1.trans h0)
    subst this
    simp at hu
  · cases e; exact hc
theorem Src.alloc {w : World} {A : Option Addr} {m : Nat} {news : List Value} (h : Src w A m news) (o : Obj) : Src (w.alloc o) A m news := by
  refine ⟨h.1, h.2.imp id fun ⟨ad, e, hc⟩ => ⟨ad, e, fun j u hu => ?_⟩⟩
  have := hc j u hu
  exact (World.cell?_of_block (Below.heap_alloc _ _ _ (World.block_lt_of_cell? w _ this))).trans this
/-- what an append of bytes leaves -/
def Appended (w w' : World) (base : Nat) (v v' : Value) (n : Nat) (xs : List Value) : Prop :=
  w'.ownsRow base 5 1 v' n xs ∧ w.grownBy w' v.ownBlock ∧ ∀ k, v'.ownBlock = some k → v.ownBlock = some k ∨ w.heap.size ≤ k

theorem run_append_src {w : World} (base : Nat) (v : Value) (n : Nat) (xs : List Value) (hown : w.ownsRow base 5 1 v n xs) (A : Option Addr) (m c : Nat) (news : List Value) (hs : Src w A m news) (hnc : A = none → c = 0)
    (h1 : ∀ u ∈ news, u.oneCell' = true) (hfit : n + m ≤ 140737488355328) (hbase : base ≤ w.heap.size) (ty : TypeId) :
    ∃ v' w', (Builtin.append_ #[22, 22] ty #[v, .slice A m c]).run Tryd.prog w = .ok v' w' ∧ Appended w w' base v v' (n + m) (xs ++ news) := by
  obtain ⟨i0, hi, hz0, hz1, hz2⟩ := info_parts Tryd.info5
  cases A with
  | none =>
    have hm : m = 0 := by
      rcases hs.2 with h | ⟨ad, e, _⟩
      · exact h
      · cases e
    subst hm
    have hn : news = [] := List.eq_nil_of_length_eq_zero hs.1
    subst hn
    obtain rfl := hnc rfl
    exact ⟨v, w, run_append_owned_none w base 22 ty 5 i0 1 Tryd.underlying22 hi v n xs hown, by simpa using hown, World.grownBy.refl w _, fun k hk => .inl hk⟩
  | some ad =>
    obtain ⟨v', w', hr, h2, h3, _⟩ := run_append_own (P := Tryd.prog) w base 22 ty 5 i0 (.int .u8 0) 1 1 Tryd.underlying22 hi hz0 hz1 hz2 rfl (by decide) v n xs hown ad m c news (by rw [hs.1]; omega) hs.at_ h1 (by unfold maxLen; omega) (by omega) hbase
    exact ⟨v', w', hr, h2, h3, append_where w 22 ty 5 i0 (.int .u8 0) 1 1 Tryd.underlying22 hi hz0 hz1 hz2 rfl (by decide) base v n xs hown ad m c news (by rw [hs.1]; omega) hs.at_ h1 (by unfold maxLen; omega) (by omega) hr⟩

theorem wp_append_src {w : World} {o : Oper} {a : Act} {K : Act → World → Prop} {Q : Exit → Act → World → Prop} (s x : Operand)
    (ho : o.op = .call { callee := .builtin .append, args := #[s, x], argTypes := #[22, 22] }) (base : Nat) (v : Value) (n : Nat) (xs : List Value) (hv : a.eval s = v) (hown : w.ownsRow base 5 1 v n xs)
    (A : Option Addr) (m c : Nat) (news : List Value) (hx : a.eval x = .slice A m c) (hs : Src w A m news) (hnc : A = none → c = 0) (h1 : ∀ u ∈ news, u.oneCell' = true) (hfit : n + m ≤ 140737488355328) (hbase : base ≤ w.heap.size)
    (h : ∀ v' w', Appended w w' base v v' (n + m) (xs ++ news) → K (a.put o.dst v') w') : o.wp Tryd.prog a w K Q := by
  obtain ⟨v', w', hrun, hd⟩ := run_append_src (w := w) base v n xs hown A m c news hs hnc h1 hfit hbase o.type
  unfold Oper.wp execOp
  simp only [ho, resolve, invoke, builtin, Sem.run_bind, Sem.run_pure, Result.andThen_ok, List.map_toArray, List.map_cons, List.map_nil, hv, hx, hrun]
  exact h v' w' hd
theorem wpList_append_src {w : World} {ops : Array Oper} {rest : List Oper} {o : Oper} {a : Act} {Q : Exit → Act → World → Prop} (hgd : o.guard = none) (s x : Operand)
    (ho : o.op = .call { callee := .builtin .append, args := #[s, x], argTypes := #[22, 22] }) (base : Nat) (v : Value) (n : Nat) (xs : List Value) (hv : a.eval s = v) (hown : w.ownsRow base 5 1 v n xs)
    (A : Option Addr) (m c : Nat) (news : List Value) (hx : a.eval x = .slice A m c) (hs : Src w A m news) (hnc : A = none → c = 0) (h1 : ∀ u ∈ news, u.oneCell' = true) (hfit : n + m ≤ 140737488355328) (hbase : base ≤ w.heap.size)
    (h : ∀ v' w', Appended w w' base v v' (n + m) (xs ++ news) → wpList Tryd.prog ops Q rest (a.put o.dst v') w') : wpList Tryd.prog ops Q (o :: rest) a w :=
  wpList_plain hgd fun _ hK => wp_append_src s x ho base v n xs hv hown A m c news hx hs hnc h1 hfit hbase fun v' w' hd => hK _ _ (h v' w' hd)
theorem step_append_src {w : World} {ops : Array Oper} {o : Oper} {a : Act} {K : Act → World → Prop} {Q : Exit → Act → World → Prop} {E : Prop} (hgd : o.guard = none) (s x : Operand)
    (ho : o.op = .call { callee := .builtin .append, args := #[s, x], argTypes := #[22, 22] }) (base : Nat) (v : Value) (n : Nat) (xs : List Value) (hv : a.eval s = v) (hown : w.ownsRow base 5 1 v n xs)
    (A : Option Addr) (m c : Nat) (news : List Value) (hx : a.eval x = .slice A m c) (hs : Src w A m news) (hnc : A = none → c = 0) (h1 : ∀ u ∈ news, u.oneCell' = true) (hfit : n + m ≤ 140737488355328) (hbase : base ≤ w.heap.size)
    (h : ∀ v' w', Appended w w' base v v' (n + m) (xs ++ news) → K (a.put o.dst v') w') : if Region.wanted o (yielded ops a.tmps) = true then Oper.wp Tryd.prog o a w K Q else E := by
  have hw : Region.wanted o (yielded ops a.tmps) = true := by simp [Region.wanted, hgd]
  rw [if_pos hw]
  exact wp_append_src s x ho base v n xs hv hown A m c news hx hs hnc h1 hfit hbase h

end Go.Proofs.YtmampneedmodeaaDoor
