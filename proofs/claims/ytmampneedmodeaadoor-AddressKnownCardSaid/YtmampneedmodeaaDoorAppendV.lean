/- Append of one-cell elements of any type to a row that the call owns, from whatever slice; rows of values that came in. -/
import Derived.Test.YtmampneedmodeaaDoorTree3
namespace Go.Proofs.YtmampneedmodeaaDoor
open Go.RowKit Go.Shelf
set_option linter.unusedVariables false

/-- a slice whose cells are known, in a block below n₀ -/
def RowV (n₀ : Nat) (w : World) (a : Option Addr) (len cap : Nat) (vs : List Value) : Prop :=
  vs.length = len ∧ len ≤ cap ∧ cap ≤ 9223372036854775807 ∧ (cap = 0 ∨ ∃ b off, a = some ⟨b, off, none⟩ ∧ b < n₀ ∧ ∀ j u, vs[j]? = some u → w.cell? ⟨b, off + j, none⟩ = some u)
theorem RowV.below {n₀ : Nat} {w w' : World} {a : Option Addr} {len cap : Nat} {vs : List Value} (h : RowV n₀ w a len cap vs) (hb : Below n₀ w w') : RowV n₀ w' a len cap vs := by
  obtain ⟨h1, h2, h3, h4⟩ := h
  exact ⟨h1, h2, h3, h4.imp id fun ⟨b, off, e, hlt, hc⟩ => ⟨b, off, e, hlt, fun j u hu => (hb.cell (p := ⟨b, off + j, none⟩) hlt).trans (hc j u hu)⟩⟩
theorem RowV.src {n₀ : Nat} {w : World} {a : Option Addr} {len cap : Nat} {vs : List Value} (h : RowV n₀ w a len cap vs) : Src w a len vs := by
  obtain ⟨h1, h2, h3, h4⟩ := h
  refine ⟨h1, ?_⟩
  rcases h4 with rfl | ⟨b, off, rfl, _, hc⟩
  · left; omega
  · right
    refine ⟨_, rfl, fun j u hu => ?_⟩
    have hadd : (⟨b, off, none⟩ : Addr).add j = ⟨b, off + j, none⟩ := by unfold Addr.add; split <;> simp_all
    rw [hadd]
    exact hc j u hu
theorem RowV.nocap {n₀ : Nat} {w : World} {a : Option Addr} {len cap : Nat} {vs : List Value} (h : RowV n₀ w a len cap vs) : a = none → cap = 0 := by
  rcases h.2.2.2 with h | ⟨b, off, rfl, _⟩
  · exact fun _ => h
  · exact fun e => by cases e
theorem RowV.cells {n₀ : Nat} {w : World} {a : Option Addr} {len cap : Nat} {vs : List Value} (h : RowV n₀ w a len cap vs) (h0 : 0 < len) : ∃ b off, a = some ⟨b, off, none⟩ ∧ b < n₀ ∧ ∀ j u, vs[j]? = some u → w.cell? ⟨b, off + j, none⟩ = some u := by
  rcases h.2.2.2 with h' | h'
  · have := h.2.1; omega
  · exact h'

/-- what an append leaves -/
def AppendedV (e : TypeId) (w w' : World) (base : Nat) (v v' : Value) (n : Nat) (xs : List Value) : Prop :=
  w'.ownsRow base e 1 v' n xs ∧ w.grownBy w' v.ownBlock ∧ ∀ k, v'.ownBlock = some k → v.ownBlock = some k ∨ w.heap.size ≤ k

theorem run_append_v {w : World} (t e : TypeId) (i : TypeInfo) (z : Value) (by_ : Nat) (ht : Tryd.prog.underlying t = some (.slice e)) (hi : Tryd.prog.info? e = some i) (hz0 : i.zero = some z) (hz1 : i.size = 1) (hz2 : i.bytes = by_) (hzc : z.cells.size = 1)
    (base : Nat) (v : Value) (n : Nat) (xs : List Value) (hown : w.ownsRow base e 1 v n xs) (A : Option Addr) (m c : Nat) (news : List Value) (hs : Src w A m news) (hnc : A = none → c = 0)
    (h1 : ∀ u ∈ news, u.oneCell' = true) (hfit : (n + m) * by_ ≤ 140737488355328) (hfit2 : n + m ≤ 140737488355328) (hbase : base ≤ w.heap.size) (ty : TypeId) :
    ∃ v' w', (Builtin.append_ #[t, t] ty #[v, .slice A m c]).run Tryd.prog w = .ok v' w' ∧ AppendedV e w w' base v v' (n + m) (xs ++ news) := by
  cases A with
  | none =>
    have hm : m = 0 := by
      rcases hs.2 with h | ⟨ad, e, _⟩
      · exact h
      · cases e
    subst hm
    have hn : news = [] := List.eq_nil_of_length_eq_zero hs.1
    subst hn
    obtain rfl := hnc rfl
    exact ⟨v, w, run_append_owned_none w base t ty e i 1 ht hi v n xs hown, by simpa using hown, World.grownBy.refl w _, fun k hk => .inl hk⟩
  | some ad =>
    obtain ⟨v', w', hr, h2, h3, _⟩ := run_append_own (P := Tryd.prog) w base t ty e i z 1 by_ ht hi hz0 hz1 hz2 hzc (by decide) v n xs hown ad m c news (by rw [hs.1]; omega) hs.at_ h1 (by unfold maxLen; omega) hfit hbase
    exact ⟨v', w', hr, h2, h3, append_where w t ty e i z 1 by_ ht hi hz0 hz1 hz2 hzc (by decide) base v n xs hown ad m c news (by rw [hs.1]; omega) hs.at_ h1 (by unfold maxLen; omega) hfit hr⟩

theorem wp_append_v {w : World} {o : Oper} {a : Act} {K : Act → World → Prop} {Q : Exit → Act → World → Prop} (s x : Operand) (t e : TypeId) (i : TypeInfo) (z : Value) (by_ : Nat)
    (ho : o.op = .call { callee := .builtin .append, args := #[s, x], argTypes := #[t, t] }) (ht : Tryd.prog.underlying t = some (.slice e)) (hi : Tryd.prog.info? e = some i) (hz0 : i.zero = some z) (hz1 : i.size = 1) (hz2 : i.bytes = by_) (hzc : z.cells.size = 1)
    (base : Nat) (v : Value) (n : Nat) (xs : List Value) (hv : a.eval s = v) (hown : w.ownsRow base e 1 v n xs)
    (A : Option Addr) (m c : Nat) (news : List Value) (hx : a.eval x = .slice A m c) (hs : Src w A m news) (hnc : A = none → c = 0) (h1 : ∀ u ∈ news, u.oneCell' = true) (hfit : (n + m) * by_ ≤ 140737488355328) (hfit2 : n + m ≤ 140737488355328) (hbase : base ≤ w.heap.size)
    (h : ∀ v' w', AppendedV e w w' base v v' (n + m) (xs ++ news) → K (a.put o.dst v') w') : o.wp Tryd.prog a w K Q := by
  obtain ⟨v', w', hrun, hd⟩ := run_append_v (w := w) t e i z by_ ht hi hz0 hz1 hz2 hzc base v n xs hown A m c news hs hnc h1 hfit hfit2 hbase o.type
  unfold Oper.wp execOp
  simp only [ho, resolve, invoke, builtin, Sem.run_bind, Sem.run_pure, Result.andThen_ok, List.map_toArray, List.map_cons, List.map_nil, hv, hx, hrun]
  exact h v' w' hd
theorem wpList_append_v {w : World} {ops : Array Oper} {rest : List Oper} {o : Oper} {a : Act} {Q : Exit → Act → World → Prop} (hgd : o.guard = none) (s x : Operand) (t e : TypeId) (i : TypeInfo) (z : Value) (by_ : Nat)
    (ho : o.op = .call { callee := .builtin .append, args := #[s, x], argTypes := #[t, t] }) (ht : Tryd.prog.underlying t = some (.slice e)) (hi : Tryd.prog.info? e = some i) (hz0 : i.zero = some z) (hz1 : i.size = 1) (hz2 : i.bytes = by_) (hzc : z.cells.size = 1)
    (base : Nat) (v : Value) (n : Nat) (xs : List Value) (hv : a.eval s = v) (hown : w.ownsRow base e 1 v n xs)
    (A : Option Addr) (m c : Nat) (news : List Value) (hx : a.eval x = .slice A m c) (hs : Src w A m news) (hnc : A = none → c = 0) (h1 : ∀ u ∈ news, u.oneCell' = true) (hfit : (n + m) * by_ ≤ 140737488355328) (hfit2 : n + m ≤ 140737488355328) (hbase : base ≤ w.heap.size)
    (h : ∀ v' w', AppendedV e w w' base v v' (n + m) (xs ++ news) → wpList Tryd.prog ops Q rest (a.put o.dst v') w') : wpList Tryd.prog ops Q (o :: rest) a w :=
  wpList_plain hgd fun _ hK => wp_append_v s x t e i z by_ ho ht hi hz0 hz1 hz2 hzc base v n xs hv hown A m c news hx hs hnc h1 hfit hfit2 hbase fun v' w' hd => hK _ _ (h v' w' hd)

theorem Tryd.info9 : (Tryd.prog.info? 9).map (fun i => (i.zero, i.size, i.bytes)) = some (some (.string ⟨#[]⟩), 1, 16) := by kernel_rfl
theorem Tryd.underlying54x : Tryd.prog.underlying 54 = some (.slice 9) := by kernel_rfl
theorem strV_one {xs : List ByteArray} : ∀ u ∈ strV xs, u.oneCell' = true := by
  intro u hu; simp at hu; obtain ⟨z, _, rfl⟩ := hu; rfl
theorem intV_one {xs : List Int} : ∀ u ∈ intV xs, u.oneCell' = true := by
  intro u hu; simp at hu; obtain ⟨z, _, rfl⟩ := hu; rfl

end Go.Proofs.YtmampneedmodeaaDoor
