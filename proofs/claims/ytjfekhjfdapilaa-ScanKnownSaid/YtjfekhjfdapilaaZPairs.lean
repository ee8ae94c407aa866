/- Lists of pairs (api.Pair): how they lie in memory; an append of them; the kit's SamePairs; pairs that came in as an argument. -/
import Derived.Test.YtjfekhjfdapilaaPTree
import Derived.Test.YtjfekhjfdapilaaStrsIn
import Derived.Deep.SlicePairs
namespace Go.Proofs.Ytjfekhjfdapilaa
open Go.RowKit Go.Shelf Go.ChangeShapes Go.WideShapes
set_option linter.unusedVariables false

theorem Try.info39z : (Try.prog.info? 39).map (fun i => (i.zero, i.size, i.bytes)) = some (some (.agg #[.int .i64 0, .int .i64 0]), 2, 16) := by kernel_rfl
theorem Try.underlying22z : Try.prog.underlying 22 = some (.slice 39) := by kernel_rfl

/-- the cells of pairs -/
def cellsQ (l : List (Int × Int)) : List Value := l.flatMap fun c => [.int .i64 c.1, .int .i64 c.2]
theorem cellsQ_append (a b : List (Int × Int)) : cellsQ (a ++ b) = cellsQ a ++ cellsQ b := by simp [cellsQ]
theorem cellsQ_length (l : List (Int × Int)) : (cellsQ l).length = l.length * 2 := by
  induction l with
  | nil => rfl
  | cons c l ih => simp [cellsQ] at ih ⊢; omega
theorem cellsQ_at {l : List (Int × Int)} {k : Nat} {p : Int × Int} (h : l[k]? = some p) : (cellsQ l)[k * 2]? = some (.int .i64 p.1) ∧ (cellsQ l)[k * 2 + 1]? = some (.int .i64 p.2) := by
  induction l generalizing k with
  | nil => simp at h
  | cons c l ih =>
    have e : cellsQ (c :: l) = .int .i64 c.1 :: .int .i64 c.2 :: cellsQ l := by simp [cellsQ]
    rw [e]
    match k with
    | 0 => simp at h; subst h; simp
    | k + 1 =>
      have := ih (k := k) (by simpa using h)
      rw [show (k + 1) * 2 = k * 2 + 1 + 1 by omega]
      simpa using this
theorem cellsQ_of {l : List (Int × Int)} {j : Nat} {u : Value} (h : (cellsQ l)[j]? = some u) : ∃ p, l[j / 2]? = some p ∧ u = if j % 2 = 0 then .int .i64 p.1 else .int .i64 p.2 := by
  have hj : j < l.length * 2 := by
    false_or_by_contra
    rw [List.getElem?_eq_none (by rw [cellsQ_length]; omega)] at h
    cases h
  have hk : l[j / 2]? = some (l[j / 2]'(by omega)) := List.getElem?_eq_getElem (by omega)
  refine ⟨_, hk, ?_⟩
  obtain ⟨h1, h2⟩ := cellsQ_at hk
  by_cases he : j % 2 = 0
  · rw [if_pos he]
    rw [show j / 2 * 2 = j by omega, h] at h1
    exact Option.some.inj h1
  · rw [if_neg he]
    rw [show j / 2 * 2 + 1 = j by omega, h] at h2
    exact Option.some.inj h2
theorem cellsQ_one {l : List (Int × Int)} : ∀ u ∈ cellsQ l, u.oneCell' = true := by
  intro u hu
  simp [cellsQ] at hu
  obtain ⟨a, b, _, rfl | rfl⟩ := hu <;> rfl

/-- pairs lie there -/
def PairsAt (w : World) (b off : Nat) (ps : List (Int × Int)) : Prop := ∀ j p, ps[j]? = some p → w.cell? ⟨b, off + j * 2, none⟩ = some (.int .i64 p.1) ∧ w.cell? ⟨b, off + j * 2 + 1, none⟩ = some (.int .i64 p.2)
theorem PairsAt.below {n : Nat} {w w' : World} {b off : Nat} {ps : List (Int × Int)} (h : PairsAt w b off ps) (hb : Below n w w') (hlt : b < n) : PairsAt w' b off ps := fun j p hp =>
  ⟨(hb.cell (p := ⟨b, off + j * 2, none⟩) hlt).trans (h j p hp).1, (hb.cell (p := ⟨b, off + j * 2 + 1, none⟩) hlt).trans (h j p hp).2⟩
theorem PairsAt.later {w w' : World} {b off : Nat} {ps : List (Int × Int)} (h : PairsAt w b off ps) (hb : Below w.heap.size w w') : PairsAt w' b off ps := fun j p hp =>
  ⟨(hb.cell (p := ⟨b, off + j * 2, none⟩) (World.block_lt_of_cell? w _ (h j p hp).1)).trans (h j p hp).1, (hb.cell (p := ⟨b, off + j * 2 + 1, none⟩) (World.block_lt_of_cell? w _ (h j p hp).2)).trans (h j p hp).2⟩
theorem PairsAt.cells {w : World} {b off : Nat} {ps : List (Int × Int)} (h : PairsAt w b off ps) : ∀ j u, (cellsQ ps)[j]? = some u → w.cell? ((⟨b, off, none⟩ : Addr).add j) = some u := by
  intro j u hu
  have hadd : (⟨b, off, none⟩ : Addr).add j = ⟨b, off + j, none⟩ := by unfold Addr.add; split <;> simp_all
  rw [hadd]
  obtain ⟨p, hp, rfl⟩ := cellsQ_of hu
  obtain ⟨h1, h2⟩ := h _ _ hp
  split
  · rename_i he
    rw [show off + j / 2 * 2 = off + j by omega] at h1
    exact h1
  · rename_i he
    rw [show off + j / 2 * 2 + 1 = off + j by omega] at h2
    exact h2

/-- pairs that came in, in a block below n₀ -/
def RowP (n₀ : Nat) (w : World) (a : Option Addr) (len cap : Nat) (ps : List (Int × Int)) : Prop :=
  ps.length = len ∧ len ≤ cap ∧ cap ≤ 9223372036854775807 ∧ (cap = 0 ∨ ∃ b off, a = some ⟨b, off, none⟩ ∧ (0 < len → b < n₀) ∧ PairsAt w b off ps)
theorem RowP.below {n₀ : Nat} {w w' : World} {a : Option Addr} {len cap : Nat} {ps : List (Int × Int)} (h : RowP n₀ w a len cap ps) (hb : Below n₀ w w') : RowP n₀ w' a len cap ps := by
  obtain ⟨h1, h2, h3, h4⟩ := h
  refine ⟨h1, h2, h3, h4.imp id fun ⟨b, off, e, hlt, hc⟩ => ⟨b, off, e, hlt, fun j p hp => ?_⟩⟩
  have hj : j < ps.length := by
    false_or_by_contra
    rw [List.getElem?_eq_none (by omega)] at hp
    cases hp
  have hbl := hlt (by omega)
  exact ⟨(hb.cell (p := ⟨b, off + j * 2, none⟩) hbl).trans (hc j p hp).1, (hb.cell (p := ⟨b, off + j * 2 + 1, none⟩) hbl).trans (hc j p hp).2⟩
theorem RowP.mono {n₀ n₁ : Nat} {w : World} {a : Option Addr} {len cap : Nat} {ps : List (Int × Int)} (h : RowP n₀ w a len cap ps) (hn : n₀ ≤ n₁) : RowP n₁ w a len cap ps := by
  obtain ⟨h1, h2, h3, h4⟩ := h
  exact ⟨h1, h2, h3, h4.imp id fun ⟨b, off, e, hlt, hc⟩ => ⟨b, off, e, fun h => Nat.lt_of_lt_of_le (hlt h) hn, hc⟩⟩
theorem RowP.nil (n₀ : Nat) (w : World) : RowP n₀ w none 0 0 [] := ⟨rfl, Nat.le_refl _, by omega, .inl rfl⟩
/-- what an append of pairs takes -/
def SrcP (w : World) (A : Option Addr) (m : Nat) (ps : List (Int × Int)) : Prop := ps.length = m ∧ (m = 0 ∨ ∃ ad, A = some ad ∧ ∀ j u, (cellsQ ps)[j]? = some u → w.cell? (ad.add j) = some u)
theorem RowP.src {n₀ : Nat} {w : World} {a : Option Addr} {len cap : Nat} {ps : List (Int × Int)} (h : RowP n₀ w a len cap ps) : SrcP w a len ps := by
  obtain ⟨h1, h2, h3, h4⟩ := h
  refine ⟨h1, ?_⟩
  rcases h4 with rfl | ⟨b, off, rfl, _, hc⟩
  · left; omega
  · exact .inr ⟨_, rfl, hc.cells⟩
theorem SrcP.alloc {w : World} {A : Option Addr} {m : Nat} {ps : List (Int × Int)} (h : SrcP w A m ps) (o : Obj) : SrcP (w.alloc o) A m ps :=
  ⟨h.1, h.2.imp id fun ⟨ad, e, hc⟩ => ⟨ad, e, fun j u hu => (World.cell?_alloc_old _ _ _ (Nat.ne_of_lt (World.block_lt_of_cell? w _ (hc j u hu)))).trans (hc j u hu)⟩⟩
theorem RowP.nocap {n₀ : Nat} {w : World} {a : Option Addr} {len cap : Nat} {ps : List (Int × Int)} (h : RowP n₀ w a len cap ps) : a = none → cap = 0 := by
  rcases h.2.2.2 with h | ⟨b, off, rfl, _⟩
  · exact fun _ => h
  · exact fun e => by cases e
theorem rowP_own {w : World} {base n : Nat} {e : TypeId} {v : Value} {ps : List (Int × Int)} (h : w.ownsRow base e 2 v n (cellsQ ps)) : ∃ a cap, v = .slice a n cap ∧ RowP w.heap.size w a n cap ps := by
  have hl : ps.length = n := by have := h.1; rw [cellsQ_length] at this; omega
  rcases id h.2 with ⟨rfl, h0⟩ | ⟨g, cap, cur, rfl, _, hg, hc, hm, _⟩
  · exact ⟨none, 0, by rw [h0], hl, by omega, by omega, .inl rfl⟩
  · refine ⟨_, cap, rfl, hl, hc, by unfold maxLen at hm; omega, .inr ⟨g, 0, rfl, fun _ => (Array.getElem?_eq_some_iff.1 hg).1, fun j p hp => ?_⟩⟩
    have hj : j < ps.length := by
      false_or_by_contra
      rw [List.getElem?_eq_none (by omega)] at hp
      cases hp
    obtain ⟨h1, h2⟩ := cellsQ_at hp
    rw [Nat.zero_add]
    exact ⟨(h.cellAt (j * 2) (by omega)).trans h1, (h.cellAt (j * 2 + 1) (by omega)).trans h2⟩
/-- a slice of pairs whose cells are known -/
def CellsP (w : World) (v : Value) (ps : List (Int × Int)) : Prop := ∃ a cap, v = .slice a ps.length cap ∧ (ps = [] ∨ ∃ b off, a = some ⟨b, off, none⟩ ∧ PairsAt w b off ps)
theorem RowP.cellsP {n₀ : Nat} {w : World} {a : Option Addr} {len cap : Nat} {ps : List (Int × Int)} (h : RowP n₀ w a len cap ps) : CellsP w (.slice a len cap) ps := by
  obtain ⟨h1, h2, h3, h4⟩ := h
  subst h1
  refine ⟨a, cap, rfl, ?_⟩
  rcases h4 with rfl | ⟨b, off, e, _, hc⟩
  · exact .inl (List.eq_nil_of_length_eq_zero (by omega))
  · exact .inr ⟨b, off, e, hc⟩
theorem cellsP_own {w : World} {base n : Nat} {e : TypeId} {v : Value} {ps : List (Int × Int)} (h : w.ownsRow base e 2 v n (cellsQ ps)) : CellsP w v ps := by
  obtain ⟨a, cap, rfl, hr⟩ := rowP_own h
  exact hr.cellsP
theorem CellsP.below {w w' : World} {v : Value} {ps : List (Int × Int)} (h : CellsP w v ps) (hb : Below w.heap.size w w') : CellsP w' v ps := by
  obtain ⟨a, cap, e, h2⟩ := h
  exact ⟨a, cap, e, h2.imp id fun ⟨b, off, e, hc⟩ => ⟨b, off, e, hc.later hb⟩⟩

/-! ### append of pairs -/
def AppendedP (w w' : World) (base : Nat) (v v' : Value) (n : Nat) (ps : List (Int × Int)) : Prop :=
  w'.ownsRow base 39 2 v' n (cellsQ ps) ∧ w.grownBy w' v.ownBlock ∧ ∀ k, v'.ownBlock = some k → v.ownBlock = some k ∨ w.heap.size ≤ k
theorem run_append_p {w : World} (base : Nat) (v : Value) (n : Nat) (xs : List (Int × Int)) (hown : w.ownsRow base 39 2 v n (cellsQ xs)) (A : Option Addr) (m c : Nat) (news : List (Int × Int)) (hs : SrcP w A m news) (hnc : A = none → c = 0)
    (hfit : n + m ≤ 1000000000) (hbase : base ≤ w.heap.size) (ty : TypeId) :
    ∃ v' w', (Builtin.append_ #[22, 22] ty #[v, .slice A m c]).run Try.prog w = .ok v' w' ∧ AppendedP w w' base v v' (n + m) (xs ++ news) := by
  obtain ⟨i, hi, hz0, hz1, hz2⟩ := info_parts Try.info39z
  unfold AppendedP
  rw [cellsQ_append]
  cases A with
  | none =>
    have hm : m = 0 := by
      rcases hs.2 with h | ⟨ad, e, _⟩
      · exact h
      · cases e
    subst hm
    have hn : news = [] := List.eq_nil_of_length_eq_zero hs.1
    subst hn
    obtain rfl := hnc rfl
    exact ⟨v, w, run_append_owned_none w base 22 ty 39 i 2 Try.underlying22z hi v n _ hown, by simpa [cellsQ] using hown, World.grownBy.refl w _, fun k hk => .inl hk⟩
  | some ad =>
    have hl : (cellsQ news).length = m * 2 := by rw [cellsQ_length, hs.1]
    have hat : ∀ j u, (cellsQ news)[j]? = some u → w.cell? (ad.add j) = some u := by
      rcases hs.2 with h0 | ⟨ad', e, hc⟩
      · intro j u hu
        have := List.eq_nil_of_length_eq_zero (hs.1.trans h0)
        subst this
        simp [cellsQ] at hu
      · cases e
        exact hc
    obtain ⟨v', w', hr, h2, h3, _⟩ := run_append_own (P := Try.prog) w base 22 ty 39 i (.agg #[.int .i64 0, .int .i64 0]) 2 16 Try.underlying22z hi hz0 hz1 hz2 rfl (by decide) v n _ hown ad m c _ hl hat cellsQ_one (by unfold maxLen; omega) (by omega) hbase
    exact ⟨v', w', hr, h2, h3, append_where w 22 ty 39 i (.agg #[.int .i64 0, .int .i64 0]) 2 16 Try.underlying22z hi hz0 hz1 hz2 rfl (by decide) base v n _ hown ad m c _ hl hat cellsQ_one (by unfold maxLen; omega) (by omega) hr⟩
theorem wp_append_p {w : World} {o : Oper} {a : Act} {K : Act → World → Prop} {Q : Exit → Act → World → Prop} (s x : Operand)
    (ho : o.op = .call { callee := .builtin .append, args := #[s, x], argTypes := #[22, 22] })
    (base : Nat) (v : Value) (n : Nat) (xs : List (Int × Int)) (hv : a.eval s = v) (hown : w.ownsRow base 39 2 v n (cellsQ xs))
    (A : Option Addr) (m c : Nat) (news : List (Int × Int)) (hx : a.eval x = .slice A m c) (hs : SrcP w A m news) (hnc : A = none → c = 0) (hfit : n + m ≤ 1000000000) (hbase : base ≤ w.heap.size)
    (h : ∀ v' w', AppendedP w w' base v v' (n + m) (xs ++ news) → K (a.put o.dst v') w') : o.wp Try.prog a w K Q := by
  obtain ⟨v', w', hrun, hd⟩ := run_append_p (w := w) base v n xs hown A m c news hs hnc hfit hbase o.type
  unfold Oper.wp execOp
  simp only [ho, resolve, invoke, builtin, Sem.run_bind, Sem.run_pure, Result.andThen_ok, List.map_toArray, List.map_cons, List.map_nil, hv, hx, hrun]
  exact h v' w' hd
theorem wpList_append_p {w : World} {ops : Array Oper} {rest : List Oper} {o : Oper} {a : Act} {Q : Exit → Act → World → Prop} (hgd : o.guard = none) (s x : Operand)
    (ho : o.op = .call { callee := .builtin .append, args := #[s, x], argTypes := #[22, 22] })
    (base : Nat) (v : Value) (n : Nat) (xs : List (Int × Int)) (hv : a.eval s = v) (hown : w.ownsRow base 39 2 v n (cellsQ xs))
    (A : Option Addr) (m c : Nat) (news : List (Int × Int)) (hx : a.eval x = .slice A m c) (hs : SrcP w A m news) (hnc : A = none → c = 0) (hfit : n + m ≤ 1000000000) (hbase : base ≤ w.heap.size)
    (h : ∀ v' w', AppendedP w w' base v v' (n + m) (xs ++ news) → wpList Try.prog ops Q rest (a.put o.dst v') w') : wpList Try.prog ops Q (o :: rest) a w :=
  wpList_plain hgd fun _ hK => wp_append_p s x ho base v n xs hv hown A m c news hx hs hnc hfit hbase fun v' w' hd => hK _ _ (h v' w' hd)
theorem own_emptyP (w : World) : (w.alloc (.cells #[] 39 (0, 0))).ownsRow w.heap.size 39 2 (.slice (some ⟨w.heap.size, 0, none⟩) 0 0) 0 (cellsQ []) :=
  World.ownsRow_made w #[] 0 (Nat.le_refl _) (by unfold maxLen; omega) rfl
theorem first_p {w w1 : World} {n : Nat} {v1 : Value} {xs : List (Int × Int)} (h : AppendedP (w.alloc (.cells #[] 39 (0, 0))) w1 w.heap.size (.slice (some ⟨w.heap.size, 0, none⟩) 0 0) v1 (0 + n) ([] ++ xs)) :
    w1.ownsRow w.heap.size 39 2 v1 n (cellsQ xs) ∧ Below w.heap.size w w1 := by
  have hrow1 := h.1
  rw [Nat.zero_add, List.nil_append] at hrow1
  exact ⟨hrow1, ((Below.refl _ w).alloc (Nat.le_refl _) _).grown h.2.1 (by simp) (fun k e => by simp [Value.ownBlock] at e; omega)⟩
/-- rows of elements of any size are kept -/
theorem ownsRow_barN {S : Nat → Prop} {w w' : World} {base n sz : Nat} {e : TypeId} {v : Value} {xs : List Value} (h : w.ownsRow base e sz v n xs) (hb : Bar S w w') (hS : ∀ k, v.ownBlock = some k → ¬ S k) : w'.ownsRow base e sz v n xs := by
  refine ⟨h.1, ?_⟩
  rcases h.2 with hn | ⟨g, cap, cur, rfl, hbb, hg, rest⟩
  · exact .inl hn
  · exact .inr ⟨g, cap, cur, rfl, hbb, (hb.block g (Array.getElem?_eq_some_iff.1 hg).1 (hS g rfl)).trans hg, rest⟩
theorem ownsRow_belowN {w w' : World} {base n sz : Nat} {e : TypeId} {v : Value} {xs : List Value} (h : w.ownsRow base e sz v n xs) (hb : Below w.heap.size w w') : w'.ownsRow base e sz v n xs := by
  have hlt := h.lt
  refine ⟨h.1, ?_⟩
  rcases h.2 with hn | ⟨g', cap, cur, rfl, hbb, hg, rest⟩
  · exact .inl hn
  · exact .inr ⟨g', cap, cur, rfl, hbb, (hb.block g' (hlt g' rfl).2).trans hg, rest⟩
theorem ownsRow_baseN {w : World} {base base' n sz : Nat} {e : TypeId} {v : Value} {xs : List Value} (h : w.ownsRow base e sz v n xs) (hb : base' ≤ base) : w.ownsRow base' e sz v n xs := by
  refine ⟨h.1, ?_⟩
  rcases h.2 with h | ⟨g, cap, cur, e, hg, r⟩
  · exact .inl h
  · exact .inr ⟨g, cap, cur, e, by omega, r⟩

/-! ### the kit's SamePairs -/
theorem pair_eql (a b c d : Int) (w : World) : (binOp .eql 39 (.agg #[.int .i64 a, .int .i64 b]) (.agg #[.int .i64 c, .int .i64 d])).run Try.prog w = .ok (.bool (a == c && b == d)) w := by
  have hS : Try.prog.underlying 39 = some (.struct (Try.prog.fieldsOf 39)) := by kernel_rfl
  have hp : Try.prog.stoodInHeld 39 = false := by kernel_rfl
  rw [run_eql_struct, show (10000 : Nat) = 9999 + 1 from rfl, run_equalIn_agg w 9999 39 _ _ hS hp]
  have u3 := Try.underlying3
  have hu := Try.underlying39
  simp only [Program.fieldsOf, Try.underlying39]
  go_simp
  by_cases h1 : a = c <;> by_cases h2 : b = d <;> simp [h1, h2]
theorem pair_neq (a b c d : Int) (w : World) : (binOp .neq 39 (.agg #[.int .i64 a, .int .i64 b]) (.agg #[.int .i64 c, .int .i64 d])).run Try.prog w = .ok (.bool (!(a == c && b == d))) w := by
  have h := pair_eql a b c d w
  rw [run_eql_struct] at h
  simp only [binOp]
  have hq : ((Op.equal 39 (.agg #[.int .i64 a, .int .i64 b]) (.agg #[.int .i64 c, .int .i64 d])).run Try.prog w) = .ok (a == c && b == d) w := by
    show (Op.equalIn 10000 39 (.agg #[.int .i64 a, .int .i64 b]) (.agg #[.int .i64 c, .int .i64 d])).run Try.prog w = _
    cases hr : (Op.equalIn 10000 39 (.agg #[.int .i64 a, .int .i64 b]) (.agg #[.int .i64 c, .int .i64 d])).run Try.prog w with
    | ok v w' =>
      rw [hr] at h
      simp [Result.andThen] at h
      rw [h.1, h.2]
    | _ => rw [hr] at h; simp [Result.andThen] at h
  simp [hq]

set_option maxRecDepth 100000 in
set_option maxHeartbeats 1000000 in
theorem samePairs_any {w : World} {u v : Value} {xs ys : List (Int × Int)} (h1 : CellsP w u xs) (h2 : CellsP w v ys) (hx : xs.length ≤ 1000000000) (hy : ys.length ≤ 1000000000) :
    Calls Try.prog 16 #[u, v] w fun e w' => e = .returned (.bool (decide (xs = ys))) ∧ Below w.heap.size w w' := by
  obtain ⟨a, cap, rfl, h1⟩ := h1
  obtain ⟨a', cap', rfl, h2⟩ := h2
  have HX := Lib.hid h1
  have HY := Lib.hid h2
  clear h1 h2
  by_cases hl : xs.length = ys.length
  · have t1 : ((xs.length : Int) != (ys.length : Int)) = false := by rw [bne_eq_false_iff_eq]; omega
    have HL := Lib.hid hl
    clear hl
    go_enter Try.func16, Try.ntmps16
    go_wp2_with fail
    clear t1
    go_loopw [5] (fun i wr => ∃ k : Nat, i = .int .i64 k ∧ k ≤ xs.length ∧ (∀ j, j < k → xs[j]? = ys[j]?) ∧ Below w.heap.size w wr) (fun i _ => xs.length - (intOf i).toNat)
    case atStart => exact ⟨0, rfl, by omega, fun j hj => by omega, Below.refl _ _⟩
    case round =>
      obtain ⟨k, rfl, hk, hsame, hB⟩ := hrel
      have HSm := Lib.hid hsame
      have HB := Lib.hid hB
      clear hsame hB
      by_cases hk2 : k < xs.length
      · have hk3 : k < ys.length := by have := HL.out; omega
        rcases HX.out with e | ⟨b1, o1, rfl, hc1⟩
        · subst e; simp at hk2
        rcases HY.out with e | ⟨b2, o2, rfl, hc2⟩
        · subst e; simp at hk3
        have g1 : xs[k]? = some xs[k] := List.getElem?_eq_getElem hk2
        have g2 : ys[k]? = some ys[k] := List.getElem?_eq_getElem hk3
        obtain ⟨x1, x2⟩ := (hc1.later HB.out) k _ g1
        obtain ⟨y1, y2⟩ := (hc2.later HB.out) k _ g2
        have q1 : (k : Int) < (xs.length : Int) := by omega
        have q2 : (k : Int) < (ys.length : Int) := by omega
        have q3 : (0 : Int) ≤ (k : Int) := by omega
        have G1 := Lib.hid g1
        have G2 := Lib.hid g2
        clear hc1 hc2 g1 g2
        by_cases hne : xs[k] = ys[k]
        · have HNe : Hid (xs[k]? = ys[k]?) := by show xs[k]? = ys[k]?; rw [G1.out, G2.out, hne]
          clear G1 G2
          obtain ⟨p1, p2⟩ : xs[k].1 = ys[k].1 ∧ xs[k].2 = ys[k].2 := by rw [hne]; exact ⟨rfl, rfl⟩
          clear hne
          generalize xs[k].1 = r1 at *
          generalize xs[k].2 = l1 at *
          generalize ys[k].1 = r2 at *
          generalize ys[k].2 = l2 at *
          subst p1 p2
          have heq := fun W => pair_neq r1 l1 r1 l1 W
          simp only [beq_self_eq_true, Bool.and_self, Bool.not_true] at heq
          go_wp2_with fail
          go_quiet (fail)
          clear q1 q2 q3
          go_wp2
          go_roundw
          case rel => exact ⟨k + 1, by go_num, by omega, fun j hj => by
            by_cases e : j = k
            · rw [e]; exact HNe.out
            · exact HSm.out j (by omega), HB.out.trans (below_drewN _ _ _)⟩
          case measure => simp [intOf]; omega
        · have HE : Hid (decide (xs = ys) = false) := by
            show decide (xs = ys) = false
            apply decide_eq_false
            intro e
            subst e
            exact hne rfl
          clear G1 G2
          have hne2 : (xs[k].1 == ys[k].1 && xs[k].2 == ys[k].2) = false := by
            rw [Bool.and_eq_false_iff, beq_eq_false_iff_ne, beq_eq_false_iff_ne]
            by_cases e : xs[k].1 = ys[k].1
            · exact .inr (fun e2 => hne (Prod.ext e e2))
            · exact .inl e
          clear hne
          generalize xs[k].1 = r1 at *
          generalize xs[k].2 = l1 at *
          generalize ys[k].1 = r2 at *
          generalize ys[k].2 = l2 at *
          have heq := fun W => pair_neq r1 l1 r2 l2 W
          rw [hne2] at heq
          simp only [Bool.not_false] at heq
          clear hne2
          go_wp2_with fail
          go_quiet (fail)
          go_wp2
          go_ret
          exact ⟨ret_bool HE.out.symm, HB.out.trans (below_drewN _ _ _)⟩
      · have hkn : k = xs.length := by omega
        subst k
        have HE : Hid (decide (xs = ys) = true) := by
          show decide (xs = ys) = true
          apply decide_eq_true
          apply List.ext_getElem?
          intro j
          by_cases hj : j < xs.length
          · exact HSm.out j hj
          · rw [List.getElem?_eq_none (by omega), List.getElem?_eq_none (by have := HL.out; omega)]
        go_wp2
        go_ret
        exact ⟨ret_bool HE.out.symm, HB.out⟩
  · have t1 : ((xs.length : Int) != (ys.length : Int)) = true := by rw [bne_iff_ne]; omega
    have HE : Hid (decide (xs = ys) = false) := decide_eq_false (fun e => hl (by rw [e]))
    clear hl
    go_enter Try.func16, Try.ntmps16
    go_wp2
    go_ret
    exact ⟨ret_bool HE.out.symm, Below.refl _ _⟩

/-! ### pairs that came in as an argument -/
section
variable {H : Type} {enc : TypeId × Value → H} {W : World}
theorem pairs_of_trod {fuel : Nat} {a : Option Addr} {len cap : Nat} {x : DataW H × List MemPlace} (h : DataW.trod enc Try.prog W 0 (fun _ => true) true fuel 22 [.slice a len cap] = some x) :
    ∃ ps : List (Int × Int), RowP W.heap.size W a len cap ps ∧ ∀ p ∈ ps, (-9223372036854775808 ≤ p.1 ∧ p.1 ≤ 9223372036854775807) ∧ (-9223372036854775808 ≤ p.2 ∧ p.2 ≤ 9223372036854775807) := by
  rcases Go.Deep.open_slice_pairs Try.underlying22z Try.underlying39 (by kernel_rfl) rfl rfl (by kernel_rfl) (by kernel_rfl) h with ⟨hcs, _⟩ | ⟨a', len', cap', m, n, V0, V1, D0, D1, P0, P1, hcs, _, hl, hm, hmm, _, hi⟩
  · simp at hcs
    obtain ⟨rfl, rfl, rfl⟩ := hcs
    exact ⟨[], RowP.nil _ _, fun p hp => by simp at hp⟩
  · simp at hcs
    obtain ⟨rfl, rfl, rfl⟩ := hcs
    simp at hmm
    subst hmm
    have hex : ∀ i, ∃ y : Int × Int, ((-9223372036854775808 ≤ y.1 ∧ y.1 ≤ 9223372036854775807) ∧ (-9223372036854775808 ≤ y.2 ∧ y.2 ≤ 9223372036854775807)) ∧ (i < m → W.cell? (a'.add (i * 2)) = some (.int .i64 y.1) ∧ W.cell? (a'.add (i * 2 + 1)) = some (.int .i64 y.2)) := by
      intro i
      by_cases hil : i < m
      · obtain ⟨c0, c1, t0, t1⟩ := hi i hil
        obtain ⟨s0, hs0, _, hwf0⟩ := DataW.trod_int Try.underlying3 t0
        obtain ⟨s1, hs1, _, hwf1⟩ := DataW.trod_int Try.underlying3 t1
        simp at hs0 hs1
        rw [hs0] at c0
        rw [hs1] at c1
        exact ⟨(s0, s1), ⟨wf_i64 hwf0, wf_i64 hwf1⟩, fun _ => ⟨c0, c1⟩⟩
      · exact ⟨(0, 0), ⟨by simp, by simp⟩, fun h => absurd h hil⟩
    obtain ⟨f, hf'⟩ := Classical.axiomOfChoice hex
    have hf := fun i => (hf' i).2
    refine ⟨(List.range len).map f, ⟨by simp, hl, by unfold maxLen at hm; omega, ?_⟩, fun n hn => by
      rw [List.mem_map] at hn
      obtain ⟨i, _, rfl⟩ := hn
      exact (hf' i).1⟩
    by_cases h0 : m = 0
    · exact .inl h0
    · right
      have hc0 := (hf 0 (by omega)).1
      obtain ⟨b, off, spot⟩ := a'
      have hspot : spot = none := by simpa [Addr.add] using World.cell?_spot hc0
      subst hspot
      have hadd : ∀ j, (⟨b, off, none⟩ : Addr).add j = ⟨b, off + j, none⟩ := fun j => by unfold Addr.add; split <;> simp_all
      refine ⟨b, off, rfl, fun _ => by rw [hadd] at hc0; exact cell_lt hc0, fun j p hp => ?_⟩
      have hj : j < len := by
        false_or_by_contra
        rw [List.getElem?_eq_none (by simp; omega)] at hp
        cases hp
      obtain ⟨h2, h3⟩ := hf j (by omega)
      rw [hadd] at h2 h3
      simp [hj] at hp
      subst hp
      exact ⟨h2, by simpa [Nat.add_assoc] using h3⟩
end

end Go.Proofs.Ytjfekhjfdapilaa
