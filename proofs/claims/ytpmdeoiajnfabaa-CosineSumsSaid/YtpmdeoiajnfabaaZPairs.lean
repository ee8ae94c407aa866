/- Lists of pairs (api.Pair): how they lie in memory; an append of them; the kit's SamePairs; pairs that came in as an argument. -/
import Derived.Test.YtpmdeoiajnfabaaPTree
import Derived.Test.YtpmdeoiajnfabaaStrsIn
import Derived.Deep.SlicePairs
namespace Go.Proofs.Ytpmdeoiajnfabaa
open Go.RowKit Go.Shelf Go.ChangeShapes Go.WideShapes
set_option linter.unusedVariables false
/-- the cells of pairs -/
def cellsQ (l : List (Int × Int)) : List Value := l.flatMap fun c => [.int .i64 c.1, .int .i64 c.2]
theorem cellsQ_append (a b : List (Int × Int)) : cellsQ (a ++ b) = cellsQ a ++ cellsQ b := by simp [cellsQ]
theorem cellsQ_length (l : List (Int × Int)) : (cellsQ l).length = l.length * 2 := by
  induction l with
  | nil => rfl
  | cons c l ih => simp [cellsQ] at ih ⊢; omega
theorem cellsQ_at {l : List (Int × Int)} {k : Nat} {p : Int × Int} (h : l[k]? = some p) : (cellsQ l)[k * 2]? = some (.int .i64 p.1) ∧ (cellsQ l)[k * 2 + 1]? = some (.int .i64 p.2) := by
  induction l generalizing k with
  | nil => simp at h
  | cons c l ih =>
    have e : cellsQ (c :: l) = .int .i64 c.1 :: .int .i64 c.2 :: cellsQ l := by simp [cellsQ]
    rw [e]
    match k with
    | 0 => simp at h; subst h; simp
    | k + 1 =>
      have := ih (k := k) (by simpa using h)
      rw [show (k + 1) * 2 = k * 2 + 1 + 1 by omega]
      simpa using this
theorem cellsQ_of {l : List (Int × Int)} {j : Nat} {u : Value} (h : (cellsQ l)[j]? = some u) : ∃ p, l[j / 2]? = some p ∧ u = if j % 2 = 0 then .int .i64 p.1 else .int .i64 p.2 := by
  have hj : j < l.length * 2 := by
    false_or_by_contra
    rw [List.getElem?_eq_none (by rw [cellsQ_length]; omega)] at h
    cases h
  have hk : l[j / 2]? = some (l[j / 2]'(by omega)) := List.getElem?_eq_getElem (by omega)
  refine ⟨_, hk, ?_⟩
  obtain ⟨h1, h2⟩ := cellsQ_at hk
  by_cases he : j % 2 = 0
  · rw [if_pos he]
    rw [show j / 2 * 2 = j by omega, h] at h1
    exact Option.some.inj h1
  · rw [if_neg he]
    rw [show j / 2 * 2 + 1 = j by omega, h] at h2
    exact Option.some.inj h2
theorem cellsQ_one {l : List (Int × Int)} : ∀ u ∈ cellsQ l, u.oneCell' = true := by
  intro u hu
  simp [cellsQ] at hu
  obtain ⟨a, b, _, rfl | rfl⟩ := hu <;> rfl

/-- pairs lie there -/
def PairsAt (w : World) (b off : Nat) (ps : List (Int × Int)) : Prop := ∀ j p, ps[j]? = some p → w.cell? ⟨b, off + j * 2, none⟩ = some (.int .i64 p.1) ∧ w.cell? ⟨b, off + j * 2 + 1, none⟩ = some (.int .i64 p.2)
theorem PairsAt.below {n : Nat} {w w' : World} {b off : Nat} {ps : List (Int × Int)} (h : PairsAt w b off ps) (hb : Below n w w') (hlt : b < n) : PairsAt w' b off ps := fun j p hp =>
  ⟨(hb.cell (p := ⟨b, off + j * 2, none⟩) hlt).trans (h j p hp).1, (hb.cell (p := ⟨b, off + j * 2 + 1, none⟩) hlt).trans (h j p hp).2⟩
theorem PairsAt.later {w w' : World} {b off : Nat} {ps : List (Int × Int)} (h : PairsAt w b off ps) (hb : Below w.heap.size w w') : PairsAt w' b off ps := fun j p hp =>
  ⟨(hb.cell (p := ⟨b, off + j * 2, none⟩) (World.block_lt_of_cell? w _ (h j p hp).1)).trans (h j p hp).1, (hb.cell (p := ⟨b, off + j * 2 + 1, none⟩) (World.block_lt_of_cell? w _ (h j p hp).2)).trans (h j p hp).2⟩
theorem PairsAt.cells {w : World} {b off : Nat} {ps : List (Int × Int)} (h : PairsAt w b off ps) : ∀ j u, (cellsQ ps)[j]? = some u → w.cell? ((⟨b, off, none⟩ : Addr).add j) = some u := by
  intro j u hu
  have hadd : (⟨b, off, none⟩ : Addr).add j = ⟨b, off + j, none⟩ := by unfold Addr.add; split <;> simp_all
  rw [hadd]
  obtain ⟨p, hp, rfl⟩ := cellsQ_of hu
  obtain ⟨h1, h2⟩ := h _ _ hp
  split
  · rename_i he
    rw [show off + j / 2 * 2 = off + j by omega] at h1
    exact h1
  · rename_i he
    rw [show off + j / 2 * 2 + 1 = off + j by omega] at h2
    exact h2

/-- pairs that came in, in a block below n₀ -/
def RowP (n₀ : Nat) (w : World) (a : Option Addr) (len cap : Nat) (ps : List (Int × Int)) : Prop :=
  ps.length = len ∧ len ≤ cap ∧ cap ≤ 9223372036854775807 ∧ (cap = 0 ∨ ∃ b off, a = some ⟨b, off, none⟩ ∧ (0 < len → b < n₀) ∧ PairsAt w b off ps)
theorem RowP.below {n₀ : Nat} {w w' : World} {a : Option Addr} {len cap : Nat} {ps : List (Int × Int)} (h : RowP n₀ w a len cap ps) (hb : Below n₀ w w') : RowP n₀ w' a len cap ps := by
  obtain ⟨h1, h2, h3, h4⟩ := h
  refine ⟨h1, h2, h3, h4.imp id fun ⟨b, off, e, hlt, hc⟩ => ⟨b, off, e, hlt, fun j p hp => ?_⟩⟩
  have hj : j < ps.length := by
    false_or_by_contra
    rw [List.getElem?_eq_none (by omega)] at hp
    cases hp
  have hbl := hlt (by omega)
  exact ⟨(hb.cell (p := ⟨b, off + j * 2, none⟩) hbl).trans (hc j p hp).1, (hb.cell (p := ⟨b, off + j * 2 + 1, none⟩) hbl).trans (hc j p hp).2⟩
theorem RowP.mono {n₀ n₁ : Nat} {w : World} {a : Option Addr} {len cap : Nat} {ps : List (Int × Int)} (h : RowP n₀ w a len cap ps) (hn : n₀ ≤ n₁) : RowP n₁ w a len cap ps := by
  obtain ⟨h1, h2, h3, h4⟩ := h
  exact ⟨h1, h2, h3, h4.imp id fun ⟨b, off, e, hlt, hc⟩ => ⟨b, off, e, fun h => Nat.lt_of_lt_of_le (hlt h) hn, hc⟩⟩
theorem RowP.nil (n₀ : Nat) (w : World) : RowP n₀ w none 0 0 [] := ⟨rfl, Nat.le_refl _, by omega, .inl rfl⟩
/-- what an append of pairs takes -/
def SrcP (w : World) (A : Option Addr) (m : Nat) (ps : List (Int × Int)) : Prop := ps.length = m ∧ (m = 0 ∨ ∃ ad, A = some ad ∧ ∀ j u, (cellsQ ps)[j]? = some u → w.cell? (ad.add j) = some u)
theorem RowP.src {n₀ : Nat} {w : World} {a : Option Addr} {len cap : Nat} {ps : List (Int × Int)} (h : RowP n₀ w a len cap ps) : SrcP w a len ps := by
  obtain ⟨h1, h2, h3, h4⟩ := h
  refine ⟨h1, ?_⟩
  rcases h4 with rfl | ⟨b, off, rfl, _, hc⟩
  · left; omega
  · exact .inr ⟨_, rfl, hc.cells⟩
theorem SrcP.alloc {w : World} {A : Option Addr} {m : Nat} {ps : List (Int × Int)} (h : SrcP w A m ps) (o : Obj) : SrcP (w.alloc o) A m ps :=
  ⟨h.1, h.2.imp id fun ⟨ad, e, hc⟩ => ⟨ad, e, fun j u hu => (World.cell?_alloc_old _ _ _ (Nat.ne_of_lt (World.block_lt_of_cell? w _ (hc j u hu)))).trans (hc j u hu)⟩⟩
theorem RowP.nocap {n₀ : Nat} {w : World} {a : Option Addr} {len cap : Nat} {ps : List (Int × Int)} (h : RowP n₀ w a len cap ps) : a = none → cap = 0 := by
  rcases h.2.2.2 with h | ⟨b, off, rfl, _⟩
  · exact fun _ => h
  · exact fun e => by cases e
theorem rowP_own {w : World} {base n : Nat} {e : TypeId} {v : Value} {ps : List (Int × Int)} (h : w.ownsRow base e 2 v n (cellsQ ps)) : ∃ a cap, v = .slice a n cap ∧ RowP w.heap.size w a n cap ps := by
  have hl : ps.length = n := by have := h.1; rw [cellsQ_length] at this; omega
  rcases id h.2 with ⟨rfl, h0⟩ | ⟨g, cap, cur, rfl, _, hg, hc, hm, _⟩
  · exact ⟨none, 0, by rw [h0], hl, by omega, by omega, .inl rfl⟩
  · refine ⟨_, cap, rfl, hl, hc, by unfold maxLen at hm; omega, .inr ⟨g, 0, rfl, fun _ => (Array.getElem?_eq_some_iff.1 hg).1, fun j p hp => ?_⟩⟩
    have hj : j < ps.length := by
      false_or_by_contra
      rw [List.getElem?_eq_none (by omega)] at hp
      cases hp
    obtain ⟨h1, h2⟩ := cellsQ_at hp
    rw [Nat.zero_add]
    exact ⟨(h.cellAt (j * 2) (by omega)).trans h1, (h.cellAt (j * 2 + 1) (by omega)).trans h2⟩
/-- a slice of pairs whose cells are known -/
def CellsP (w : World) (v : Value) (ps : List (Int × Int)) : Prop := ∃ a cap, v = .slice a ps.length cap ∧ (ps = [] ∨ ∃ b off, a = some ⟨b, off, none⟩ ∧ PairsAt w b off ps)
theorem RowP.cellsP {n₀ : Nat} {w : World} {a : Option Addr} {len cap : Nat} {ps : List (Int × Int)} (h : RowP n₀ w a len cap ps) : CellsP w (.slice a len cap) ps := by
  obtain ⟨h1, h2, h3, h4⟩ := h
  subst h1
  refine ⟨a, cap, rfl, ?_⟩
  rcases h4 with rfl | ⟨b, off, e, _, hc⟩
  · exact .inl (List.eq_nil_of_length_eq_zero (by omega))
  · exact .inr ⟨b, off, e, hc⟩
theorem cellsP_own {w : World} {base n : Nat} {e : TypeId} {v : Value} {ps : List (Int × Int)} (h : w.ownsRow base e 2 v n (cellsQ ps)) : CellsP w v ps := by
  obtain ⟨a, cap, rfl, hr⟩ := rowP_own h
  exact hr.cellsP
theorem CellsP.below {w w' : World} {v : Value} {ps : List (Int × Int)} (h : CellsP w v ps) (hb : Below w.heap.size w w') : CellsP w' v ps := by
  obtain ⟨a, cap, e, h2⟩ := h
  exact ⟨a, cap, e, h2.imp id fun ⟨b, off, e, hc⟩ => ⟨b, off, e, hc.later hb⟩⟩

/-! ### append of pairs -/
/-- rows of elements of any size are kept -/
theorem ownsRow_barN {S : Nat → Prop} {w w' : World} {base n sz : Nat} {e : TypeId} {v : Value} {xs : List Value} (h : w.ownsRow base e sz v n xs) (hb : Bar S w w') (hS : ∀ k, v.ownBlock = some k → ¬ S k) : w'.ownsRow base e sz v n xs := by
  refine ⟨h.1, ?_⟩
  rcases h.2 with hn | ⟨g, cap, cur, rfl, hbb, hg, rest⟩
  · exact .inl hn
  · exact .inr ⟨g, cap, cur, rfl, hbb, (hb.block g (Array.getElem?_eq_some_iff.1 hg).1 (hS g rfl)).trans hg, rest⟩
theorem ownsRow_belowN {w w' : World} {base n sz : Nat} {e : TypeId} {v : Value} {xs : List Value} (h : w.ownsRow base e sz v n xs) (hb : Below w.heap.size w w') : w'.ownsRow base e sz v n xs := by
  have hlt := h.lt
  refine ⟨h.1, ?_⟩
  rcases h.2 with hn | ⟨g', cap, cur, rfl, hbb, hg, rest⟩
  · exact .inl hn
  · exact .inr ⟨g', cap, cur, rfl, hbb, (hb.block g' (hlt g' rfl).2).trans hg, rest⟩
theorem ownsRow_baseN {w : World} {base base' n sz : Nat} {e : TypeId} {v : Value} {xs : List Value} (h : w.ownsRow base e sz v n xs) (hb : base' ≤ base) : w.ownsRow base' e sz v n xs := by
  refine ⟨h.1, ?_⟩
  rcases h.2 with h | ⟨g, cap, cur, e, hg, r⟩
  · exact .inl h
  · exact .inr ⟨g, cap, cur, e, by omega, r⟩

/-! ### the kit's SamePairs -/
/-! ### pairs that came in as an argument -/
section
variable {H : Type} {enc : TypeId × Value → H} {W : World}
end

end Go.Proofs.Ytpmdeoiajnfabaa
