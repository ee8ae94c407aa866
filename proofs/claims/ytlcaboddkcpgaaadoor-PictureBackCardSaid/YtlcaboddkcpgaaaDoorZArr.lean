/- Lists of pairs (api.Pair): how they lie in memory; an append of them; the kit's SamePairs; pairs that came in as an argument. A region that draws its order, inside any fence (a round of a range over a function too): what each operation keeps, whatever came up before it. Arrays of numbers by value: laid, boxed, loaded, stored, asked for one of them. Blocks of 64 numbers, and rows of numbers that a call owns: general (moved out of scan's texts). -/
import Derived.Test.YtlcaboddkcpgaaaDoorPTree
import Derived.Deep.SlicePairs
import Derived.Test.YtlcaboddkcpgaaaDoorLit
import Derived.OwnWalkIn
import Derived.Test.YtlcaboddkcpgaaaDoorCPlain
import Derived.Deep.WholeRow
/- Lists of pairs (api.Pair): how they lie in memory; an append of them; the kit's SamePairs; pairs that came in as an argument. -/
namespace Go.Proofs.YtlcaboddkcpgaaaDoor
open Go.RowKit Go.Shelf Go.ChangeShapes Go.WideShapes
set_option linter.unusedVariables false
/-- the cells of pairs -/
def cellsQ (l : List (Int × Int)) : List Value := l.flatMap fun c => [.int .i64 c.1, .int .i64 c.2]
theorem cellsQ_append (a b : List (Int × Int)) : cellsQ (a ++ b) = cellsQ a ++ cellsQ b := by simp [cellsQ]
theorem cellsQ_length (l : List (Int × Int)) : (cellsQ l).length = l.length * 2 := by
  induction l with
  | nil => rfl
  | cons c l ih => simp [cellsQ] at ih ⊢; omega
theorem cellsQ_at {l : List (Int × Int)} {k : Nat} {p : Int × Int} (h : l[k]? = some p) : (cellsQ l)[k * 2]? = some (.int .i64 p.1) ∧ (cellsQ l)[k * 2 + 1]? = some (.int .i64 p.2) := by
  induction l generalizing k with
  | nil => simp at h
  | cons c l ih =>
    have e : cellsQ (c :: l) = .int .i64 c.1 :: .int .i64 c.2 :: cellsQ l := by simp [cellsQ]
    rw [e]
    match k with
    | 0 => simp at h; subst h; simp
    | k + 1 =>
      have := ih (k := k) (by simpa using h)
      rw [show (k + 1) * 2 = k * 2 + 1 + 1 by omega]
      simpa using this
theorem cellsQ_of {l : List (Int × Int)} {j : Nat} {u : Value} (h : (cellsQ l)[j]? = some u) : ∃ p, l[j / 2]? = some p ∧ u = if j % 2 = 0 then .int .i64 p.1 else .int .i64 p.2 := by
  have hj : j < l.length * 2 := by
    false_or_by_contra
    rw [List.getElem?_eq_none (by rw [cellsQ_length]; omega)] at h
    cases h
  have hk : l[j / 2]? = some (l[j / 2]'(by omega)) := List.getElem?_eq_getElem (by omega)
  refine ⟨_, hk, ?_⟩
  obtain ⟨h1, h2⟩ := cellsQ_at hk
  by_cases he : j % 2 = 0
  · rw [if_pos he]
    rw [show j / 2 * 2 = j by omega, h] at h1
    exact Option.some.inj h1
  · rw [if_neg he]
    rw [show j / 2 * 2 + 1 = j by omega, h] at h2
    exact Option.some.inj h2
theorem cellsQ_one {l : List (Int × Int)} : ∀ u ∈ cellsQ l, u.oneCell' = true := by
  intro u hu
  simp [cellsQ] at hu
  obtain ⟨a, b, _, rfl | rfl⟩ := hu <;> rfl

/-- pairs lie there -/
def PairsAt (w : World) (b off : Nat) (ps : List (Int × Int)) : Prop := ∀ j p, ps[j]? = some p → w.cell? ⟨b, off + j * 2, none⟩ = some (.int .i64 p.1) ∧ w.cell? ⟨b, off + j * 2 + 1, none⟩ = some (.int .i64 p.2)
theorem PairsAt.below {n : Nat} {w w' : World} {b off : Nat} {ps : List (Int × Int)} (h : PairsAt w b off ps) (hb : Below n w w') (hlt : b < n) : PairsAt w' b off ps := fun j p hp =>
  ⟨(hb.cell (p := ⟨b, off + j * 2, none⟩) hlt).trans (h j p hp).1, (hb.cell (p := ⟨b, off + j * 2 + 1, none⟩) hlt).trans (h j p hp).2⟩
theorem PairsAt.later {w w' : World} {b off : Nat} {ps : List (Int × Int)} (h : PairsAt w b off ps) (hb : Below w.heap.size w w') : PairsAt w' b off ps := fun j p hp =>
  ⟨(hb.cell (p := ⟨b, off + j * 2, none⟩) (World.block_lt_of_cell? w _ (h j p hp).1)).trans (h j p hp).1, (hb.cell (p := ⟨b, off + j * 2 + 1, none⟩) (World.block_lt_of_cell? w _ (h j p hp).2)).trans (h j p hp).2⟩
theorem PairsAt.cells {w : World} {b off : Nat} {ps : List (Int × Int)} (h : PairsAt w b off ps) : ∀ j u, (cellsQ ps)[j]? = some u → w.cell? ((⟨b, off, none⟩ : Addr).add j) = some u := by
  intro j u hu
  have hadd : (⟨b, off, none⟩ : Addr).add j = ⟨b, off + j, none⟩ := by unfold Addr.add; split <;> simp_all
  rw [hadd]
  obtain ⟨p, hp, rfl⟩ := cellsQ_of hu
  obtain ⟨h1, h2⟩ := h _ _ hp
  split
  · rename_i he
    rw [show off + j / 2 * 2 = off + j by omega] at h1
    exact h1
  · rename_i he
    rw [show off + j / 2 * 2 + 1 = off + j by omega] at h2
    exact h2

/-- pairs that came in, in a block below n₀ -/
def RowP (n₀ : Nat) (w : World) (a : Option Addr) (len cap : Nat) (ps : List (Int × Int)) : Prop :=
  ps.length = len ∧ len ≤ cap ∧ cap ≤ 9223372036854775807 ∧ (cap = 0 ∨ ∃ b off, a = some ⟨b, off, none⟩ ∧ (0 < len → b < n₀) ∧ PairsAt w b off ps)
theorem RowP.below {n₀ : Nat} {w w' : World} {a : Option Addr} {len cap : Nat} {ps : List (Int × Int)} (h : RowP n₀ w a len cap ps) (hb : Below n₀ w w') : RowP n₀ w' a len cap ps := by
  obtain ⟨h1, h2, h3, h4⟩ := h
  refine ⟨h1, h2, h3, h4.imp id fun ⟨b, off, e, hlt, hc⟩ => ⟨b, off, e, hlt, fun j p hp => ?_⟩⟩
  have hj : j < ps.length := by
    false_or_by_contra
    rw [List.getElem?_eq_none (by omega)] at hp
    cases hp
  have hbl := hlt (by omega)
  exact ⟨(hb.cell (p := ⟨b, off + j * 2, none⟩) hbl).trans (hc j p hp).1, (hb.cell (p := ⟨b, off + j * 2 + 1, none⟩) hbl).trans (hc j p hp).2⟩
theorem RowP.mono {n₀ n₁ : Nat} {w : World} {a : Option Addr} {len cap : Nat} {ps : List (Int × Int)} (h : RowP n₀ w a len cap ps) (hn : n₀ ≤ n₁) : RowP n₁ w a len cap ps := by
  obtain ⟨h1, h2, h3, h4⟩ := h
  exact ⟨h1, h2, h3, h4.imp id fun ⟨b, off, e, hlt, hc⟩ => ⟨b, off, e, fun h => Nat.lt_of_lt_of_le (hlt h) hn, hc⟩⟩
theorem RowP.nil (n₀ : Nat) (w : World) : RowP n₀ w none 0 0 [] := ⟨rfl, Nat.le_refl _, by omega, .inl rfl⟩
/-- what an append of pairs takes -/
def SrcP (w : World) (A : Option Addr) (m : Nat) (ps : List (Int × Int)) : Prop := ps.length = m ∧ (m = 0 ∨ ∃ ad, A = some ad ∧ ∀ j u, (cellsQ ps)[j]? = some u → w.cell? (ad.add j) = some u)
theorem RowP.src {n₀ : Nat} {w : World} {a : Option Addr} {len cap : Nat} {ps : List (Int × Int)} (h : RowP n₀ w a len cap ps) : SrcP w a len ps := by
  obtain ⟨h1, h2, h3, h4⟩ := h
  refine ⟨h1, ?_⟩
  rcases h4 with rfl | ⟨b, off, rfl, _, hc⟩
  · left; omega
  · exact .inr ⟨_, rfl, hc.cells⟩
theorem SrcP.alloc {w : World} {A : Option Addr} {m : Nat} {ps : List (Int × Int)} (h : SrcP w A m ps) (o : Obj) : SrcP (w.alloc o) A m ps :=
  ⟨h.1, h.2.imp id fun ⟨ad, e, hc⟩ => ⟨ad, e, fun j u hu => (World.cell?_alloc_old _ _ _ (Nat.ne_of_lt (World.block_lt_of_cell? w _ (hc j u hu)))).trans (hc j u hu)⟩⟩
theorem RowP.nocap {n₀ : Nat} {w : World} {a : Option Addr} {len cap : Nat} {ps : List (Int × Int)} (h : RowP n₀ w a len cap ps) : a = none → cap = 0 := by
  rcases h.2.2.2 with h | ⟨b, off, rfl, _⟩
  · exact fun _ => h
  · exact fun e => by cases e
theorem rowP_own {w : World} {base n : Nat} {e : TypeId} {v : Value} {ps : List (Int × Int)} (h : w.ownsRow base e 2 v n (cellsQ ps)) : ∃ a cap, v = .slice a n cap ∧ RowP w.heap.size w a n cap ps := by
  have hl : ps.length = n := by have := h.1; rw [cellsQ_length] at this; omega
  rcases id h.2 with ⟨rfl, h0⟩ | ⟨g, cap, cur, rfl, _, hg, hc, hm, _⟩
  · exact ⟨none, 0, by rw [h0], hl, by omega, by omega, .inl rfl⟩
  · refine ⟨_, cap, rfl, hl, hc, by unfold maxLen at hm; omega, .inr ⟨g, 0, rfl, fun _ => (Array.getElem?_eq_some_iff.1 hg).1, fun j p hp => ?_⟩⟩
    have hj : j < ps.length := by
      false_or_by_contra
      rw [List.getElem?_eq_none (by omega)] at hp
      cases hp
    obtain ⟨h1, h2⟩ := cellsQ_at hp
    rw [Nat.zero_add]
    exact ⟨(h.cellAt (j * 2) (by omega)).trans h1, (h.cellAt (j * 2 + 1) (by omega)).trans h2⟩
/-- a slice of pairs whose cells are known -/
def CellsP (w : World) (v : Value) (ps : List (Int × Int)) : Prop := ∃ a cap, v = .slice a ps.length cap ∧ (ps = [] ∨ ∃ b off, a = some ⟨b, off, none⟩ ∧ PairsAt w b off ps)
theorem RowP.cellsP {n₀ : Nat} {w : World} {a : Option Addr} {len cap : Nat} {ps : List (Int × Int)} (h : RowP n₀ w a len cap ps) : CellsP w (.slice a len cap) ps := by
  obtain ⟨h1, h2, h3, h4⟩ := h
  subst h1
  refine ⟨a, cap, rfl, ?_⟩
  rcases h4 with rfl | ⟨b, off, e, _, hc⟩
  · exact .inl (List.eq_nil_of_length_eq_zero (by omega))
  · exact .inr ⟨b, off, e, hc⟩
theorem cellsP_own {w : World} {base n : Nat} {e : TypeId} {v : Value} {ps : List (Int × Int)} (h : w.ownsRow base e 2 v n (cellsQ ps)) : CellsP w v ps := by
  obtain ⟨a, cap, rfl, hr⟩ := rowP_own h
  exact hr.cellsP
theorem CellsP.below {w w' : World} {v : Value} {ps : List (Int × Int)} (h : CellsP w v ps) (hb : Below w.heap.size w w') : CellsP w' v ps := by
  obtain ⟨a, cap, e, h2⟩ := h
  exact ⟨a, cap, e, h2.imp id fun ⟨b, off, e, hc⟩ => ⟨b, off, e, hc.later hb⟩⟩

/-! ### append of pairs -/
/-- rows of elements of any size are kept -/
theorem ownsRow_barN {S : Nat → Prop} {w w' : World} {base n sz : Nat} {e : TypeId} {v : Value} {xs : List Value} (h : w.ownsRow base e sz v n xs) (hb : Bar S w w') (hS : ∀ k, v.ownBlock = some k → ¬ S k) : w'.ownsRow base e sz v n xs := by
  refine ⟨h.1, ?_⟩
  rcases h.2 with hn | ⟨g, cap, cur, rfl, hbb, hg, rest⟩
  · exact .inl hn
  · exact .inr ⟨g, cap, cur, rfl, hbb, (hb.block g (Array.getElem?_eq_some_iff.1 hg).1 (hS g rfl)).trans hg, rest⟩
theorem ownsRow_belowN {w w' : World} {base n sz : Nat} {e : TypeId} {v : Value} {xs : List Value} (h : w.ownsRow base e sz v n xs) (hb : Below w.heap.size w w') : w'.ownsRow base e sz v n xs := by
  have hlt := h.lt
  refine ⟨h.1, ?_⟩
  rcases h.2 with hn | ⟨g', cap, cur, rfl, hbb, hg, rest⟩
  · exact .inl hn
  · exact .inr ⟨g', cap, cur, rfl, hbb, (hb.block g' (hlt g' rfl).2).trans hg, rest⟩
theorem ownsRow_baseN {w : World} {base base' n sz : Nat} {e : TypeId} {v : Value} {xs : List Value} (h : w.ownsRow base e sz v n xs) (hb : base' ≤ base) : w.ownsRow base' e sz v n xs := by
  refine ⟨h.1, ?_⟩
  rcases h.2 with h | ⟨g, cap, cur, e, hg, r⟩
  · exact .inl h
  · exact .inr ⟨g, cap, cur, e, by omega, r⟩

/-! ### the kit's SamePairs -/
/-! ### pairs that came in as an argument -/
section
variable {H : Type} {enc : TypeId × Value → H} {W : World}
end

end Go.Proofs.YtlcaboddkcpgaaaDoor

/- A region that draws its order, inside any fence (a round of a range over a function too): what each operation keeps, whatever came up before it. -/
namespace Go.Proofs.YtlcaboddkcpgaaaDoor
open Go.RowKit Go.Shelf
set_option linter.unusedVariables false

/-- what has come up -/
def upB (L : Array Bool) (j : Nat) : Bool := L.getD j false
/-- what an operation stands behind has come up -/
def Behind (o : Oper) (L : Nat → Bool) : Prop := ∀ e ∈ o.after, Region.binds .any e = true → L e.on = true
/-- whatever has come up, all that it stands behind has -/
def ClosedB (ops : Array Oper) (L : Nat → Bool) : Prop := ∀ i o, ops[i]? = some o → L i = true → Behind o L
def setB (L : Nat → Bool) (i j : Nat) : Bool := if j = i then true else L j
theorem setB_same (L : Nat → Bool) (i : Nat) : setB L i i = true := by simp [setB]
theorem setB_ne {L : Nat → Bool} {i j : Nat} (h : j ≠ i) : setB L i j = L j := by simp [setB, h]

def offs (L : Array Bool) : Nat := (L.toList.filter (!·)).length
theorem offs_set {L : Array Bool} {i : Nat} (h : L.getD i true = false) : offs (L.setIfInBounds i true) + 1 = offs L := by
  have hi : i < L.size := by
    false_or_by_contra
    simp [Array.getD, show ¬ i < L.size by omega] at h
  have hg : L[i] = false := by simpa [Array.getD, hi] using h
  unfold offs
  rw [Array.toList_setIfInBounds]
  have hs : L.toList = L.toList.take i ++ (false :: L.toList.drop (i + 1)) := by
    conv => lhs; rw [← List.take_append_drop i L.toList]
    rw [List.drop_eq_getElem_cons (by simpa using hi)]
    simp [hg]
  have hset : L.toList.set i true = L.toList.take i ++ (true :: L.toList.drop (i + 1)) := by
    rw [List.set_eq_take_append_cons_drop, if_pos (by simpa using hi)]
  rw [hset]
  conv => rhs; rw [hs]
  simp only [List.filter_append, List.length_append, List.filter_cons, Bool.not_true, Bool.not_false, if_true, List.length_cons]
  simp
  omega
theorem offs_zero {L : Array Bool} (h : offs L = 0) (j : Nat) (hj : j < L.size) : L.getD j true = true := by
  unfold offs at h
  have h' := List.eq_nil_of_length_eq_zero h
  rw [List.filter_eq_nil_iff] at h'
  have := h' L[j] (by simp)
  simpa [Array.getD, hj] using this
theorem upB_set {L : Array Bool} {i : Nat} (hi : i < L.size) : upB (L.setIfInBounds i true) = setB (upB L) i := by
  funext j
  unfold upB setB
  by_cases h : j = i
  · subst h
    simp [Array.getD, hi]
  · rw [if_neg h, getD_set_ne false (fun e => h e.symm)]

variable {F : Fence} {n : Nat} {P : Program} {ops : Array Oper} {Q : Exit → Act → World → Prop}

theorem all_up {L : Array Bool} (hs : L.size = ops.size) (haft : ∀ i o, ops[i]? = some o → ∀ e ∈ o.after, Region.binds .any e = true → e.on < i) (hr : Region.ready .any ops L = []) : ∀ i, i < ops.size → upB L i = true := by
  intro i
  induction i using Nat.strongRecOn with
  | _ i ih =>
    intro hi
    false_or_by_contra
    rename_i hf
    have hf : upB L i = false := by simpa using hf
    have hm : i ∈ Region.ready .any ops L := by
      refine mem_ready.2 ⟨?_, ops[i], Array.getElem?_eq_getElem hi, fun e he hb => ?_⟩
      · unfold upB at hf
        simpa [Array.getD, show i < L.size by omega] using hf
      · have := haft i _ (Array.getElem?_eq_getElem hi) e he hb
        exact ih e.on this (by omega)
    rw [hr] at hm
    cases hm

theorem wpAnyIn_inv (hg : ∀ (i : Nat) (o : Oper), ops[i]? = some o → o.guard = none) (haft : ∀ i o, ops[i]? = some o → ∀ e ∈ o.after, Region.binds .any e = true → e.on < i)
    (Inv : (Nat → Bool) → Act → World → Prop)
    (hstep : ∀ L i o a w, ops[i]? = some o → L i = false → Behind o L → ClosedB ops L → Inv L a w → o.wpIn F n P a w (Inv (setB L i)) Q)
    (hdone : ∀ L a w, (∀ i, i < ops.size → L i = true) → Inv L a w → Q .normal a w) :
    ∀ (fuel : Nat) (L : Array Bool) (a : Act) (w : World), L.size = ops.size → offs L ≤ fuel → ClosedB ops (upB L) → Inv (upB L) a w → wpAnyIn F n P .any ops Q fuel L a w := by
  intro fuel
  induction fuel with
  | zero =>
    intro L a w hs ho hc hI
    have hr : Region.ready .any ops L = [] := by
      rw [List.eq_nil_iff_forall_not_mem]
      intro i hi
      have h1 := (mem_ready.1 hi).1
      have hlt : i < L.size := by
        false_or_by_contra
        simp [Array.getD, show ¬ i < L.size by omega] at h1
      rw [offs_zero (by omega) i hlt] at h1
      cases h1
    exact ⟨hr, hdone _ a w (all_up hs haft hr) hI⟩
  | succ fuel ih =>
    intro L a w hs ho hc hI
    refine ⟨fun hr => hdone _ a w (all_up hs haft hr) hI, fun i hi => ?_⟩
    obtain ⟨h1, o, hop, hd⟩ := mem_ready.1 hi
    have hlt : i < L.size := by
      false_or_by_contra
      simp [Array.getD, show ¬ i < L.size by omega] at h1
    have hf : upB L i = false := by
      unfold upB
      simpa [Array.getD, hlt] using h1
    unfold wpOpIn
    rw [hop]
    show if Region.wanted o (yielded ops a.tmps) = true then _ else _
    have hw : Region.wanted o (yielded ops a.tmps) = true := by simp [Region.wanted, hg i o hop]
    rw [if_pos hw]
    refine Oper.wpIn_mono (K := Inv (setB (upB L) i)) (fun a' w' hI' => ?_) (hstep _ i o a w hop hf hd hc hI)
    refine ih _ a' w' (by simpa using hs) (by have := offs_set h1; omega) ?_ (by rw [upB_set hlt]; exact hI')
    rw [upB_set hlt]
    intro k o' hk hL e he hb
    by_cases hki : k = i
    · subst hki
      rw [hop] at hk
      cases hk
      have := hd e he hb
      unfold setB
      split
      · rfl
      · exact this
    · rw [setB_ne hki] at hL
      have := hc k o' hk hL e he hb
      unfold setB
      split
      · rfl
      · exact this

/-- the operations' steps, one by one -/
def AllSteps (F : Fence) (n : Nat) (P : Program) (ops : Array Oper) (Q : Exit → Act → World → Prop) (Inv : (Nat → Bool) → Act → World → Prop) : Nat → List Oper → Prop
  | _, [] => True
  | i, o :: rest => (∀ L a w, L i = false → Behind o L → ClosedB ops L → Inv L a w → o.wpIn F n P a w (Inv (setB L i)) Q) ∧ AllSteps F n P ops Q Inv (i + 1) rest
theorem AllSteps.at {Inv : (Nat → Bool) → Act → World → Prop} : ∀ (l : List Oper) (k : Nat), AllSteps F n P ops Q Inv k l → ∀ i o, l[i]? = some o → ∀ L a w, L (k + i) = false → Behind o L → ClosedB ops L → Inv L a w → o.wpIn F n P a w (Inv (setB L (k + i))) Q
  | [], _, _, i, o, ho => by simp at ho
  | o' :: rest, k, h, 0, o, ho => by
    simp at ho
    subst ho
    exact h.1
  | o' :: rest, k, h, i + 1, o, ho => by
    have := AllSteps.at rest (k + 1) h.2 i o (by simpa using ho)
    rw [show k + (i + 1) = k + 1 + i by omega]
    exact this
theorem wpIn_region_inv {id : Nat} {a : Act} {w : World} (hm : P.follows .mixedOrders = true) (hg : ops.all (fun o => o.guard.isNone) = true)
    (haft : (List.range ops.size).all (fun i => (ops[i]?.map fun o => o.after.all fun e => !(Region.binds .any e) || decide (e.on < i)).getD true) = true)
    (Inv : (Nat → Bool) → Act → World → Prop) (h0 : ∀ L, (∀ i, L i = false) → Inv L a w.drew) (hsteps : AllSteps F n P ops Q Inv 0 ops.toList)
    (hdone : ∀ L a w, (∀ i, i < ops.size → L i = true) → Inv L a w → Q .normal a w) : (Code.region id ops true).wpIn F n P Q a w := by
  refine wpIn_region_any hm (wpAnyIn_inv ?_ ?_ Inv ?_ hdone _ _ _ _ (by simp) ?_ ?_ ?_)
  · intro i o ho
    have hm := Array.all_eq_true_iff_forall_mem.1 hg o (Array.mem_of_getElem? ho)
    simpa using hm
  · intro i o ho e he hb
    have hi := (Array.getElem?_eq_some_iff.1 ho).1
    have := List.all_eq_true.1 haft i (List.mem_range.2 hi)
    rw [ho] at this
    simp only [Option.map_some, Option.getD_some] at this
    have := Array.all_eq_true_iff_forall_mem.1 this e he
    simpa [hb] using this
  · intro L i o a w ho h1 h2 h3 h4
    have := AllSteps.at _ 0 hsteps i o (by simpa using ho) L a w (by simpa using h1) h2 h3 h4
    simpa using this
  · unfold offs
    simp
  · intro i o ho hL
    unfold upB at hL
    have : (Array.replicate ops.size false).getD i false = false := by
      unfold Array.getD
      split <;> simp
    rw [this] at hL
    cases hL
  · refine h0 _ (fun i => ?_)
    unfold upB Array.getD
    split <;> simp

/-- the same, outside of any fence -/
theorem wp_region_inv {P : Program} {ops : Array Oper} {Q : Exit → Act → World → Prop} {id : Nat} {a : Act} {w : World} (hm : P.follows .mixedOrders = true) (hg : ops.all (fun o => o.guard.isNone) = true)
    (haft : (List.range ops.size).all (fun i => (ops[i]?.map fun o => o.after.all fun e => !(Region.binds .any e) || decide (e.on < i)).getD true) = true)
    (Inv : (Nat → Bool) → Act → World → Prop) (h0 : ∀ L, (∀ i, L i = false) → Inv L a w.drew) (hsteps : AllSteps Fence.wide 0 P ops Q Inv 0 ops.toList)
    (hdone : ∀ L a w, (∀ i, i < ops.size → L i = true) → Inv L a w → Q .normal a w) : (Code.region id ops true).wp P Q a w :=
  wpIn_wide.1 (wpIn_region_inv hm hg haft Inv h0 hsteps hdone)

end Go.Proofs.YtlcaboddkcpgaaaDoor

/- Arrays of numbers by value: laid, boxed, loaded, stored, asked for one of them. -/
namespace Go.Proofs.YtlcaboddkcpgaaaDoor
open Go.RowKit Go.Shelf
set_option linter.unusedVariables false

section
variable {F : Fence} {n : Nat} {P : Program} {ops : Array Oper} {rest : List Oper} {o : Oper} {a : Act} {w w' : World} {Q : Exit → Act → World → Prop}
/-- an operation that yields a value, inside any fence -/
theorem wpListIn_valZ {v : Value} (hgd : o.guard = none) (hab : o.about P w a.eval = none) (hnd : ∀ c, o.op ≠ .defer c) (hrun : (execOp a.eval o).run P w = .ok (.value v) w') (h : wpListIn F n P ops Q rest (a.put o.dst v) w') : wpListIn F n P ops Q (o :: rest) a w := by
  refine wpListIn_plain hgd fun K hK => ?_
  unfold Oper.wpIn
  refine ⟨(fun f hf => by rw [hab] at hf; cases hf), ?_⟩
  rw [Oper.semAt_plain F _ _ hnd, hrun]
  exact hK _ _ h
theorem wpList_valZ {v : Value} (hgd : o.guard = none) (hrun : (execOp a.eval o).run P w = .ok (.value v) w') (h : wpList P ops Q rest (a.put o.dst v) w') : wpList P ops Q (o :: rest) a w := by
  refine wpList_plain hgd fun K hK => ?_
  unfold Oper.wp
  rw [hrun]
  exact hK _ _ h

theorem wpListIn_skipZ (hgd : o.guard = none) (hab : o.about P w a.eval = none) (hnd : ∀ c, o.op ≠ .defer c) (hrun : (execOp a.eval o).run P w = .ok .skip w') (h : wpListIn F n P ops Q rest (a.put o.dst undef) w') : wpListIn F n P ops Q (o :: rest) a w := by
  refine wpListIn_plain hgd fun K hK => ?_
  unfold Oper.wpIn
  refine ⟨(fun f hf => by rw [hab] at hf; cases hf), ?_⟩
  rw [Oper.semAt_plain F _ _ hnd, hrun]
  exact hK _ _ h
theorem wpList_skipZ (hgd : o.guard = none) (hrun : (execOp a.eval o).run P w = .ok .skip w') (h : wpList P ops Q rest (a.put o.dst undef) w') : wpList P ops Q (o :: rest) a w := by
  refine wpList_plain hgd fun K hK => ?_
  unfold Oper.wp
  rw [hrun]
  exact hK _ _ h

theorem exec_allocZ {ev : Operand → Value} (t : TypeId) (z : Array Value) (ho : o.op = .alloc t) (hz : (P.info? t).map (·.zero) = some (some (.agg z))) :
    (execOp ev o).run P w = .ok (.value (.pointer (some ⟨w.heap.size, 0, none⟩))) (w.alloc (.cells z t)) := by
  cases hq : P.info? t with
  | none => simp [hq] at hz
  | some i =>
    have hs : i.zero = some (.agg z) := by simpa [hq] using hz
    unfold execOp
    simp [ho, Sem.run_bind, Instr.alloc, newVar, newRow, zeroValue, typeInfo, hq, hs, Value.cells]
theorem exec_boxZ {ev : Operand → Value} (t : TypeId) (x : Operand) (ho : o.op = .box t x) (cells : Array Value) (hx : ev x = .agg cells) :
    (execOp ev o).run P w = .ok (.value (.pointer (some ⟨w.heap.size, 0, none⟩))) (w.alloc (.cells cells t)) := by
  unfold execOp
  simp [ho, Instr.box, newVar, newRow, hx, Value.cells]
theorem exec_loadZ {ev : Operand → Value} (t : TypeId) (x : Operand) (ho : o.op = .load t x) (p : Addr) (hx : ev x = .pointer (some p)) (vs : List Value) (hc : ∀ j u, vs[j]? = some u → w.cell? (p.add j) = some u)
    (k : Nat) (e : TypeId) (hu : P.underlying t = some (.array k e)) (hi : (P.info? t).map (·.size) = some vs.length) :
    (execOp ev o).run P w = .ok (.value (.agg vs.toArray)) w := by
  have hl : (loadCells p vs.length).run P w = .ok vs.toArray w := run_loadCells_list (P := P) w p vs hc
  cases hq : P.info? t with
  | none => simp [hq] at hi
  | some i =>
    have hs : i.size = vs.length := by simpa [hq] using hi
    have hagg : (isAgg t).run P w = .ok true w := by
      unfold isAgg
      rw [Sem.run_bind, run_underlying hu w]
      rfl
    unfold execOp
    simp [ho, hx, Instr.loadAt, Instr.sureAddr, loadVar, Sem.run_bind, hagg, sizeOf, typeInfo, hq, hs, hl]
theorem exec_storeZ {ev : Operand → Value} (t : TypeId) (x y : Operand) (ho : o.op = .store t x y) (g : Nat) (cells : Array Value) (hx : ev x = .pointer (some ⟨g, 0, none⟩)) (hy : ev y = .agg cells)
    (t' : TypeId) (old : Array Value) (hg : w.heap[g]? = some (.cells old t' (0, 0))) (hi : (P.info? t).map (·.size) = some cells.size) (hold : old.size = cells.size) (h1 : cells.all (·.oneCell') = true) :
    (execOp ev o).run P w = .ok .skip (w.setRow g cells) := by
  unfold execOp
  simp only [ho, hx, hy, Instr.storeAt, Instr.sureAddr, Sem.run_bind, Sem.run_pure, Result.andThen_ok, run_storeVar_row w g t' t old cells hg hi hold h1]
end

section
variable {F : Fence} {n : Nat} {P : Program} {ops : Array Oper} {rest : List Oper} {o : Oper} {a : Act} {w w' : World} {Q : Exit → Act → World → Prop}
theorem stopIn_load (t : TypeId) (x : Operand) (ho : o.op = .load t x) (h : wpListIn F n P ops Q (o :: rest) a w) : wpListIn F n P ops Q (o :: rest) a w := h
theorem stop_load (t : TypeId) (x : Operand) (ho : o.op = .load t x) (h : wpList P ops Q (o :: rest) a w) : wpList P ops Q (o :: rest) a w := h
theorem stop_storeZ (t : TypeId) (x y : Operand) (ho : o.op = .store t x y) (h : wpList P ops Q (o :: rest) a w) : wpList P ops Q (o :: rest) a w := h
theorem stopIn_storeZ (t : TypeId) (x y : Operand) (ho : o.op = .store t x y) (h : wpListIn F n P ops Q (o :: rest) a w) : wpListIn F n P ops Q (o :: rest) a w := h
theorem wpListIn_allocZ (hgd : o.guard = none) (t : TypeId) (z : Array Value) (ho : o.op = .alloc t) (hz : (P.info? t).map (·.zero) = some (some (.agg z)))
    (h : wpListIn F n P ops Q rest (a.put o.dst (.pointer (some ⟨w.heap.size, 0, none⟩))) (w.alloc (.cells z t))) : wpListIn F n P ops Q (o :: rest) a w :=
  wpListIn_valZ hgd (by simp [Oper.about, ho]) (by rw [ho]; intro c hc; cases hc) (exec_allocZ t z ho hz) h
theorem wpList_allocZ (hgd : o.guard = none) (t : TypeId) (z : Array Value) (ho : o.op = .alloc t) (hz : (P.info? t).map (·.zero) = some (some (.agg z)))
    (h : wpList P ops Q rest (a.put o.dst (.pointer (some ⟨w.heap.size, 0, none⟩))) (w.alloc (.cells z t))) : wpList P ops Q (o :: rest) a w :=
  wpList_valZ hgd (exec_allocZ t z ho hz) h
theorem wpListIn_boxZ (hgd : o.guard = none) (t : TypeId) (x : Operand) (ho : o.op = .box t x) (cells : Array Value) (hx : a.eval x = .agg cells)
    (h : wpListIn F n P ops Q rest (a.put o.dst (.pointer (some ⟨w.heap.size, 0, none⟩))) (w.alloc (.cells cells t))) : wpListIn F n P ops Q (o :: rest) a w :=
  wpListIn_valZ hgd (by simp [Oper.about, ho]) (by rw [ho]; intro c hc; cases hc) (exec_boxZ t x ho cells hx) h
theorem wpList_boxZ (hgd : o.guard = none) (t : TypeId) (x : Operand) (ho : o.op = .box t x) (cells : Array Value) (hx : a.eval x = .agg cells)
    (h : wpList P ops Q rest (a.put o.dst (.pointer (some ⟨w.heap.size, 0, none⟩))) (w.alloc (.cells cells t))) : wpList P ops Q (o :: rest) a w :=
  wpList_valZ hgd (exec_boxZ t x ho cells hx) h
theorem wpListIn_loadZ (hgd : o.guard = none) (t : TypeId) (x : Operand) (ho : o.op = .load t x) (p : Addr) (hx : a.eval x = .pointer (some p)) (vs : List Value) (hc : ∀ j u, vs[j]? = some u → w.cell? (p.add j) = some u)
    (k : Nat) (e : TypeId) (hu : P.underlying t = some (.array k e)) (N : Nat) (hN : vs.length = N) (hi : (P.info? t).map (·.size) = some N)
    (h : wpListIn F n P ops Q rest (a.put o.dst (.agg vs.toArray)) w) : wpListIn F n P ops Q (o :: rest) a w :=
  wpListIn_valZ hgd (by simp [Oper.about, ho]) (by rw [ho]; intro c hc; cases hc) (exec_loadZ t x ho p hx vs hc k e hu (by rw [hN]; exact hi)) h
theorem wpList_loadZ (hgd : o.guard = none) (t : TypeId) (x : Operand) (ho : o.op = .load t x) (p : Addr) (hx : a.eval x = .pointer (some p)) (vs : List Value) (hc : ∀ j u, vs[j]? = some u → w.cell? (p.add j) = some u)
    (k : Nat) (e : TypeId) (hu : P.underlying t = some (.array k e)) (N : Nat) (hN : vs.length = N) (hi : (P.info? t).map (·.size) = some N)
    (h : wpList P ops Q rest (a.put o.dst (.agg vs.toArray)) w) : wpList P ops Q (o :: rest) a w :=
  wpList_valZ hgd (exec_loadZ t x ho p hx vs hc k e hu (by rw [hN]; exact hi)) h
theorem wpListIn_storeZ (hgd : o.guard = none) (t : TypeId) (x y : Operand) (ho : o.op = .store t x y) (g : Nat) (cells : Array Value) (hx : a.eval x = .pointer (some ⟨g, 0, none⟩)) (hy : a.eval y = .agg cells)
    (t' : TypeId) (old : Array Value) (hg : w.heap[g]? = some (.cells old t' (0, 0))) (N : Nat) (hN : cells.size = N) (hi : (P.info? t).map (·.size) = some N) (hold : old.size = N) (h1 : cells.all (·.oneCell') = true)
    (h : wpListIn F n P ops Q rest (a.put o.dst undef) (w.setRow g cells)) : wpListIn F n P ops Q (o :: rest) a w :=
  wpListIn_skipZ hgd (by simp [Oper.about, ho]) (by rw [ho]; intro c hc; cases hc) (exec_storeZ t x y ho g cells hx hy t' old hg (by rw [hN]; exact hi) (by rw [hN]; exact hold) h1) h
theorem wpList_storeZ (hgd : o.guard = none) (t : TypeId) (x y : Operand) (ho : o.op = .store t x y) (g : Nat) (cells : Array Value) (hx : a.eval x = .pointer (some ⟨g, 0, none⟩)) (hy : a.eval y = .agg cells)
    (t' : TypeId) (old : Array Value) (hg : w.heap[g]? = some (.cells old t' (0, 0))) (N : Nat) (hN : cells.size = N) (hi : (P.info? t).map (·.size) = some N) (hold : old.size = N) (h1 : cells.all (·.oneCell') = true)
    (h : wpList P ops Q rest (a.put o.dst undef) (w.setRow g cells)) : wpList P ops Q (o :: rest) a w :=
  wpList_skipZ hgd (exec_storeZ t x y ho g cells hx hy t' old hg (by rw [hN]; exact hi) (by rw [hN]; exact hold) h1) h
end

/-- cells of numbers, as an array holds them -/
abbrev numsA (b : List Int) : Array Value := (intV b).toArray
theorem numsA_size (b : List Int) : (numsA b).size = b.length := by simp
theorem numsA_one (b : List Int) : (numsA b).all (·.oneCell') = true := by
  rw [Array.all_eq_true_iff_forall_mem]
  intro u hu
  simp at hu
  obtain ⟨x, _, rfl⟩ := hu
  rfl
theorem numsA_get {b : List Int} {k : Nat} (h : k < b.length) : (numsA b)[k]? = some (.int .i64 (b[k]?.getD 0)) := by simp [h]
theorem numsA_set (b : List Int) (k : Nat) (x : Int) : (numsA b).setIfInBounds k (.int .i64 x) = numsA (b.set k x) := by
  apply Array.ext'
  simp [List.map_set]

theorem run_index64 (t : TypeId) (hu : Tryd.prog.underlying t = some (.array 64 3)) (cs : Array Value) (k : Nat) (v : Value) (hk : k < 64) (hv : cs[k]? = some v) (W : World) :
    (Instr.index t (.agg cs) (.int .i64 k)).run Tryd.prog W = .ok v W := by
  have h2 : (sizeOf 3).run Tryd.prog W = .ok 1 W := by kernel_rfl
  simp [Instr.index, asIntOf, Sem.run_bind, run_underlying hu, hk, part, h2, hv]
/-- numbers lie in a block of their own -/
def NumsAt (w : World) (g : Nat) (t : TypeId) (b : List Int) : Prop := w.heap[g]? = some (.cells (numsA b) t (0, 0))
theorem NumsAt.cell {w : World} {g : Nat} {t : TypeId} {b : List Int} (h : NumsAt w g t b) {k : Nat} (hk : k < b.length) : w.cell? ⟨g, k, none⟩ = some (.int .i64 (b[k]?.getD 0)) := by
  unfold NumsAt at h
  simp [World.cell?, h, hk]
theorem NumsAt.frozen {w : World} {g : Nat} {t : TypeId} {b : List Int} (h : NumsAt w g t b) (k : Nat) : w.frozen? ⟨g, k, none⟩ = false := by
  unfold NumsAt at h
  simp [World.frozen?, h]
theorem NumsAt.lt {w : World} {g : Nat} {t : TypeId} {b : List Int} (h : NumsAt w g t b) : g < w.heap.size := (Array.getElem?_eq_some_iff.1 h).1
theorem NumsAt.set {w : World} {g : Nat} {t : TypeId} {b : List Int} (h : NumsAt w g t b) (k : Nat) (x : Int) : NumsAt (w.setCell ⟨g, k, none⟩ (.int .i64 x)) g t (b.set k x) := by
  unfold NumsAt at h ⊢
  rw [heap_setCell_same w g k _ _ _ h, numsA_set]
theorem NumsAt.other {w : World} {g : Nat} {t : TypeId} {b : List Int} (h : NumsAt w g t b) {p : Addr} (hp : g ≠ p.block) (v : Value) : NumsAt (w.setCell p v) g t b := (heap_setCell_other w p g v hp).trans h
theorem NumsAt.below {n : Nat} {w w' : World} {g : Nat} {t : TypeId} {b : List Int} (h : NumsAt w g t b) (hb : Below n w w') (hg : g < n) : NumsAt w' g t b := (hb.block g hg).trans h
theorem NumsAt.alloc {w : World} {g : Nat} {t : TypeId} {b : List Int} (h : NumsAt w g t b) (o : Obj) : NumsAt (w.alloc o) g t b := (Below.heap_alloc _ _ _ h.lt).trans h
theorem numsAt_new (w : World) (t : TypeId) (b : List Int) : NumsAt (w.alloc (.cells (numsA b) t)) w.heap.size t b := World.alloc_heap_new w _
theorem NumsAt.cells {w : World} {g : Nat} {t : TypeId} {b : List Int} (h : NumsAt w g t b) : ∀ j u, (intV b)[j]? = some u → w.cell? ((⟨g, 0, none⟩ : Addr).add j) = some u := by
  intro j u hu
  have hadd : (⟨g, 0, none⟩ : Addr).add j = ⟨g, j, none⟩ := by unfold Addr.add; split <;> simp_all
  rw [hadd]
  have hj : j < b.length := by
    false_or_by_contra
    rw [List.getElem?_eq_none (by simp; omega)] at hu
    cases hu
  rw [h.cell hj]
  rw [← hu]
  simp [hj]
/-- the whole of the block, as a row that the call owns -/
theorem NumsAt.own {w : World} {g : Nat} {t : TypeId} {b : List Int} (h : NumsAt w g t b) (hb : b.length = 64) {base : Nat} (hg : base ≤ g) : w.ownsRow base t 1 (.slice (some ⟨g, 0, none⟩) 64 64) 64 (intV b) :=
  ⟨by simp [hb], .inr ⟨g, 64, numsA b, rfl, hg, h, Nat.le_refl _, by unfold maxLen; decide, by simp [hb], List.take_of_length_le (by simp [hb])⟩⟩

theorem NumsAt.setRow {w : World} {g : Nat} {t : TypeId} {b c : List Int} (h : NumsAt w g t b) : NumsAt (w.setRow g (numsA c)) g t c := setRow_heap w g _ _ t _ h
theorem NumsAt.setRow_other {w : World} {g g' : Nat} {t : TypeId} {b : List Int} (h : NumsAt w g t b) (hg : g ≠ g') (cs : Array Value) : NumsAt (w.setRow g' cs) g t b := (Go.setRow_other w g' g cs hg).trans h
theorem below_setRowZ {B g : Nat} {w0 w : World} (hb : Below B w0 w) (hBg : B ≤ g) (cs : Array Value) : Below B w0 (w.setRow g cs) :=
  ⟨hb.os, hb.tape, hb.output, by simpa using hb.size, fun k hk => (Go.setRow_other w g k cs (by omega)).trans (hb.block k hk)⟩

end Go.Proofs.YtlcaboddkcpgaaaDoor

/- Blocks of 64 numbers, and rows of numbers that a call owns: general (moved out of scan's texts). -/
namespace Go.Proofs.YtlcaboddkcpgaaaDoor
open Go.RowKit Go.Shelf
set_option linter.unusedVariables false

/-- numbers in a row that the call owns -/
def OwnI (w : World) (base : Nat) (v : Value) (xs : List Int) : Prop := ∃ t, w.ownsRow base t 1 v xs.length (intV xs)
theorem ownI_nil (w : World) (base : Nat) : OwnI w base (.slice none 0 0) [] := ⟨0, World.ownsRow_nil _ _ _ _⟩
theorem ints64_new (w : World) (t : TypeId) (b : List Int) : Below w.heap.size w (w.alloc (.cells (numsA b) t)) := (Below.refl _ w).alloc (Nat.le_refl _) _
theorem OwnI.cellsAt {w : World} {base : Nat} {v : Value} {xs : List Int} (h : OwnI w base v xs) : CellsAt w v (intV xs) := by
  obtain ⟨t, h⟩ := h
  exact cellsAt_own h
theorem cellsAt_nil (w : World) : CellsAt w (.slice none 0 0) (intV []) := ⟨none, 0, rfl, .inl rfl⟩
theorem NumsAt.cellsAt {w : World} {g : Nat} {t : TypeId} {b : List Int} (h : NumsAt w g t b) (hb : b.length = 64) : CellsAt w (.slice (some ⟨g, 0, none⟩) 64 64) (intV b) := cellsAt_own (h.own hb (Nat.zero_le _))
theorem NumsAt.rowV {w : World} {g : Nat} {t : TypeId} {b : List Int} (h : NumsAt w g t b) (hb : b.length = 64) : RowV w.heap.size w (some ⟨g, 0, none⟩) 64 64 (intV b) := by
  obtain ⟨a, c, e, hr⟩ := rowV_own4 (h.own hb (Nat.zero_le _))
  cases e
  exact hr
/-- one number of a row that the call owns is written -/
theorem own_put {w : World} {base n : Nat} {t : TypeId} {v : Value} {xs : List Int} (h : w.ownsRow base t 1 v n (intV xs)) {k : Nat} (hk : k < n) (d : Int) :
    ∃ g cap, v = .slice (some ⟨g, 0, none⟩) n cap ∧ base ≤ g ∧ w.cell? ⟨g, k, none⟩ = some (.int .i64 (xs[k]?.getD 0)) ∧ w.frozen? ⟨g, k, none⟩ = false ∧ (w.setCell ⟨g, k, none⟩ (.int .i64 d)).ownsRow base t 1 v n (intV (xs.set k d)) := by
  have hl : xs.length = n := by have := h.1; simpa using this
  rcases h.2 with ⟨_, h0⟩ | ⟨g, cap, cur, rfl, hb, hg, hc, hm, hs, ht⟩
  · omega
  · rw [Nat.mul_one] at hs ht
    have hck : cur[k]? = some (.int .i64 (xs[k]?.getD 0)) := by
      have e1 : (cur.toList.take n)[k]? = cur[k]? := by rw [List.getElem?_take_of_lt hk, Array.getElem?_toList]
      rw [← e1, ht]
      simp [show k < xs.length by omega]
    refine ⟨g, cap, rfl, hb, ?_, ?_, ?_⟩
    · rw [Lib.cell_of_heap hg]
      exact hck
    · exact Lib.frozen_of_heap hg k
    · refine ⟨by simp [hl], .inr ⟨g, cap, _, rfl, hb, heap_setCell_same w g k cur t _ hg, hc, hm, by simp [hs], ?_⟩⟩
      rw [Nat.mul_one, Array.toList_setIfInBounds, List.take_set]
      rw [ht]
      simp [List.map_set]

/-! ### a slice turned to an array -/
theorem wpList_arrZ {P : Program} {ops : Array Oper} {rest : List Oper} {o : Oper} {a : Act} {w : World} {Q : Exit → Act → World → Prop} (hgd : o.guard = none) (t : TypeId) (x : Operand) (ho : o.op = .sliceToArrayPointer t x) (p : Option Addr) (len cap n : Nat) (e : TypeId)
    (hx : a.eval x = .slice p len cap) (hu : P.underlying t = some (.array n e)) (hn : n ≤ len) (h : wpList P ops Q rest (a.put o.dst (.pointer p)) w) : wpList P ops Q (o :: rest) a w := by
  refine wpList_valZ hgd ?_ h
  unfold execOp
  simp [ho, hx, Instr.arrayAt, Sem.run_bind, run_underlying hu, show ¬ len < n by omega]
theorem RowV.addCells {n₀ : Nat} {w : World} {b off len cap : Nat} {vs : List Value} (hc : ∀ j u, vs[j]? = some u → w.cell? ⟨b, off + j, none⟩ = some u) : ∀ j u, vs[j]? = some u → w.cell? ((⟨b, off, none⟩ : Addr).add j) = some u := by
  intro j u hu
  have hadd : (⟨b, off, none⟩ : Addr).add j = ⟨b, off + j, none⟩ := by unfold Addr.add; split <;> simp_all
  rw [hadd]
  exact hc j u hu

/-! ### a row that a call handed back, cell by cell -/
theorem own_cellsC {w : World} {base n : Nat} {t : TypeId} {v : Value} {xs : List Int} (h : w.ownsRow base t 1 v n (intV xs)) (hn : 0 < n) :
    ∃ g cap, v = .slice (some ⟨g, 0, none⟩) n cap ∧ base ≤ g ∧ g < w.heap.size ∧ ∀ k, k < n → w.cell? ⟨g, k, none⟩ = some (.int .i64 (xs[k]?.getD 0)) := by
  have hl : xs.length = n := by have := h.1; simpa using this
  rcases h.2 with ⟨_, h0⟩ | ⟨g, cap, cur, rfl, hb, hg, hc, hm, hs, ht⟩
  · omega
  · rw [Nat.mul_one] at hs ht
    refine ⟨g, cap, rfl, hb, (Array.getElem?_eq_some_iff.1 hg).1, fun k hk => ?_⟩
    rw [Lib.cell_of_heap hg]
    have e1 : (cur.toList.take n)[k]? = cur[k]? := by rw [List.getElem?_take_of_lt hk, Array.getElem?_toList]
    rw [← e1, ht]
    simp [show k < xs.length by omega]
theorem Bar.cellC {S : Nat → Prop} {w w' : World} (h : Bar S w w') {p : Addr} (hp : p.block < w.heap.size) (hs : ¬ S p.block) : w'.cell? p = w.cell? p := World.cell?_of_block (h.block _ hp hs)

end Go.Proofs.YtlcaboddkcpgaaaDoor
