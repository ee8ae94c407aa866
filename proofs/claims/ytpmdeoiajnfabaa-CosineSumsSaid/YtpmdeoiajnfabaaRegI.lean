/- A region that draws its order, inside any fence (a round of a range over a function too): what each operation keeps, whatever came up before it. -/
import Derived.Test.YtpmdeoiajnfabaaLit
import Derived.OwnWalkIn
namespace Go.Proofs.Ytpmdeoiajnfabaa
open Go.RowKit Go.Shelf
set_option linter.unusedVariables false

/-- what has come up -/
def upB (L : Array Bool) (j : Nat) : Bool := L.getD j false
/-- what an operation stands behind has come up -/
def Behind (o : Oper) (L : Nat → Bool) : Prop := ∀ e ∈ o.after, Region.binds .any e = true → L e.on = true
/-- whatever has come up, all that it stands behind has -/
def ClosedB (ops : Array Oper) (L : Nat → Bool) : Prop := ∀ i o, ops[i]? = some o → L i = true → Behind o L
def setB (L : Nat → Bool) (i j : Nat) : Bool := if j = i then true else L j
theorem setB_same (L : Nat → Bool) (i : Nat) : setB L i i = true := by simp [setB]
theorem setB_ne {L : Nat → Bool} {i j : Nat} (h : j ≠ i) : setB L i j = L j := by simp [setB, h]

def offs (L : Array Bool) : Nat := (L.toList.filter (!·)).length
theorem offs_set {L : Array Bool} {i : Nat} (h : L.getD i true = false) : offs (L.setIfInBounds i true) + 1 = offs L := by
  have hi : i < L.size := by
    false_or_by_contra
    simp [Array.getD, show ¬ i < L.size by omega] at h
  have hg : L[i] = false := by simpa [Array.getD, hi] using h
  unfold offs
  rw [Array.toList_setIfInBounds]
  have hs : L.toList = L.toList.take i ++ (false :: L.toList.drop (i + 1)) := by
    conv => lhs; rw [← List.take_append_drop i L.toList]
    rw [List.drop_eq_getElem_cons (by simpa using hi)]
    simp [hg]
  have hset : L.toList.set i true = L.toList.take i ++ (true :: L.toList.drop (i + 1)) := by
    rw [List.set_eq_take_append_cons_drop, if_pos (by simpa using hi)]
  rw [hset]
  conv => rhs; rw [hs]
  simp only [List.filter_append, List.length_append, List.filter_cons, Bool.not_true, Bool.not_false, if_true, List.length_cons]
  simp
  omega
theorem offs_zero {L : Array Bool} (h : offs L = 0) (j : Nat) (hj : j < L.size) : L.getD j true = true := by
  unfold offs at h
  have h' := List.eq_nil_of_length_eq_zero h
  rw [List.filter_eq_nil_iff] at h'
  have := h' L[j] (by simp)
  simpa [Array.getD, hj] using this
theorem upB_set {L : Array Bool} {i : Nat} (hi : i < L.size) : upB (L.setIfInBounds i true) = setB (upB L) i := by
  funext j
  unfold upB setB
  by_cases h : j = i
  · subst h
    simp [Array.getD, hi]
  · rw [if_neg h, getD_set_ne false (fun e => h e.symm)]

variable {F : Fence} {n : Nat} {P : Program} {ops : Array Oper} {Q : Exit → Act → World → Prop}

theorem all_up {L : Array Bool} (hs : L.size = ops.size) (haft : ∀ i o, ops[i]? = some o → ∀ e ∈ o.after, Region.binds .any e = true → e.on < i) (hr : Region.ready .any ops L = []) : ∀ i, i < ops.size → upB L i = true := by
  intro i
  induction i using Nat.strongRecOn with
  | _ i ih =>
    intro hi
    false_or_by_contra
    rename_i hf
    have hf : upB L i = false := by simpa using hf
    have hm : i ∈ Region.ready .any ops L := by
      refine mem_ready.2 ⟨?_, ops[i], Array.getElem?_eq_getElem hi, fun e he hb => ?_⟩
      · unfold upB at hf
        simpa [Array.getD, show i < L.size by omega] using hf
      · have := haft i _ (Array.getElem?_eq_getElem hi) e he hb
        exact ih e.on this (by omega)
    rw [hr] at hm
    cases hm

theorem wpAnyIn_inv (hg : ∀ (i : Nat) (o : Oper), ops[i]? = some o → o.guard = none) (haft : ∀ i o, ops[i]? = some o → ∀ e ∈ o.after, Region.binds .any e = true → e.on < i)
    (Inv : (Nat → Bool) → Act → World → Prop)
    (hstep : ∀ L i o a w, ops[i]? = some o → L i = false → Behind o L → ClosedB ops L → Inv L a w → o.wpIn F n P a w (Inv (setB L i)) Q)
    (hdone : ∀ L a w, (∀ i, i < ops.size → L i = true) → Inv L a w → Q .normal a w) :
    ∀ (fuel : Nat) (L : Array Bool) (a : Act) (w : World), L.size = ops.size → offs L ≤ fuel → ClosedB ops (upB L) → Inv (upB L) a w → wpAnyIn F n P .any ops Q fuel L a w := by
  intro fuel
  induction fuel with
  | zero =>
    intro L a w hs ho hc hI
    have hr : Region.ready .any ops L = [] := by
      rw [List.eq_nil_iff_forall_not_mem]
      intro i hi
      have h1 := (mem_ready.1 hi).1
      have hlt : i < L.size := by
        false_or_by_contra
        simp [Array.getD, show ¬ i < L.size by omega] at h1
      rw [offs_zero (by omega) i hlt] at h1
      cases h1
    exact ⟨hr, hdone _ a w (all_up hs haft hr) hI⟩
  | succ fuel ih =>
    intro L a w hs ho hc hI
    refine ⟨fun hr => hdone _ a w (all_up hs haft hr) hI, fun i hi => ?_⟩
    obtain ⟨h1, o, hop, hd⟩ := mem_ready.1 hi
    have hlt : i < L.size := by
      false_or_by_contra
      simp [Array.getD, show ¬ i < L.size by omega] at h1
    have hf : upB L i = false := by
      unfold upB
      simpa [Array.getD, hlt] using h1
    unfold wpOpIn
    rw [hop]
    show if Region.wanted o (yielded ops a.tmps) = true then _ else _
    have hw : Region.wanted o (yielded ops a.tmps) = true := by simp [Region.wanted, hg i o hop]
    rw [if_pos hw]
    refine Oper.wpIn_mono (K := Inv (setB (upB L) i)) (fun a' w' hI' => ?_) (hstep _ i o a w hop hf hd hc hI)
    refine ih _ a' w' (by simpa using hs) (by have := offs_set h1; omega) ?_ (by rw [upB_set hlt]; exact hI')
    rw [upB_set hlt]
    intro k o' hk hL e he hb
    by_cases hki : k = i
    · subst hki
      rw [hop] at hk
      cases hk
      have := hd e he hb
      unfold setB
      split
      · rfl
      · exact this
    · rw [setB_ne hki] at hL
      have := hc k o' hk hL e he hb
      unfold setB
      split
      · rfl
      · exact this

/-- the operations' steps, one by one -/
def AllSteps (F : Fence) (n : Nat) (P : Program) (ops : Array Oper) (Q : Exit → Act → World → Prop) (Inv : (Nat → Bool) → Act → World → Prop) : Nat → List Oper → Prop
  | _, [] => True
  | i, o :: rest => (∀ L a w, L i = false → Behind o L → ClosedB ops L → Inv L a w → o.wpIn F n P a w (Inv (setB L i)) Q) ∧ AllSteps F n P ops Q Inv (i + 1) rest
theorem AllSteps.at {Inv : (Nat → Bool) → Act → World → Prop} : ∀ (l : List Oper) (k : Nat), AllSteps F n P ops Q Inv k l → ∀ i o, l[i]? = some o → ∀ L a w, L (k + i) = false → Behind o L → ClosedB ops L → Inv L a w → o.wpIn F n P a w (Inv (setB L (k + i))) Q
  | [], _, _, i, o, ho => by simp at ho
  | o' :: rest, k, h, 0, o, ho => by
    simp at ho
    subst ho
    exact h.1
  | o' :: rest, k, h, i + 1, o, ho => by
    have := AllSteps.at rest (k + 1) h.2 i o (by simpa using ho)
    rw [show k + (i + 1) = k + 1 + i by omega]
    exact this
theorem wpIn_region_inv {id : Nat} {a : Act} {w : World} (hm : P.follows .mixedOrders = true) (hg : ops.all (fun o => o.guard.isNone) = true)
    (haft : (List.range ops.size).all (fun i => (ops[i]?.map fun o => o.after.all fun e => !(Region.binds .any e) || decide (e.on < i)).getD true) = true)
    (Inv : (Nat → Bool) → Act → World → Prop) (h0 : ∀ L, (∀ i, L i = false) → Inv L a w.drew) (hsteps : AllSteps F n P ops Q Inv 0 ops.toList)
    (hdone : ∀ L a w, (∀ i, i < ops.size → L i = true) → Inv L a w → Q .normal a w) : (Code.region id ops true).wpIn F n P Q a w := by
  refine wpIn_region_any hm (wpAnyIn_inv ?_ ?_ Inv ?_ hdone _ _ _ _ (by simp) ?_ ?_ ?_)
  · intro i o ho
    have hm := Array.all_eq_true_iff_forall_mem.1 hg o (Array.mem_of_getElem? ho)
    simpa using hm
  · intro i o ho e he hb
    have hi := (Array.getElem?_eq_some_iff.1 ho).1
    have := List.all_eq_true.1 haft i (List.mem_range.2 hi)
    rw [ho] at this
    simp only [Option.map_some, Option.getD_some] at this
    have := Array.all_eq_true_iff_forall_mem.1 this e he
    simpa [hb] using this
  · intro L i o a w ho h1 h2 h3 h4
    have := AllSteps.at _ 0 hsteps i o (by simpa using ho) L a w (by simpa using h1) h2 h3 h4
    simpa using this
  · unfold offs
    simp
  · intro i o ho hL
    unfold upB at hL
    have : (Array.replicate ops.size false).getD i false = false := by
      unfold Array.getD
      split <;> simp
    rw [this] at hL
    cases hL
  · refine h0 _ (fun i => ?_)
    unfold upB Array.getD
    split <;> simp

/-- the same, outside of any fence -/
theorem wp_region_inv {P : Program} {ops : Array Oper} {Q : Exit → Act → World → Prop} {id : Nat} {a : Act} {w : World} (hm : P.follows .mixedOrders = true) (hg : ops.all (fun o => o.guard.isNone) = true)
    (haft : (List.range ops.size).all (fun i => (ops[i]?.map fun o => o.after.all fun e => !(Region.binds .any e) || decide (e.on < i)).getD true) = true)
    (Inv : (Nat → Bool) → Act → World → Prop) (h0 : ∀ L, (∀ i, L i = false) → Inv L a w.drew) (hsteps : AllSteps Fence.wide 0 P ops Q Inv 0 ops.toList)
    (hdone : ∀ L a w, (∀ i, i < ops.size → L i = true) → Inv L a w → Q .normal a w) : (Code.region id ops true).wp P Q a w :=
  wpIn_wide.1 (wpIn_region_inv hm hg haft Inv h0 hsteps hdone)

end Go.Proofs.Ytpmdeoiajnfabaa
