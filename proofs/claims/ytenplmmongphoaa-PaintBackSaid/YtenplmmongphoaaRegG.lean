/- general: a region that draws its order, with guards that are all taken, by an invariant over what has come up. -/
import Derived.Test.YtenplmmongphoaaZArr
namespace Go.Proofs.Ytenplmmongphoaa
open Go.RowKit Go.Shelf Go.Sort
set_option linter.unusedVariables false

section
variable {F : Fence} {n : Nat} {P : Program} {ops : Array Oper} {Q : Exit → Act → World → Prop}

theorem wpAnyIn_invG (haft : ∀ i o, ops[i]? = some o → ∀ e ∈ o.after, Region.binds .any e = true → e.on < i)
    (Inv : (Nat → Bool) → Act → World → Prop)
    (hstep : ∀ L i o a w, ops[i]? = some o → L i = false → Behind o L → ClosedB ops L → Inv L a w → Region.wanted o (yielded ops a.tmps) = true ∧ o.wpIn F n P a w (Inv (setB L i)) Q)
    (hdone : ∀ L a w, (∀ i, i < ops.size → L i = true) → Inv L a w → Q .normal a w) :
    ∀ (fuel : Nat) (L : Array Bool) (a : Act) (w : World), L.size = ops.size → offs L ≤ fuel → ClosedB ops (upB L) → Inv (upB L) a w → wpAnyIn F n P .any ops Q fuel L a w := by
  intro fuel
  induction fuel with
  | zero =>
    intro L a w hs ho hc hI
    have hr : Region.ready .any ops L = [] := by
      rw [List.eq_nil_iff_forall_not_mem]
      intro i hi
      have h1 := (mem_ready.1 hi).1
      have hlt : i < L.size := by
        false_or_by_contra
        simp [Array.getD, show ¬ i < L.size by omega] at h1
      rw [offs_zero (by omega) i hlt] at h1
      cases h1
    exact ⟨hr, hdone _ a w (all_up hs haft hr) hI⟩
  | succ fuel ih =>
    intro L a w hs ho hc hI
    refine ⟨fun hr => hdone _ a w (all_up hs haft hr) hI, fun i hi => ?_⟩
    obtain ⟨h1, o, hop, hd⟩ := mem_ready.1 hi
    have hlt : i < L.size := by
      false_or_by_contra
      simp [Array.getD, show ¬ i < L.size by omega] at h1
    have hf : upB L i = false := by
      unfold upB
      simpa [Array.getD, hlt] using h1
    unfold wpOpIn
    rw [hop]
    show if Region.wanted o (yielded ops a.tmps) = true then _ else _
    obtain ⟨hw, hst⟩ := hstep _ i o a w hop hf hd hc hI
    rw [if_pos hw]
    refine Oper.wpIn_mono (K := Inv (setB (upB L) i)) (fun a' w' hI' => ?_) hst
    refine ih _ a' w' (by simpa using hs) (by have := offs_set h1; omega) ?_ (by rw [upB_set hlt]; exact hI')
    rw [upB_set hlt]
    intro k o' hk hL e he hb
    by_cases hki : k = i
    · subst hki
      rw [hop] at hk
      cases hk
      have := hd e he hb
      unfold setB
      split
      · rfl
      · exact this
    · rw [setB_ne hki] at hL
      have := hc k o' hk hL e he hb
      unfold setB
      split
      · rfl
      · exact this

/-- the operations' steps, one by one, the guards taken -/
def AllStepsG (F : Fence) (n : Nat) (P : Program) (ops : Array Oper) (Q : Exit → Act → World → Prop) (Inv : (Nat → Bool) → Act → World → Prop) : Nat → List Oper → Prop
  | _, [] => True
  | i, o :: rest => (∀ L a w, L i = false → Behind o L → ClosedB ops L → Inv L a w → Region.wanted o (yielded ops a.tmps) = true ∧ o.wpIn F n P a w (Inv (setB L i)) Q) ∧ AllStepsG F n P ops Q Inv (i + 1) rest
theorem AllStepsG.at {Inv : (Nat → Bool) → Act → World → Prop} : ∀ (l : List Oper) (k : Nat), AllStepsG F n P ops Q Inv k l → ∀ i o, l[i]? = some o → ∀ L a w, L (k + i) = false → Behind o L → ClosedB ops L → Inv L a w → Region.wanted o (yielded ops a.tmps) = true ∧ o.wpIn F n P a w (Inv (setB L (k + i))) Q
  | [], _, _, i, o, ho => by simp at ho
  | o' :: rest, k, h, 0, o, ho => by
    simp at ho
    subst ho
    exact h.1
  | o' :: rest, k, h, i + 1, o, ho => by
    have := AllStepsG.at rest (k + 1) h.2 i o (by simpa using ho)
    rw [show k + (i + 1) = k + 1 + i by omega]
    exact this
theorem wpIn_region_invG {id : Nat} {a : Act} {w : World} (hm : P.follows .mixedOrders = true)
    (haft : (List.range ops.size).all (fun i => (ops[i]?.map fun o => o.after.all fun e => !(Region.binds .any e) || decide (e.on < i)).getD true) = true)
    (Inv : (Nat → Bool) → Act → World → Prop) (h0 : ∀ L, (∀ i, L i = false) → Inv L a w.drew) (hsteps : AllStepsG F n P ops Q Inv 0 ops.toList)
    (hdone : ∀ L a w, (∀ i, i < ops.size → L i = true) → Inv L a w → Q .normal a w) : (Code.region id ops true).wpIn F n P Q a w := by
  refine wpIn_region_any hm (wpAnyIn_invG ?_ Inv ?_ hdone _ _ _ _ (by simp) ?_ ?_ ?_)
  · intro i o ho e he hb
    have hi := (Array.getElem?_eq_some_iff.1 ho).1
    have := List.all_eq_true.1 haft i (List.mem_range.2 hi)
    rw [ho] at this
    simp only [Option.map_some, Option.getD_some] at this
    have := Array.all_eq_true_iff_forall_mem.1 this e he
    simpa [hb] using this
  · intro L i o a w ho h1 h2 h3 h4
    have := AllStepsG.at _ 0 hsteps i o (by simpa using ho) L a w (by simpa using h1) h2 h3 h4
    simpa using this
  · unfold offs
    simp
  · intro i o ho hL
    unfold upB at hL
    have : (Array.replicate ops.size false).getD i false = false := by
      unfold Array.getD
      split <;> simp
    rw [this] at hL
    cases hL
  · refine h0 _ (fun i => ?_)
    unfold upB Array.getD
    split <;> simp
end

/-- the same, outside of any fence -/
theorem wp_region_invG {P : Program} {ops : Array Oper} {Q : Exit → Act → World → Prop} {id : Nat} {a : Act} {w : World} (hm : P.follows .mixedOrders = true)
    (haft : (List.range ops.size).all (fun i => (ops[i]?.map fun o => o.after.all fun e => !(Region.binds .any e) || decide (e.on < i)).getD true) = true)
    (Inv : (Nat → Bool) → Act → World → Prop) (h0 : ∀ L, (∀ i, L i = false) → Inv L a w.drew) (hsteps : AllStepsG Fence.wide 0 P ops Q Inv 0 ops.toList)
    (hdone : ∀ L a w, (∀ i, i < ops.size → L i = true) → Inv L a w → Q .normal a w) : (Code.region id ops true).wp P Q a w :=
  wpIn_wide.1 (wpIn_region_invG hm haft Inv h0 hsteps hdone)

end Go.Proofs.Ytenplmmongphoaa
