/- Three blocks of the call's own, laid in any order: what has come up. -/
import Derived.Test.YtpmdeoiajnfabaaCLaw4
namespace Go.Proofs.Ytpmdeoiajnfabaa
open Go.RowKit Go.Shelf
set_option linter.unusedVariables false

/-- a block of 64 numbers of the call's own, as a slice -/
abbrev sliC (g : Nat) : Value := .slice (some ⟨g, 0, none⟩) 64 64
/-- what has come up of three blocks -/
structure Mk3 (w : World) (L : Nat → Bool) (i1 i2 i3 : Nat) (v1 v2 v3 : Value) (P Q S : List Int) (W : World) : Prop where
  below : Below w.heap.size w W
  l1 : L i1 = true → ∃ g, v1 = sliC g ∧ w.heap.size ≤ g ∧ NumsAt W g 3 P
  l2 : L i2 = true → ∃ g, v2 = sliC g ∧ w.heap.size ≤ g ∧ NumsAt W g 3 Q
  l3 : L i3 = true → ∃ g, v3 = sliC g ∧ w.heap.size ≤ g ∧ NumsAt W g 3 S
  d12 : L i1 = true → L i2 = true → v1 ≠ v2
  d13 : L i1 = true → L i3 = true → v1 ≠ v3
  d23 : L i2 = true → L i3 = true → v2 ≠ v3
variable {w W W' : World} {L : Nat → Bool} {i1 i2 i3 : Nat} {v1 v2 v3 : Value} {P Q S : List Int}
theorem sliC_ne {g h : Nat} (hn : g ≠ h) : sliC g ≠ sliC h := by
  intro e
  injection e with e1
  injection e1 with e2
  injection e2 with e3
  exact hn e3
theorem sliC_old {v : Value} {n : Nat} {X : List Int} (hv : ∃ g, v = sliC g ∧ n ≤ g ∧ NumsAt W g 3 X) : v ≠ sliC W.heap.size := by
  obtain ⟨g, rfl, _, hN⟩ := hv
  have := hN.lt
  exact sliC_ne (by omega)
theorem sliC_keep {v : Value} {n : Nat} {X : List Int} (hb : Below W.heap.size W W') (hv : ∃ g, v = sliC g ∧ n ≤ g ∧ NumsAt W g 3 X) : ∃ g, v = sliC g ∧ n ≤ g ∧ NumsAt W' g 3 X := by
  obtain ⟨g, e, h1, h2⟩ := hv
  exact ⟨g, e, h1, h2.below hb h2.lt⟩
theorem Mk3.start (hL : ∀ i, L i = false) (u1 u2 u3 : Value) : Mk3 w L i1 i2 i3 u1 u2 u3 P Q S w.drew := by
  have e : ∀ i, ¬ L i = true := fun i h => by rw [hL i] at h; cases h
  exact ⟨(Below.refl _ _).drew, fun h => (e _ h).elim, fun h => (e _ h).elim, fun h => (e _ h).elim, fun h => (e _ h).elim, fun h => (e _ h).elim, fun h => (e _ h).elim⟩
theorem Mk3.skip (h : Mk3 w L i1 i2 i3 v1 v2 v3 P Q S W) (k : Nat) (h1 : i1 ≠ k) (h2 : i2 ≠ k) (h3 : i3 ≠ k) : Mk3 w (setB L k) i1 i2 i3 v1 v2 v3 P Q S W := by
  have e1 := setB_ne (L := L) h1
  have e2 := setB_ne (L := L) h2
  have e3 := setB_ne (L := L) h3
  exact ⟨h.below, by rw [e1]; exact h.l1, by rw [e2]; exact h.l2, by rw [e3]; exact h.l3, by rw [e1, e2]; exact h.d12, by rw [e1, e3]; exact h.d13, by rw [e2, e3]; exact h.d23⟩
theorem Mk3.new1 (h : Mk3 w L i1 i2 i3 v1 v2 v3 P Q S W) (h2 : i2 ≠ i1) (h3 : i3 ≠ i1) (hb : Below W.heap.size W W') (hN : NumsAt W' W.heap.size 3 P) : Mk3 w (setB L i1) i1 i2 i3 (sliC W.heap.size) v2 v3 P Q S W' := by
  have e2 := setB_ne (L := L) h2
  have e3 := setB_ne (L := L) h3
  refine ⟨h.below.trans (hb.mono h.below.size), fun _ => ⟨_, rfl, h.below.size, hN⟩, ?_, ?_, ?_, ?_, ?_⟩
  · rw [e2]; exact fun l => sliC_keep hb (h.l2 l)
  · rw [e3]; exact fun l => sliC_keep hb (h.l3 l)
  · rw [e2]; exact fun _ l => (sliC_old (h.l2 l)).symm
  · rw [e3]; exact fun _ l => (sliC_old (h.l3 l)).symm
  · rw [e2, e3]; exact h.d23
theorem Mk3.new2 (h : Mk3 w L i1 i2 i3 v1 v2 v3 P Q S W) (h1 : i1 ≠ i2) (h3 : i3 ≠ i2) (hb : Below W.heap.size W W') (hN : NumsAt W' W.heap.size 3 Q) : Mk3 w (setB L i2) i1 i2 i3 v1 (sliC W.heap.size) v3 P Q S W' := by
  have e1 := setB_ne (L := L) h1
  have e3 := setB_ne (L := L) h3
  refine ⟨h.below.trans (hb.mono h.below.size), ?_, fun _ => ⟨_, rfl, h.below.size, hN⟩, ?_, ?_, ?_, ?_⟩
  · rw [e1]; exact fun l => sliC_keep hb (h.l1 l)
  · rw [e3]; exact fun l => sliC_keep hb (h.l3 l)
  · rw [e1]; exact fun l _ => sliC_old (h.l1 l)
  · rw [e1, e3]; exact h.d13
  · rw [e3]; exact fun _ l => (sliC_old (h.l3 l)).symm
theorem Mk3.new3 (h : Mk3 w L i1 i2 i3 v1 v2 v3 P Q S W) (h1 : i1 ≠ i3) (h2 : i2 ≠ i3) (hb : Below W.heap.size W W') (hN : NumsAt W' W.heap.size 3 S) : Mk3 w (setB L i3) i1 i2 i3 v1 v2 (sliC W.heap.size) P Q S W' := by
  have e1 := setB_ne (L := L) h1
  have e2 := setB_ne (L := L) h2
  refine ⟨h.below.trans (hb.mono h.below.size), ?_, ?_, fun _ => ⟨_, rfl, h.below.size, hN⟩, ?_, ?_, ?_⟩
  · rw [e1]; exact fun l => sliC_keep hb (h.l1 l)
  · rw [e2]; exact fun l => sliC_keep hb (h.l2 l)
  · rw [e1, e2]; exact h.d12
  · rw [e1]; exact fun l _ => sliC_old (h.l1 l)
  · rw [e2]; exact fun l _ => sliC_old (h.l2 l)
/-- all three are there -/
theorem Mk3.all (h : Mk3 w L i1 i2 i3 v1 v2 v3 P Q S W) (h1 : L i1 = true) (h2 : L i2 = true) (h3 : L i3 = true) :
    ∃ g1 g2 g3, v1 = sliC g1 ∧ v2 = sliC g2 ∧ v3 = sliC g3 ∧ NumsAt W g1 3 P ∧ NumsAt W g2 3 Q ∧ NumsAt W g3 3 S ∧ w.heap.size ≤ g1 ∧ w.heap.size ≤ g2 ∧ w.heap.size ≤ g3 ∧ g1 ≠ g2 ∧ g1 ≠ g3 ∧ g2 ≠ g3 := by
  obtain ⟨g1, rfl, a1, b1⟩ := h.l1 h1
  obtain ⟨g2, rfl, a2, b2⟩ := h.l2 h2
  obtain ⟨g3, rfl, a3, b3⟩ := h.l3 h3
  exact ⟨g1, g2, g3, rfl, rfl, rfl, b1, b2, b3, a1, a2, a3, fun e => h.d12 h1 h2 (by rw [e]), fun e => h.d13 h1 h3 (by rw [e]), fun e => h.d23 h2 h3 (by rw [e])⟩

end Go.Proofs.Ytpmdeoiajnfabaa
