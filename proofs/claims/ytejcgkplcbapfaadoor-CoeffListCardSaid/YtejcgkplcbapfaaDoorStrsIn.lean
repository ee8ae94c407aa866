/- Texts and numbers that came in as arguments: how their reading is opened. -/
import Derived.Test.YtejcgkplcbapfaaDoorPTree
import Derived.ProofKit
import Derived.Deep.Slices
import Derived.ChangeArms
import Derived.OpenShut
namespace Go.Proofs.YtejcgkplcbapfaaDoor
open Go.RowKit Go.ChangeShapes Go.WideShapes
set_option linter.unusedVariables false

theorem cellsOfStr : Tryd.prog.cellsOf 9 = 1 := by kernel_rfl
theorem add_twoS (a : Addr) (i j : Nat) (h : a.spot = none) : (a.add i).add j = ⟨a.block, a.off + i + j, none⟩ := by
  obtain ⟨b, off, spot⟩ := a
  simp at h
  subst h
  have h1 : (⟨b, off, none⟩ : Addr).add i = ⟨b, off + i, none⟩ := by unfold Addr.add; split <;> simp_all
  rw [h1]
  unfold Addr.add; split <;> simp_all

section
variable {H : Type} {enc : TypeId × Value → H} {W : World}

theorem strs_of_trod {fuel : Nat} {a : Option Addr} {len cap : Nat} {x : DataW H × List MemPlace} (h : DataW.trod enc Tryd.prog W 0 (fun _ => true) true fuel 56 [.slice a len cap] = some x) :
    ∃ xs : List ByteArray, RowV W.heap.size W a len cap (strV xs) ∧ (∀ s ∈ xs, s.size ≤ 9223372036854775807) ∧ (len = 0 ∨ ∃ elems spare, x.1 = .slice elems spare ∧ elems.length = len) := by
  rcases Go.Deep.open_slice Tryd.underlying56x h with ⟨hcs, _⟩ | ⟨a', len', cap', m, n, D, Pl, hcs, _, hl, hm, hmm, hx, hi⟩
  · simp at hcs
    obtain ⟨rfl, rfl, rfl⟩ := hcs
    exact ⟨[], ⟨rfl, Nat.le_refl _, by omega, .inl rfl⟩, by simp, .inl rfl⟩
  · simp at hcs
    obtain ⟨rfl, rfl, rfl⟩ := hcs
    simp at hmm
    subst hmm
    have hex : ∀ i, ∃ y : ByteArray, i < m → y.size ≤ 9223372036854775807 ∧ W.cell? ((a'.add (i * 1)).add 0) = some (.string y) := by
      intro i
      by_cases hil : i < m
      · obtain ⟨cs', hc, ht⟩ := hi i hil
        rw [cellsOfStr] at hc
        obtain ⟨s, hs, hrest⟩ := DataW.trod_string Tryd.underlying9 ht
        subst hs
        obtain ⟨_, _, hat⟩ := World.cells?_some hc
        exact ⟨s, fun _ => ⟨by have := hrest.2; unfold maxLen at this; omega, hat 0 (by omega)⟩⟩
      · exact ⟨⟨#[]⟩, fun h => absurd h hil⟩
    obtain ⟨f, hf⟩ := Classical.axiomOfChoice hex
    refine ⟨(List.range len).map f, ⟨by simp, hl, by unfold maxLen at hm; omega, ?_⟩, fun s hs => ?_, .inr ⟨_, _, by rw [hx], by simp⟩⟩
    · by_cases h0 : m = 0
      · exact .inl h0
      · right
        have hc0 := (hf 0 (by omega)).2
        obtain ⟨b, off, spot⟩ := a'
        have hspot : spot = none := by simpa [Addr.add] using World.cell?_spot hc0
        subst hspot
        refine ⟨b, off, rfl, by rw [add_twoS _ _ _ rfl] at hc0; exact cell_lt hc0, fun j u hu => ?_⟩
        have hj : j < len := by
          false_or_by_contra
          rw [List.getElem?_eq_none (by simp; omega)] at hu
          cases hu
        have h2 := (hf j (by omega)).2
        rw [add_twoS _ _ _ rfl] at h2
        simp [hj] at hu
        subst hu
        simpa using h2
    · simp at hs
      obtain ⟨i, hil, rfl⟩ := hs
      exact (hf i (by omega)).1
theorem bytes_of_trod {fuel : Nat} {a : Option Addr} {len cap : Nat} {x : DataW H × List MemPlace} (h : DataW.trod enc Tryd.prog W 0 (fun _ => true) true fuel 22 [.slice a len cap] = some x) :
    ∃ zs : List UInt8, Row8 W.heap.size W a len cap zs ∧ (len = 0 ∨ ∃ elems spare, x.1 = .slice elems spare ∧ elems.length = len) := by
  have hrow : ∃ zs, Row8 W.heap.size W a len cap zs := by
    rcases open_ints Tryd.underlying22 Tryd.underlying5 (by kernel_rfl) h with ⟨hcs, _⟩ | ⟨x, l, c, zs, hcs, _, hl, hm, hz, _, hcell, hwz⟩
    · simp at hcs
      obtain ⟨rfl, rfl, rfl⟩ := hcs
      exact row8_of_row (w := W) (z := []) (.inl ⟨rfl, rfl, rfl, rfl⟩)
    · simp at hcs
      obtain ⟨rfl, rfl, rfl⟩ := hcs
      exact row8_of_row (w := W) (z := zs) (.inr ⟨_, rfl, hl, hm, by simpa using hz, hcell, hwz⟩)
  obtain ⟨zs, hz⟩ := hrow
  refine ⟨zs, hz, ?_⟩
  rcases Go.Deep.open_slice Tryd.underlying22 h with ⟨hcs, _⟩ | ⟨a', len', cap', m, n, D, Pl, hcs, _, hl, hm, hmm, hx, hi⟩
  · simp at hcs
    exact .inl hcs.2.1
  · simp at hcs
    obtain ⟨rfl, rfl, rfl⟩ := hcs
    exact .inr ⟨_, _, by rw [hx], by simp⟩
theorem Row8.whole {n₀ : Nat} {w : World} {a : Option Addr} {len cap : Nat} {zs : List UInt8} (h : Row8 n₀ w a len cap zs) (hn : n₀ ≤ w.heap.size) (hl : len ≤ 1152921504606846975) : Byt w.heap.size w (.slice a len cap) zs := by
  have h1 := h.1
  subst h1
  have := h.byt hn (Nat.le_refl _) hl
  rwa [List.take_length] at this
theorem cellsOfInt : Tryd.prog.cellsOf 3 = 1 := by kernel_rfl
theorem ints_of_trod {fuel : Nat} {a : Option Addr} {len cap : Nat} {x : DataW H × List MemPlace} (h : DataW.trod enc Tryd.prog W 0 (fun _ => true) true fuel 40 [.slice a len cap] = some x) :
    ∃ xs : List Int, RowV W.heap.size W a len cap (intV xs) ∧ I64s xs := by
  rcases Go.Deep.open_slice Tryd.underlying40y h with ⟨hcs, _⟩ | ⟨a', len', cap', m, n, D, Pl, hcs, _, hl, hm, hmm, _, hi⟩
  · simp at hcs
    obtain ⟨rfl, rfl, rfl⟩ := hcs
    exact ⟨[], ⟨rfl, Nat.le_refl _, by omega, .inl rfl⟩, fun n hn => by simp at hn⟩
  · simp at hcs
    obtain ⟨rfl, rfl, rfl⟩ := hcs
    simp at hmm
    subst hmm
    have hex : ∀ i, ∃ y : Int, (-9223372036854775808 ≤ y ∧ y ≤ 9223372036854775807) ∧ (i < m → W.cell? ((a'.add (i * 1)).add 0) = some (.int .i64 y)) := by
      intro i
      by_cases hil : i < m
      · obtain ⟨cs', hc, ht⟩ := hi i hil
        rw [cellsOfInt] at hc
        obtain ⟨s, hs, _, hwf⟩ := DataW.trod_int Tryd.underlying3 ht
        subst hs
        obtain ⟨_, _, hat⟩ := World.cells?_some hc
        exact ⟨s, wf_i64 hwf, fun _ => hat 0 (by omega)⟩
      · exact ⟨0, by omega, fun h => absurd h hil⟩
    obtain ⟨f, hf'⟩ := Classical.axiomOfChoice hex
    have hf := fun i => (hf' i).2
    refine ⟨(List.range len).map f, ⟨by simp, hl, by unfold maxLen at hm; omega, ?_⟩, fun n hn => by
      rw [List.mem_map] at hn
      obtain ⟨i, _, rfl⟩ := hn
      exact (hf' i).1⟩
    by_cases h0 : m = 0
    · exact .inl h0
    · right
      have hc0 := hf 0 (by omega)
      obtain ⟨b, off, spot⟩ := a'
      have hspot : spot = none := by simpa [Addr.add] using World.cell?_spot hc0
      subst hspot
      refine ⟨b, off, rfl, by rw [add_twoS _ _ _ rfl] at hc0; exact cell_lt hc0, fun j u hu => ?_⟩
      have hj : j < len := by
        false_or_by_contra
        rw [List.getElem?_eq_none (by simp; omega)] at hu
        cases hu
      have h2 := hf j (by omega)
      rw [add_twoS _ _ _ rfl] at h2
      simp [hj] at hu
      subst hu
      simpa using h2
end

end Go.Proofs.YtejcgkplcbapfaaDoor
