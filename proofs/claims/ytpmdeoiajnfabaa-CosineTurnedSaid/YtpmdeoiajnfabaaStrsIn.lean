/- Texts and numbers that came in as arguments: how their reading is opened. -/
import Derived.Test.YtpmdeoiajnfabaaPTree
import Derived.ProofKit
import Derived.Deep.Slices
import Derived.ChangeArms
import Derived.OpenShut
namespace Go.Proofs.Ytpmdeoiajnfabaa
open Go.RowKit Go.ChangeShapes Go.WideShapes
set_option linter.unusedVariables false

theorem cellsOfStr : Try.prog.cellsOf 9 = 1 := by kernel_rfl
theorem add_twoS (a : Addr) (i j : Nat) (h : a.spot = none) : (a.add i).add j = ⟨a.block, a.off + i + j, none⟩ := by
  obtain ⟨b, off, spot⟩ := a
  simp at h
  subst h
  have h1 : (⟨b, off, none⟩ : Addr).add i = ⟨b, off + i, none⟩ := by unfold Addr.add; split <;> simp_all
  rw [h1]
  unfold Addr.add; split <;> simp_all

section
variable {H : Type} {enc : TypeId × Value → H} {W : World}
theorem Row8.whole {n₀ : Nat} {w : World} {a : Option Addr} {len cap : Nat} {zs : List UInt8} (h : Row8 n₀ w a len cap zs) (hn : n₀ ≤ w.heap.size) (hl : len ≤ 1152921504606846975) : Byt w.heap.size w (.slice a len cap) zs := by
  have h1 := h.1
  subst h1
  have := h.byt hn (Nat.le_refl _) hl
  rwa [List.take_length] at this
theorem cellsOfInt : Try.prog.cellsOf 3 = 1 := by kernel_rfl
theorem ints_of_trod {fuel : Nat} {a : Option Addr} {len cap : Nat} {x : DataW H × List MemPlace} (h : DataW.trod enc Try.prog W 0 (fun _ => true) true fuel 22 [.slice a len cap] = some x) :
    ∃ xs : List Int, RowV W.heap.size W a len cap (intV xs) ∧ I64s xs := by
  rcases Go.Deep.open_slice Try.underlying22y h with ⟨hcs, _⟩ | ⟨a', len', cap', m, n, D, Pl, hcs, _, hl, hm, hmm, _, hi⟩
  · simp at hcs
    obtain ⟨rfl, rfl, rfl⟩ := hcs
    exact ⟨[], ⟨rfl, Nat.le_refl _, by omega, .inl rfl⟩, fun n hn => by simp at hn⟩
  · simp at hcs
    obtain ⟨rfl, rfl, rfl⟩ := hcs
    simp at hmm
    subst hmm
    have hex : ∀ i, ∃ y : Int, (-9223372036854775808 ≤ y ∧ y ≤ 9223372036854775807) ∧ (i < m → W.cell? ((a'.add (i * 1)).add 0) = some (.int .i64 y)) := by
      intro i
      by_cases hil : i < m
      · obtain ⟨cs', hc, ht⟩ := hi i hil
        rw [cellsOfInt] at hc
        obtain ⟨s, hs, _, hwf⟩ := DataW.trod_int Try.underlying3 ht
        subst hs
        obtain ⟨_, _, hat⟩ := World.cells?_some hc
        exact ⟨s, wf_i64 hwf, fun _ => hat 0 (by omega)⟩
      · exact ⟨0, by omega, fun h => absurd h hil⟩
    obtain ⟨f, hf'⟩ := Classical.axiomOfChoice hex
    have hf := fun i => (hf' i).2
    refine ⟨(List.range len).map f, ⟨by simp, hl, by unfold maxLen at hm; omega, ?_⟩, fun n hn => by
      rw [List.mem_map] at hn
      obtain ⟨i, _, rfl⟩ := hn
      exact (hf' i).1⟩
    by_cases h0 : m = 0
    · exact .inl h0
    · right
      have hc0 := hf 0 (by omega)
      obtain ⟨b, off, spot⟩ := a'
      have hspot : spot = none := by simpa [Addr.add] using World.cell?_spot hc0
      subst hspot
      refine ⟨b, off, rfl, by rw [add_twoS _ _ _ rfl] at hc0; exact cell_lt hc0, fun j u hu => ?_⟩
      have hj : j < len := by
        false_or_by_contra
        rw [List.getElem?_eq_none (by simp; omega)] at hu
        cases hu
      have h2 := hf j (by omega)
      rw [add_twoS _ _ _ rfl] at h2
      simp [hj] at hu
      subst hu
      simpa using h2
end

end Go.Proofs.Ytpmdeoiajnfabaa
