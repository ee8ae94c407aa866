/- What the laws of prefix lean on: a tree's contracts, as one record; the contract of the law's Long. -/
import Derived.Test.YtmampneedmodeaaDoorKitInts
namespace Go.Proofs.YtmampneedmodeaaDoor
open Go.RowKit Go.Shelf
set_option linter.unusedVariables false

theorem RowV.mono {n₀ n₁ : Nat} {w : World} {a : Option Addr} {len cap : Nat} {vs : List Value} (h : RowV n₀ w a len cap vs) (hn : n₀ ≤ n₁) : RowV n₁ w a len cap vs := by
  obtain ⟨h1, h2, h3, h4⟩ := h
  exact ⟨h1, h2, h3, h4.imp id fun ⟨b, off, e, hlt, hc⟩ => ⟨b, off, e, by omega, hc⟩⟩
theorem rowV_own {w : World} {base n : Nat} {e : TypeId} {v : Value} {xs : List Value} (h : w.ownsRow base e 1 v n xs) : ∃ a cap, v = .slice a n cap ∧ RowV w.heap.size w a n cap xs := by
  have hl : xs.length = n := by have := h.1; omega
  subst hl
  rcases id h.2 with ⟨rfl, h0⟩ | ⟨g, cap, cur, rfl, _, hg, hc, hm, _⟩
  · exact ⟨none, 0, by rw [h0], rfl, by omega, by omega, .inl rfl⟩
  · refine ⟨_, cap, rfl, rfl, hc, by unfold maxLen at hm; omega, .inr ⟨g, 0, rfl, (Array.getElem?_eq_some_iff.1 hg).1, fun j u hu => ?_⟩⟩
    have hj : j < xs.length := by
      false_or_by_contra
      rw [List.getElem?_eq_none (by omega)] at hu
      cases hu
    rw [Nat.zero_add, h.cellAt j (by omega), hu]
theorem IsT.keep {S : Nat → Prop} {n₀ : Nat} {w w' : World} {b : Nat} {codes : List ByteArray} {nums : List Int} (h : IsT n₀ w b codes nums) (hb : Bar S w w') (hS : ∀ k, n₀ ≤ k → ¬ S k) : IsT n₀ w' b codes nums := by
  have hlt := h.lt
  obtain ⟨vc, vn, h1, h2, h3, h4, h5⟩ := h
  exact ⟨vc, vn, h1, (hb.block b hlt (hS b h1)).trans h2, ownsRow_bar h3 hb (fun k e => hS k (h3.lt k e).1), ownsRow_bar h4 hb (fun k e => hS k (h4.lt k e).1), h5⟩

/-- numbers that an int may be -/
def I64s (ns : List Int) : Prop := ∀ n ∈ ns, -9223372036854775808 ≤ n ∧ n ≤ 9223372036854775807
theorem getT_form (cs : List ByteArray) (ns : List Int) (zs : List UInt8) (x : Int) : ∃ g n e : Int, getT cs ns zs x = .tuple #[.int .i64 g, .int .i64 n, .int .i64 e] := by
  unfold getT
  split
  · exact ⟨_, _, _, rfl⟩
  · exact ⟨_, _, _, rfl⟩

/-- more codes than are gone through? -/
def long3B (cs : List ByteArray) : Bool := (cs.take 61).any (fun s => decide (40 < s.size)) || (decide (60 < cs.length) && decide (cs.length ≤ 300))
theorem any_step3 {cs : List ByteArray} {i : Nat} (h : (cs.take i).any (fun s => decide (40 < s.size)) = false) (hi : i < cs.length) : (cs.take (i + 1)).any (fun s => decide (40 < s.size)) = decide (40 < (cs[i]?.getD ⟨#[]⟩).size) := by
  rw [List.take_add_one, List.any_append, h, Bool.false_or, List.getElem?_eq_getElem hi]
  simp
theorem any_mono3 {cs : List ByteArray} {i j : Nat} (h : (cs.take i).any (fun s => decide (40 < s.size)) = true) (hij : i ≤ j) : (cs.take j).any (fun s => decide (40 < s.size)) = true := by
  rw [List.any_eq_true] at h ⊢
  obtain ⟨x, hx, hp⟩ := h
  exact ⟨x, (List.take_subset_take_left cs hij) hx, hp⟩

end Go.Proofs.YtmampneedmodeaaDoor
