/- Contracts of the kit's CopyInts, SameInts, OverInts. What the laws of prefix lean on: a tree's contracts, as one record; the contract of the law's Long. -/
import Derived.Test.YtejcgkplcbapfaaDoorKit
/- Contracts of the kit's CopyInts, SameInts, OverInts. -/
namespace Go.Proofs.YtejcgkplcbapfaaDoor
open Go.RowKit Go.Shelf
set_option linter.unusedVariables false

/-- a slice whose cells are known -/
def CellsAt (w : World) (v : Value) (vs : List Value) : Prop :=
  ∃ a cap, v = .slice a vs.length cap ∧ (vs = [] ∨ ∃ b off, a = some ⟨b, off, none⟩ ∧ ∀ j u, vs[j]? = some u → w.cell? ⟨b, off + j, none⟩ = some u)
theorem RowV.cellsAt {n₀ : Nat} {w : World} {a : Option Addr} {len cap : Nat} {vs : List Value} (h : RowV n₀ w a len cap vs) : CellsAt w (.slice a len cap) vs := by
  obtain ⟨h1, h2, h3, h4⟩ := h
  subst h1
  refine ⟨a, cap, rfl, ?_⟩
  rcases h4 with rfl | ⟨b, off, e, _, hc⟩
  · exact .inl (List.eq_nil_of_length_eq_zero (by omega))
  · exact .inr ⟨b, off, e, hc⟩
theorem cellsAt_own {w : World} {base n : Nat} {e : TypeId} {v : Value} {xs : List Value} (h : w.ownsRow base e 1 v n xs) : CellsAt w v xs := by
  have hl : xs.length = n := by have := h.1; omega
  subst hl
  rcases id h.2 with ⟨rfl, h0⟩ | ⟨g, cap, cur, rfl, _⟩
  · exact ⟨none, 0, by rw [h0], .inl (List.eq_nil_of_length_eq_zero h0)⟩
  · refine ⟨_, cap, rfl, .inr ⟨g, 0, rfl, fun j u hu => ?_⟩⟩
    have hj : j < xs.length := by
      false_or_by_contra
      rw [List.getElem?_eq_none (by omega)] at hu
      cases hu
    rw [Nat.zero_add, h.cellAt j (by omega), hu]
theorem CellsAt.below {w w' : World} {v : Value} {vs : List Value} (h : CellsAt w v vs) (hb : Below w.heap.size w w') : CellsAt w' v vs := by
  obtain ⟨a, cap, e, h2⟩ := h
  exact ⟨a, cap, e, h2.imp id fun ⟨b, off, e, hc⟩ => ⟨b, off, e, fun j u hu => (hb.cell (p := ⟨b, off + j, none⟩) (World.block_lt_of_cell? w _ (hc j u hu))).trans (hc j u hu)⟩⟩

/-- a copy of its own -/
def CopiedV (e : TypeId) (w w' : World) (r : Ending) (xs : List Value) : Prop := ∃ v, r = .returned v ∧ w'.ownsRow w.heap.size e 1 v xs.length xs ∧ Below w.heap.size w w'
theorem intV_get {xs : List Int} {j : Nat} (h : j < xs.length) : (intV xs)[j]? = some (.int .i64 (xs[j]?.getD 0)) := by simp [h]
/-- n cells at the head of block g, which may be written -/
def Cells0 (w : World) (g n : Nat) : Prop := ∃ cur e, w.heap[g]? = some (.cells cur e (0, 0)) ∧ n ≤ cur.size
theorem Cells0.cell {w : World} {g n j : Nat} (h : Cells0 w g n) (hj : j < n) : ∃ u, w.cell? ⟨g, j, none⟩ = some u ∧ w.frozen? ⟨g, j, none⟩ = false := by
  obtain ⟨cur, e, hg, hn⟩ := h
  exact ⟨cur[j]'(by omega), by simp [World.cell?, hg, show j < cur.size by omega], by simp [World.frozen?, hg]⟩
theorem Cells0.set {w : World} {g n j : Nat} (h : Cells0 w g n) (u : Value) : Cells0 (w.setCell ⟨g, j, none⟩ u) g n := by
  obtain ⟨cur, e, hg, hn⟩ := h
  exact ⟨_, e, heap_setCell_same _ _ _ _ _ _ hg, by simpa using hn⟩
theorem cells0_own {w : World} {base n g cap : Nat} {e : TypeId} {xs : List Value} (h : w.ownsRow base e 1 (.slice (some ⟨g, 0, none⟩) n cap) n xs) : Cells0 w g n := by
  rcases h.2 with ⟨e, _⟩ | ⟨g', cap', cur, e, _, hg, hc, _, hs, _⟩
  · cases e
  · cases e
    exact ⟨cur, _, hg, by omega⟩
theorem Cells0.lt {w : World} {g n : Nat} (h : Cells0 w g n) : g < w.heap.size := by
  obtain ⟨cur, e, hg, _⟩ := h
  exact (Array.getElem?_eq_some_iff.1 hg).1

end Go.Proofs.YtejcgkplcbapfaaDoor

/- What the laws of prefix lean on: a tree's contracts, as one record; the contract of the law's Long. -/
namespace Go.Proofs.YtejcgkplcbapfaaDoor
open Go.RowKit Go.Shelf
set_option linter.unusedVariables false

theorem RowV.mono {n₀ n₁ : Nat} {w : World} {a : Option Addr} {len cap : Nat} {vs : List Value} (h : RowV n₀ w a len cap vs) (hn : n₀ ≤ n₁) : RowV n₁ w a len cap vs := by
  obtain ⟨h1, h2, h3, h4⟩ := h
  exact ⟨h1, h2, h3, h4.imp id fun ⟨b, off, e, hlt, hc⟩ => ⟨b, off, e, by omega, hc⟩⟩
theorem rowV_own {w : World} {base n : Nat} {e : TypeId} {v : Value} {xs : List Value} (h : w.ownsRow base e 1 v n xs) : ∃ a cap, v = .slice a n cap ∧ RowV w.heap.size w a n cap xs := by
  have hl : xs.length = n := by have := h.1; omega
  subst hl
  rcases id h.2 with ⟨rfl, h0⟩ | ⟨g, cap, cur, rfl, _, hg, hc, hm, _⟩
  · exact ⟨none, 0, by rw [h0], rfl, by omega, by omega, .inl rfl⟩
  · refine ⟨_, cap, rfl, rfl, hc, by unfold maxLen at hm; omega, .inr ⟨g, 0, rfl, (Array.getElem?_eq_some_iff.1 hg).1, fun j u hu => ?_⟩⟩
    have hj : j < xs.length := by
      false_or_by_contra
      rw [List.getElem?_eq_none (by omega)] at hu
      cases hu
    rw [Nat.zero_add, h.cellAt j (by omega), hu]
theorem IsT.keep {S : Nat → Prop} {n₀ : Nat} {w w' : World} {b : Nat} {codes : List ByteArray} {nums : List Int} (h : IsT n₀ w b codes nums) (hb : Bar S w w') (hS : ∀ k, n₀ ≤ k → ¬ S k) : IsT n₀ w' b codes nums := by
  have hlt := h.lt
  obtain ⟨vc, vn, h1, h2, h3, h4, h5⟩ := h
  exact ⟨vc, vn, h1, (hb.block b hlt (hS b h1)).trans h2, ownsRow_bar h3 hb (fun k e => hS k (h3.lt k e).1), ownsRow_bar h4 hb (fun k e => hS k (h4.lt k e).1), h5⟩

/-- numbers that an int may be -/
def I64s (ns : List Int) : Prop := ∀ n ∈ ns, -9223372036854775808 ≤ n ∧ n ≤ 9223372036854775807
theorem getT_form (cs : List ByteArray) (ns : List Int) (zs : List UInt8) (x : Int) : ∃ g n e : Int, getT cs ns zs x = .tuple #[.int .i64 g, .int .i64 n, .int .i64 e] := by
  unfold getT
  split
  · exact ⟨_, _, _, rfl⟩
  · exact ⟨_, _, _, rfl⟩

/-- more codes than are gone through? -/
def long3B (cs : List ByteArray) : Bool := (cs.take 61).any (fun s => decide (40 < s.size)) || (decide (60 < cs.length) && decide (cs.length ≤ 300))
theorem any_step3 {cs : List ByteArray} {i : Nat} (h : (cs.take i).any (fun s => decide (40 < s.size)) = false) (hi : i < cs.length) : (cs.take (i + 1)).any (fun s => decide (40 < s.size)) = decide (40 < (cs[i]?.getD ⟨#[]⟩).size) := by
  rw [List.take_add_one, List.any_append, h, Bool.false_or, List.getElem?_eq_getElem hi]
  simp
theorem any_mono3 {cs : List ByteArray} {i j : Nat} (h : (cs.take i).any (fun s => decide (40 < s.size)) = true) (hij : i ≤ j) : (cs.take j).any (fun s => decide (40 < s.size)) = true := by
  rw [List.any_eq_true] at h ⊢
  obtain ⟨x, hx, hp⟩ := h
  exact ⟨x, (List.take_subset_take_left cs hij) hx, hp⟩

end Go.Proofs.YtejcgkplcbapfaaDoor
