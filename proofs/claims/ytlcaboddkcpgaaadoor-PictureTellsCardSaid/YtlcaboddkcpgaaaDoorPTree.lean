/- Contracts of the kit's CopyInts, SameInts, OverInts. What the laws of prefix lean on: a tree's contracts, as one record; the contract of the law's Long. Texts and numbers that came in as arguments: how their reading is opened. -/
import Derived.Test.YtlcaboddkcpgaaaDoorKit
import Derived.ProofKit
import Derived.Deep.Slices
import Derived.ChangeArms
import Derived.OpenShut
/- Contracts of the kit's CopyInts, SameInts, OverInts. What the laws of prefix lean on: a tree's contracts, as one record; the contract of the law's Long. -/
/- Contracts of the kit's CopyInts, SameInts, OverInts. -/
namespace Go.Proofs.YtlcaboddkcpgaaaDoor
open Go.RowKit Go.Shelf
set_option linter.unusedVariables false

/-- a slice whose cells are known -/
def CellsAt (w : World) (v : Value) (vs : List Value) : Prop :=
  ∃ a cap, v = .slice a vs.length cap ∧ (vs = [] ∨ ∃ b off, a = some ⟨b, off, none⟩ ∧ ∀ j u, vs[j]? = some u → w.cell? ⟨b, off + j, none⟩ = some u)
theorem RowV.cellsAt {n₀ : Nat} {w : World} {a : Option Addr} {len cap : Nat} {vs : List Value} (h : RowV n₀ w a len cap vs) : CellsAt w (.slice a len cap) vs := by
  obtain ⟨h1, h2, h3, h4⟩ := h
  subst h1
  refine ⟨a, cap, rfl, ?_⟩
  rcases h4 with rfl | ⟨b, off, e, _, hc⟩
  · exact .inl (List.eq_nil_of_length_eq_zero (by omega))
  · exact .inr ⟨b, off, e, hc⟩
theorem cellsAt_own {w : World} {base n : Nat} {e : TypeId} {v : Value} {xs : List Value} (h : w.ownsRow base e 1 v n xs) : CellsAt w v xs := by
  have hl : xs.length = n := by have := h.1; omega
  subst hl
  rcases id h.2 with ⟨rfl, h0⟩ | ⟨g, cap, cur, rfl, _⟩
  · exact ⟨none, 0, by rw [h0], .inl (List.eq_nil_of_length_eq_zero h0)⟩
  · refine ⟨_, cap, rfl, .inr ⟨g, 0, rfl, fun j u hu => ?_⟩⟩
    have hj : j < xs.length := by
      false_or_by_contra
      rw [List.getElem?_eq_none (by omega)] at hu
      cases hu
    rw [Nat.zero_add, h.cellAt j (by omega), hu]
theorem CellsAt.below {w w' : World} {v : Value} {vs : List Value} (h : CellsAt w v vs) (hb : Below w.heap.size w w') : CellsAt w' v vs := by
  obtain ⟨a, cap, e, h2⟩ := h
  exact ⟨a, cap, e, h2.imp id fun ⟨b, off, e, hc⟩ => ⟨b, off, e, fun j u hu => (hb.cell (p := ⟨b, off + j, none⟩) (World.block_lt_of_cell? w _ (hc j u hu))).trans (hc j u hu)⟩⟩

/-- a copy of its own -/
def CopiedV (e : TypeId) (w w' : World) (r : Ending) (xs : List Value) : Prop := ∃ v, r = .returned v ∧ w'.ownsRow w.heap.size e 1 v xs.length xs ∧ Below w.heap.size w w'
theorem intV_get {xs : List Int} {j : Nat} (h : j < xs.length) : (intV xs)[j]? = some (.int .i64 (xs[j]?.getD 0)) := by simp [h]
/-- n cells at the head of block g, which may be written -/
def Cells0 (w : World) (g n : Nat) : Prop := ∃ cur e, w.heap[g]? = some (.cells cur e (0, 0)) ∧ n ≤ cur.size
theorem Cells0.cell {w : World} {g n j : Nat} (h : Cells0 w g n) (hj : j < n) : ∃ u, w.cell? ⟨g, j, none⟩ = some u ∧ w.frozen? ⟨g, j, none⟩ = false := by
  obtain ⟨cur, e, hg, hn⟩ := h
  exact ⟨cur[j]'(by omega), by simp [World.cell?, hg, show j < cur.size by omega], by simp [World.frozen?, hg]⟩
theorem Cells0.set {w : World} {g n j : Nat} (h : Cells0 w g n) (u : Value) : Cells0 (w.setCell ⟨g, j, none⟩ u) g n := by
  obtain ⟨cur, e, hg, hn⟩ := h
  exact ⟨_, e, heap_setCell_same _ _ _ _ _ _ hg, by simpa using hn⟩
theorem cells0_own {w : World} {base n g cap : Nat} {e : TypeId} {xs : List Value} (h : w.ownsRow base e 1 (.slice (some ⟨g, 0, none⟩) n cap) n xs) : Cells0 w g n := by
  rcases h.2 with ⟨e, _⟩ | ⟨g', cap', cur, e, _, hg, hc, _, hs, _⟩
  · cases e
  · cases e
    exact ⟨cur, _, hg, by omega⟩
theorem Cells0.lt {w : World} {g n : Nat} (h : Cells0 w g n) : g < w.heap.size := by
  obtain ⟨cur, e, hg, _⟩ := h
  exact (Array.getElem?_eq_some_iff.1 hg).1

end Go.Proofs.YtlcaboddkcpgaaaDoor

/- What the laws of prefix lean on: a tree's contracts, as one record; the contract of the law's Long. -/
namespace Go.Proofs.YtlcaboddkcpgaaaDoor
open Go.RowKit Go.Shelf
set_option linter.unusedVariables false

theorem RowV.mono {n₀ n₁ : Nat} {w : World} {a : Option Addr} {len cap : Nat} {vs : List Value} (h : RowV n₀ w a len cap vs) (hn : n₀ ≤ n₁) : RowV n₁ w a len cap vs := by
  obtain ⟨h1, h2, h3, h4⟩ := h
  exact ⟨h1, h2, h3, h4.imp id fun ⟨b, off, e, hlt, hc⟩ => ⟨b, off, e, by omega, hc⟩⟩
theorem rowV_own {w : World} {base n : Nat} {e : TypeId} {v : Value} {xs : List Value} (h : w.ownsRow base e 1 v n xs) : ∃ a cap, v = .slice a n cap ∧ RowV w.heap.size w a n cap xs := by
  have hl : xs.length = n := by have := h.1; omega
  subst hl
  rcases id h.2 with ⟨rfl, h0⟩ | ⟨g, cap, cur, rfl, _, hg, hc, hm, _⟩
  · exact ⟨none, 0, by rw [h0], rfl, by omega, by omega, .inl rfl⟩
  · refine ⟨_, cap, rfl, rfl, hc, by unfold maxLen at hm; omega, .inr ⟨g, 0, rfl, (Array.getElem?_eq_some_iff.1 hg).1, fun j u hu => ?_⟩⟩
    have hj : j < xs.length := by
      false_or_by_contra
      rw [List.getElem?_eq_none (by omega)] at hu
      cases hu
    rw [Nat.zero_add, h.cellAt j (by omega), hu]
/-- numbers that an int may be -/
abbrev I64 (n : Int) : Prop := -9223372036854775808 ≤ n ∧ n ≤ 9223372036854775807
def I64s (ns : List Int) : Prop := ∀ n ∈ ns, -9223372036854775808 ≤ n ∧ n ≤ 9223372036854775807
theorem getT_form (cs : List ByteArray) (ns : List Int) (zs : List UInt8) (x : Int) : ∃ g n e : Int, getT cs ns zs x = .tuple #[.int .i64 g, .int .i64 n, .int .i64 e] := by
  unfold getT
  split
  · exact ⟨_, _, _, rfl⟩
  · exact ⟨_, _, _, rfl⟩

/-- more codes than are gone through? -/
def long3B (cs : List ByteArray) : Bool := (cs.take 61).any (fun s => decide (40 < s.size)) || (decide (60 < cs.length) && decide (cs.length ≤ 300))
theorem any_step3 {cs : List ByteArray} {i : Nat} (h : (cs.take i).any (fun s => decide (40 < s.size)) = false) (hi : i < cs.length) : (cs.take (i + 1)).any (fun s => decide (40 < s.size)) = decide (40 < (cs[i]?.getD ⟨#[]⟩).size) := by
  rw [List.take_add_one, List.any_append, h, Bool.false_or, List.getElem?_eq_getElem hi]
  simp
theorem any_mono3 {cs : List ByteArray} {i j : Nat} (h : (cs.take i).any (fun s => decide (40 < s.size)) = true) (hij : i ≤ j) : (cs.take j).any (fun s => decide (40 < s.size)) = true := by
  rw [List.any_eq_true] at h ⊢
  obtain ⟨x, hx, hp⟩ := h
  exact ⟨x, (List.take_subset_take_left cs hij) hx, hp⟩

end Go.Proofs.YtlcaboddkcpgaaaDoor

/- Texts and numbers that came in as arguments: how their reading is opened. -/
namespace Go.Proofs.YtlcaboddkcpgaaaDoor
open Go.RowKit Go.ChangeShapes Go.WideShapes
set_option linter.unusedVariables false

theorem cellsOfStr : Tryd.prog.cellsOf 9 = 1 := by kernel_rfl
theorem add_twoS (a : Addr) (i j : Nat) (h : a.spot = none) : (a.add i).add j = ⟨a.block, a.off + i + j, none⟩ := by
  obtain ⟨b, off, spot⟩ := a
  simp at h
  subst h
  have h1 : (⟨b, off, none⟩ : Addr).add i = ⟨b, off + i, none⟩ := by unfold Addr.add; split <;> simp_all
  rw [h1]
  unfold Addr.add; split <;> simp_all

section
variable {H : Type} {enc : TypeId × Value → H} {W : World}
theorem bytes_of_trod {fuel : Nat} {a : Option Addr} {len cap : Nat} {x : DataW H × List MemPlace} (h : DataW.trod enc Tryd.prog W 0 (fun _ => true) true fuel 22 [.slice a len cap] = some x) :
    ∃ zs : List UInt8, Row8 W.heap.size W a len cap zs ∧ (len = 0 ∨ ∃ elems spare, x.1 = .slice elems spare ∧ elems.length = len) := by
  have hrow : ∃ zs, Row8 W.heap.size W a len cap zs := by
    rcases open_ints Tryd.underlying22 Tryd.underlying5 (by kernel_rfl) h with ⟨hcs, _⟩ | ⟨x, l, c, zs, hcs, _, hl, hm, hz, _, hcell, hwz⟩
    · simp at hcs
      obtain ⟨rfl, rfl, rfl⟩ := hcs
      exact row8_of_row (w := W) (z := []) (.inl ⟨rfl, rfl, rfl, rfl⟩)
    · simp at hcs
      obtain ⟨rfl, rfl, rfl⟩ := hcs
      exact row8_of_row (w := W) (z := zs) (.inr ⟨_, rfl, hl, hm, by simpa using hz, hcell, hwz⟩)
  obtain ⟨zs, hz⟩ := hrow
  refine ⟨zs, hz, ?_⟩
  rcases Go.Deep.open_slice Tryd.underlying22 h with ⟨hcs, _⟩ | ⟨a', len', cap', m, n, D, Pl, hcs, _, hl, hm, hmm, hx, hi⟩
  · simp at hcs
    exact .inl hcs.2.1
  · simp at hcs
    obtain ⟨rfl, rfl, rfl⟩ := hcs
    exact .inr ⟨_, _, by rw [hx], by simp⟩
theorem Row8.whole {n₀ : Nat} {w : World} {a : Option Addr} {len cap : Nat} {zs : List UInt8} (h : Row8 n₀ w a len cap zs) (hn : n₀ ≤ w.heap.size) (hl : len ≤ 1152921504606846975) : Byt w.heap.size w (.slice a len cap) zs := by
  have h1 := h.1
  subst h1
  have := h.byt hn (Nat.le_refl _) hl
  rwa [List.take_length] at this
theorem cellsOfInt : Tryd.prog.cellsOf 3 = 1 := by kernel_rfl
end

/-- a slice has room for what it holds -/
def Capped (v : Value) : Prop := ∃ a n cap, v = .slice a n cap ∧ n ≤ cap
theorem capped_own {w : World} {base n sz : Nat} {e : TypeId} {v : Value} {xs : List Value} (h : w.ownsRow base e sz v n xs) : Capped v := by
  rcases h.2 with ⟨rfl, rfl⟩ | ⟨g, cap, cur, rfl, -, -, h5, -⟩
  · exact ⟨_, _, _, rfl, Nat.le_refl _⟩
  · exact ⟨_, _, _, rfl, h5⟩
theorem capped_lent {base : Nat} {w : World} {v : Value} {zs : List UInt8} (h : Lent base w v zs) : Capped v := by
  obtain ⟨g, cap, rfl, -, hr⟩ := h
  obtain ⟨a, n, c, e, hn⟩ := capped_own hr
  cases e
  exact ⟨_, _, _, rfl, by omega⟩
end Go.Proofs.YtlcaboddkcpgaaaDoor
