/- Contracts of the kit's CopyInts, SameInts, OverInts. What the laws of prefix lean on: a tree's contracts, as one record; the contract of the law's Long. Texts and numbers that came in as arguments: how their reading is opened. -/
import Derived.Test.YtenplmmongphoaaKit
import Derived.ProofKit
import Derived.Deep.Slices
import Derived.ChangeArms
import Derived.OpenShut
/- Contracts of the kit's CopyInts, SameInts, OverInts. What the laws of prefix lean on: a tree's contracts, as one record; the contract of the law's Long. -/
/- Contracts of the kit's CopyInts, SameInts, OverInts. -/
namespace Go.Proofs.Ytenplmmongphoaa
open Go.RowKit Go.Shelf
set_option linter.unusedVariables false

/-- a slice whose cells are known -/
def CellsAt (w : World) (v : Value) (vs : List Value) : Prop :=
  ∃ a cap, v = .slice a vs.length cap ∧ (vs = [] ∨ ∃ b off, a = some ⟨b, off, none⟩ ∧ ∀ j u, vs[j]? = some u → w.cell? ⟨b, off + j, none⟩ = some u)
theorem RowV.cellsAt {n₀ : Nat} {w : World} {a : Option Addr} {len cap : Nat} {vs : List Value} (h : RowV n₀ w a len cap vs) : CellsAt w (.slice a len cap) vs := by
  obtain ⟨h1, h2, h3, h4⟩ := h
  subst h1
  refine ⟨a, cap, rfl, ?_⟩
  rcases h4 with rfl | ⟨b, off, e, _, hc⟩
  · exact .inl (List.eq_nil_of_length_eq_zero (by omega))
  · exact .inr ⟨b, off, e, hc⟩
theorem cellsAt_own {w : World} {base n : Nat} {e : TypeId} {v : Value} {xs : List Value} (h : w.ownsRow base e 1 v n xs) : CellsAt w v xs := by
  have hl : xs.length = n := by have := h.1; omega
  subst hl
  rcases id h.2 with ⟨rfl, h0⟩ | ⟨g, cap, cur, rfl, _⟩
  · exact ⟨none, 0, by rw [h0], .inl (List.eq_nil_of_length_eq_zero h0)⟩
  · refine ⟨_, cap, rfl, .inr ⟨g, 0, rfl, fun j u hu => ?_⟩⟩
    have hj : j < xs.length := by
      false_or_by_contra
      rw [List.getElem?_eq_none (by omega)] at hu
      cases hu
    rw [Nat.zero_add, h.cellAt j (by omega), hu]
theorem CellsAt.below {w w' : World} {v : Value} {vs : List Value} (h : CellsAt w v vs) (hb : Below w.heap.size w w') : CellsAt w' v vs := by
  obtain ⟨a, cap, e, h2⟩ := h
  exact ⟨a, cap, e, h2.imp id fun ⟨b, off, e, hc⟩ => ⟨b, off, e, fun j u hu => (hb.cell (p := ⟨b, off + j, none⟩) (World.block_lt_of_cell? w _ (hc j u hu))).trans (hc j u hu)⟩⟩

/-- a copy of its own -/
def CopiedV (e : TypeId) (w w' : World) (r : Ending) (xs : List Value) : Prop := ∃ v, r = .returned v ∧ w'.ownsRow w.heap.size e 1 v xs.length xs ∧ Below w.heap.size w w'
set_option maxRecDepth 100000 in
theorem copyInts_any {n₀ : Nat} {w : World} {a : Option Addr} {len cap : Nat} {xs : List Int} (h : RowV n₀ w a len cap (intV xs)) (hl : len ≤ 1000000000) :
    Calls Try.prog 11 #[.slice a len cap] w fun e w' => CopiedV 3 w w' e (intV xs) := by
  obtain ⟨i2, hi2', hz20, hz21, hz22⟩ := info_parts Try.info3y
  have HS := Lib.hid h.src
  have HN := Lib.hid h.nocap
  have h1 := h.1
  clear h
  go_enter Try.func11, Try.ntmps11
  go_wp2_with (at_builtin; refine wpList_append_v rfl (.tmp 3) (.tmp 4) 23 3 i2 (.int .i64 0) 8 rfl Try.underlying23y hi2' hz20 hz21 hz22 rfl w.heap.size (.slice (some ⟨w.heap.size, 0, none⟩) 0 0) 0 [] rfl (own_empty _ _) a len cap (intV xs) rfl (HS.out.alloc _) HN.out intV_one (by omega) (by omega) (by simp) ?_; intro v1 w1 hap1; have HA1 := Lib.hid (first_v hap1); clear hap1)
  go_ret
  refine ⟨_, rfl, ?_, HA1.out.2⟩
  rw [h1]
  exact HA1.out.1

theorem intV_get {xs : List Int} {j : Nat} (h : j < xs.length) : (intV xs)[j]? = some (.int .i64 (xs[j]?.getD 0)) := by simp [h]
set_option maxRecDepth 100000 in
set_option maxHeartbeats 1000000 in
theorem sameInts_any {w : World} {u v : Value} {xs ys : List Int} (h1 : CellsAt w u (intV xs)) (h2 : CellsAt w v (intV ys)) (hx : xs.length ≤ 1000000000) (hy : ys.length ≤ 1000000000) :
    Calls Try.prog 21 #[u, v] w fun e w' => e = .returned (.bool (decide (xs = ys))) ∧ Below w.heap.size w w' := by
  obtain ⟨a, cap, rfl, h1⟩ := h1
  obtain ⟨a', cap', rfl, h2⟩ := h2
  simp only [List.length_map]
  have HX := Lib.hid h1
  have HY := Lib.hid h2
  clear h1 h2
  by_cases hl : xs.length = ys.length
  · have t1 : ((xs.length : Int) != (ys.length : Int)) = false := by rw [bne_eq_false_iff_eq]; omega
    have HL := Lib.hid hl
    clear hl
    go_enter Try.func21, Try.ntmps21
    go_wp2_with fail
    clear t1
    go_loopw [5] (fun i wr => ∃ k : Nat, i = .int .i64 k ∧ k ≤ xs.length ∧ (∀ j, j < k → xs[j]?.getD 0 = ys[j]?.getD 0) ∧ Below w.heap.size w wr) (fun i _ => xs.length - (intOf i).toNat)
    case atStart => exact ⟨0, rfl, by omega, fun j hj => by omega, Below.refl _ _⟩
    case round =>
      obtain ⟨k, rfl, hk, hsame, hB⟩ := hrel
      have HSm := Lib.hid hsame
      have HB := Lib.hid hB
      clear hsame hB
      by_cases hk2 : k < xs.length
      · have hk3 : k < ys.length := by have := HL.out; omega
        rcases HX.out with e | ⟨b1, o1, rfl, hc1⟩
        · have : xs = [] := by simpa using e
          subst this; simp at hk2
        rcases HY.out with e | ⟨b2, o2, rfl, hc2⟩
        · have : ys = [] := by simpa using e
          subst this; simp at hk3
        have y1 := hc1 k _ (intV_get hk2)
        have y2 := hc2 k _ (intV_get hk3)
        have x1 := (HB.out.cell (p := ⟨b1, o1 + k, none⟩) (World.block_lt_of_cell? w _ y1)).trans y1
        have x2 := (HB.out.cell (p := ⟨b2, o2 + k, none⟩) (World.block_lt_of_cell? w _ y2)).trans y2
        have q1 : (k : Int) < (xs.length : Int) := by omega
        have q2 : (k : Int) < (ys.length : Int) := by omega
        have q3 : (0 : Int) ≤ (k : Int) := by omega
        clear hc1 hc2 y1 y2
        by_cases hne : xs[k]?.getD 0 = ys[k]?.getD 0
        · have HNe := Lib.hid hne
          have t1 : (xs[k]?.getD 0 != ys[k]?.getD 0) = false := by simpa using hne
          clear hne
          generalize xs[k]?.getD 0 = p1 at x1 t1
          generalize ys[k]?.getD 0 = p2 at x2 t1
          go_wp2_with fail
          go_quiet (fail)
          clear t1 q1 q2 q3
          go_wp2
          go_roundw
          case rel => exact ⟨k + 1, by go_num, by omega, fun j hj => by
            by_cases e : j = k
            · rw [e]; exact HNe.out
            · exact HSm.out j (by omega), HB.out.trans (below_drewN _ _ _)⟩
          case measure => simp [intOf]; omega
        · have HE : Hid (decide (xs = ys) = false) := by
            show decide (xs = ys) = false
            apply decide_eq_false
            intro e
            rw [e] at hne
            exact hne rfl
          have t1 : (xs[k]?.getD 0 != ys[k]?.getD 0) = true := by simpa using hne
          clear hne
          generalize xs[k]?.getD 0 = p1 at x1 t1
          generalize ys[k]?.getD 0 = p2 at x2 t1
          go_wp2_with fail
          go_quiet (fail)
          go_wp2
          go_ret
          exact ⟨ret_bool HE.out.symm, HB.out.trans (below_drewN _ _ _)⟩
      · have hkn : k = xs.length := by omega
        subst k
        have HE : Hid (decide (xs = ys) = true) := by
          show decide (xs = ys) = true
          apply decide_eq_true
          apply List.ext_getElem HL.out
          intro j h1 h2
          have := HSm.out j h1
          simpa [h1, h2] using this
        go_wp2
        go_ret
        exact ⟨ret_bool HE.out.symm, HB.out⟩
  · have t1 : ((xs.length : Int) != (ys.length : Int)) = true := by rw [bne_iff_ne]; omega
    have HE : Hid (decide (xs = ys) = false) := decide_eq_false (fun e => hl (by rw [e]))
    clear hl
    go_enter Try.func21, Try.ntmps21
    go_wp2
    go_ret
    exact ⟨ret_bool HE.out.symm, Below.refl _ _⟩

/-- n cells at the head of block g, which may be written -/
def Cells0 (w : World) (g n : Nat) : Prop := ∃ cur e, w.heap[g]? = some (.cells cur e (0, 0)) ∧ n ≤ cur.size
theorem Cells0.cell {w : World} {g n j : Nat} (h : Cells0 w g n) (hj : j < n) : ∃ u, w.cell? ⟨g, j, none⟩ = some u ∧ w.frozen? ⟨g, j, none⟩ = false := by
  obtain ⟨cur, e, hg, hn⟩ := h
  exact ⟨cur[j]'(by omega), by simp [World.cell?, hg, show j < cur.size by omega], by simp [World.frozen?, hg]⟩
theorem Cells0.set {w : World} {g n j : Nat} (h : Cells0 w g n) (u : Value) : Cells0 (w.setCell ⟨g, j, none⟩ u) g n := by
  obtain ⟨cur, e, hg, hn⟩ := h
  exact ⟨_, e, heap_setCell_same _ _ _ _ _ _ hg, by simpa using hn⟩
theorem cells0_own {w : World} {base n g cap : Nat} {e : TypeId} {xs : List Value} (h : w.ownsRow base e 1 (.slice (some ⟨g, 0, none⟩) n cap) n xs) : Cells0 w g n := by
  rcases h.2 with ⟨e, _⟩ | ⟨g', cap', cur, e, _, hg, hc, _, hs, _⟩
  · cases e
  · cases e
    exact ⟨cur, _, hg, by omega⟩
theorem Cells0.lt {w : World} {g n : Nat} (h : Cells0 w g n) : g < w.heap.size := by
  obtain ⟨cur, e, hg, _⟩ := h
  exact (Array.getElem?_eq_some_iff.1 hg).1

end Go.Proofs.Ytenplmmongphoaa

/- What the laws of prefix lean on: a tree's contracts, as one record; the contract of the law's Long. -/
namespace Go.Proofs.Ytenplmmongphoaa
open Go.RowKit Go.Shelf
set_option linter.unusedVariables false

theorem RowV.mono {n₀ n₁ : Nat} {w : World} {a : Option Addr} {len cap : Nat} {vs : List Value} (h : RowV n₀ w a len cap vs) (hn : n₀ ≤ n₁) : RowV n₁ w a len cap vs := by
  obtain ⟨h1, h2, h3, h4⟩ := h
  exact ⟨h1, h2, h3, h4.imp id fun ⟨b, off, e, hlt, hc⟩ => ⟨b, off, e, by omega, hc⟩⟩
theorem rowV_own {w : World} {base n : Nat} {e : TypeId} {v : Value} {xs : List Value} (h : w.ownsRow base e 1 v n xs) : ∃ a cap, v = .slice a n cap ∧ RowV w.heap.size w a n cap xs := by
  have hl : xs.length = n := by have := h.1; omega
  subst hl
  rcases id h.2 with ⟨rfl, h0⟩ | ⟨g, cap, cur, rfl, _, hg, hc, hm, _⟩
  · exact ⟨none, 0, by rw [h0], rfl, by omega, by omega, .inl rfl⟩
  · refine ⟨_, cap, rfl, rfl, hc, by unfold maxLen at hm; omega, .inr ⟨g, 0, rfl, (Array.getElem?_eq_some_iff.1 hg).1, fun j u hu => ?_⟩⟩
    have hj : j < xs.length := by
      false_or_by_contra
      rw [List.getElem?_eq_none (by omega)] at hu
      cases hu
    rw [Nat.zero_add, h.cellAt j (by omega), hu]
/-- numbers that an int may be -/
abbrev I64 (n : Int) : Prop := -9223372036854775808 ≤ n ∧ n ≤ 9223372036854775807
def I64s (ns : List Int) : Prop := ∀ n ∈ ns, -9223372036854775808 ≤ n ∧ n ≤ 9223372036854775807
theorem getT_form (cs : List ByteArray) (ns : List Int) (zs : List UInt8) (x : Int) : ∃ g n e : Int, getT cs ns zs x = .tuple #[.int .i64 g, .int .i64 n, .int .i64 e] := by
  unfold getT
  split
  · exact ⟨_, _, _, rfl⟩
  · exact ⟨_, _, _, rfl⟩

/-- more codes than are gone through? -/
def long3B (cs : List ByteArray) : Bool := (cs.take 61).any (fun s => decide (40 < s.size)) || (decide (60 < cs.length) && decide (cs.length ≤ 300))
theorem any_step3 {cs : List ByteArray} {i : Nat} (h : (cs.take i).any (fun s => decide (40 < s.size)) = false) (hi : i < cs.length) : (cs.take (i + 1)).any (fun s => decide (40 < s.size)) = decide (40 < (cs[i]?.getD ⟨#[]⟩).size) := by
  rw [List.take_add_one, List.any_append, h, Bool.false_or, List.getElem?_eq_getElem hi]
  simp
theorem any_mono3 {cs : List ByteArray} {i j : Nat} (h : (cs.take i).any (fun s => decide (40 < s.size)) = true) (hij : i ≤ j) : (cs.take j).any (fun s => decide (40 < s.size)) = true := by
  rw [List.any_eq_true] at h ⊢
  obtain ⟨x, hx, hp⟩ := h
  exact ⟨x, (List.take_subset_take_left cs hij) hx, hp⟩

end Go.Proofs.Ytenplmmongphoaa

/- Texts and numbers that came in as arguments: how their reading is opened. -/
namespace Go.Proofs.Ytenplmmongphoaa
open Go.RowKit Go.ChangeShapes Go.WideShapes
set_option linter.unusedVariables false

theorem cellsOfStr : Try.prog.cellsOf 9 = 1 := by kernel_rfl
theorem add_twoS (a : Addr) (i j : Nat) (h : a.spot = none) : (a.add i).add j = ⟨a.block, a.off + i + j, none⟩ := by
  obtain ⟨b, off, spot⟩ := a
  simp at h
  subst h
  have h1 : (⟨b, off, none⟩ : Addr).add i = ⟨b, off + i, none⟩ := by unfold Addr.add; split <;> simp_all
  rw [h1]
  unfold Addr.add; split <;> simp_all

section
variable {H : Type} {enc : TypeId × Value → H} {W : World}
theorem bytes_of_trod {fuel : Nat} {a : Option Addr} {len cap : Nat} {x : DataW H × List MemPlace} (h : DataW.trod enc Try.prog W 0 (fun _ => true) true fuel 22 [.slice a len cap] = some x) :
    ∃ zs : List UInt8, Row8 W.heap.size W a len cap zs ∧ (len = 0 ∨ ∃ elems spare, x.1 = .slice elems spare ∧ elems.length = len) := by
  have hrow : ∃ zs, Row8 W.heap.size W a len cap zs := by
    rcases open_ints Try.underlying22 Try.underlying5 (by kernel_rfl) h with ⟨hcs, _⟩ | ⟨x, l, c, zs, hcs, _, hl, hm, hz, _, hcell, hwz⟩
    · simp at hcs
      obtain ⟨rfl, rfl, rfl⟩ := hcs
      exact row8_of_row (w := W) (z := []) (.inl ⟨rfl, rfl, rfl, rfl⟩)
    · simp at hcs
      obtain ⟨rfl, rfl, rfl⟩ := hcs
      exact row8_of_row (w := W) (z := zs) (.inr ⟨_, rfl, hl, hm, by simpa using hz, hcell, hwz⟩)
  obtain ⟨zs, hz⟩ := hrow
  refine ⟨zs, hz, ?_⟩
  rcases Go.Deep.open_slice Try.underlying22 h with ⟨hcs, _⟩ | ⟨a', len', cap', m, n, D, Pl, hcs, _, hl, hm, hmm, hx, hi⟩
  · simp at hcs
    exact .inl hcs.2.1
  · simp at hcs
    obtain ⟨rfl, rfl, rfl⟩ := hcs
    exact .inr ⟨_, _, by rw [hx], by simp⟩
theorem Row8.whole {n₀ : Nat} {w : World} {a : Option Addr} {len cap : Nat} {zs : List UInt8} (h : Row8 n₀ w a len cap zs) (hn : n₀ ≤ w.heap.size) (hl : len ≤ 1152921504606846975) : Byt w.heap.size w (.slice a len cap) zs := by
  have h1 := h.1
  subst h1
  have := h.byt hn (Nat.le_refl _) hl
  rwa [List.take_length] at this
theorem cellsOfInt : Try.prog.cellsOf 3 = 1 := by kernel_rfl
theorem ints_of_trod {fuel : Nat} {a : Option Addr} {len cap : Nat} {x : DataW H × List MemPlace} (h : DataW.trod enc Try.prog W 0 (fun _ => true) true fuel 23 [.slice a len cap] = some x) :
    ∃ xs : List Int, RowV W.heap.size W a len cap (intV xs) ∧ I64s xs := by
  rcases Go.Deep.open_slice Try.underlying23y h with ⟨hcs, _⟩ | ⟨a', len', cap', m, n, D, Pl, hcs, _, hl, hm, hmm, _, hi⟩
  · simp at hcs
    obtain ⟨rfl, rfl, rfl⟩ := hcs
    exact ⟨[], ⟨rfl, Nat.le_refl _, by omega, .inl rfl⟩, fun n hn => by simp at hn⟩
  · simp at hcs
    obtain ⟨rfl, rfl, rfl⟩ := hcs
    simp at hmm
    subst hmm
    have hex : ∀ i, ∃ y : Int, (-9223372036854775808 ≤ y ∧ y ≤ 9223372036854775807) ∧ (i < m → W.cell? ((a'.add (i * 1)).add 0) = some (.int .i64 y)) := by
      intro i
      by_cases hil : i < m
      · obtain ⟨cs', hc, ht⟩ := hi i hil
        rw [cellsOfInt] at hc
        obtain ⟨s, hs, _, hwf⟩ := DataW.trod_int Try.underlying3 ht
        subst hs
        obtain ⟨_, _, hat⟩ := World.cells?_some hc
        exact ⟨s, wf_i64 hwf, fun _ => hat 0 (by omega)⟩
      · exact ⟨0, by omega, fun h => absurd h hil⟩
    obtain ⟨f, hf'⟩ := Classical.axiomOfChoice hex
    have hf := fun i => (hf' i).2
    refine ⟨(List.range len).map f, ⟨by simp, hl, by unfold maxLen at hm; omega, ?_⟩, fun n hn => by
      rw [List.mem_map] at hn
      obtain ⟨i, _, rfl⟩ := hn
      exact (hf' i).1⟩
    by_cases h0 : m = 0
    · exact .inl h0
    · right
      have hc0 := hf 0 (by omega)
      obtain ⟨b, off, spot⟩ := a'
      have hspot : spot = none := by simpa [Addr.add] using World.cell?_spot hc0
      subst hspot
      refine ⟨b, off, rfl, by rw [add_twoS _ _ _ rfl] at hc0; exact cell_lt hc0, fun j u hu => ?_⟩
      have hj : j < len := by
        false_or_by_contra
        rw [List.getElem?_eq_none (by simp; omega)] at hu
        cases hu
      have h2 := hf j (by omega)
      rw [add_twoS _ _ _ rfl] at h2
      simp [hj] at hu
      subst hu
      simpa using h2
end

/-- a slice has room for what it holds -/
def Capped (v : Value) : Prop := ∃ a n cap, v = .slice a n cap ∧ n ≤ cap
theorem capped_own {w : World} {base n sz : Nat} {e : TypeId} {v : Value} {xs : List Value} (h : w.ownsRow base e sz v n xs) : Capped v := by
  rcases h.2 with ⟨rfl, rfl⟩ | ⟨g, cap, cur, rfl, -, -, h5, -⟩
  · exact ⟨_, _, _, rfl, Nat.le_refl _⟩
  · exact ⟨_, _, _, rfl, h5⟩
theorem capped_lent {base : Nat} {w : World} {v : Value} {zs : List UInt8} (h : Lent base w v zs) : Capped v := by
  obtain ⟨g, cap, rfl, -, hr⟩ := h
  obtain ⟨a, n, c, e, hn⟩ := capped_own hr
  cases e
  exact ⟨_, _, _, rfl, by omega⟩
end Go.Proofs.Ytenplmmongphoaa
