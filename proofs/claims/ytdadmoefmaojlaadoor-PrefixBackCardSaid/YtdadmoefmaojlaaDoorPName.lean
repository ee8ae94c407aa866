/- Contracts of prefix's name and read. -/
import Derived.Test.YtdadmoefmaojlaaDoorPNode
namespace Go.Proofs.YtdadmoefmaojlaaDoor
open Go.RowKit Go.Shelf
set_option linter.unusedVariables false

theorem bar_turned {w w' : World} {b : Nat} (h : w.mapTurned w' b) : Bar (fun j => j = b) w w' := bar_of_grown h.grown (fun k e => by cases e; rfl)
theorem CMap.alloc {w : World} {b n c : Nat} {f : Int → Option (Int × Int × Int)} (h : CMap w b n f c) (o : Obj) : CMap (w.alloc o) b n f c := h.block (Below.heap_alloc _ _ _ h.lt)
theorem CMap.drew {w : World} {b n c : Nat} {f : Int → Option (Int × Int × Int)} (h : CMap w b n f c) : CMap w.drew b n f c := h

/-- what a call of name leaves -/
def Named (w w' : World) (be bf n1 n2 c1 : Nat) (f1 f2 : Int → Option (Int × Int × Int)) (en : Int) (c : Int × Int × Int) : Prop :=
  Bar (fun j => j = be ∨ j = bf) w w' ∧ CMap w' be (n1 + 1) (put1 f1 en c) (if (f1 en).isSome then c1 else c1 + 1) ∧
    ∃ n2' c2', n2' ≤ n2 + 1 ∧ CMap w' bf n2' (if (f2 c.1).isSome then f2 else put1 f2 c.1 c) c2'
set_option maxRecDepth 100000 in
set_option maxHeartbeats 2000000 in
theorem name_any {w : World} {b be bf g len cap : Nat} {sf : Value} (hb : w.heap[b]? = some (pCells sf g len cap be bf)) (hne : b ≠ be ∧ b ≠ bf ∧ be ≠ bf) {f1 f2 : Int → Option (Int × Int × Int)} {n1 n2 c1 c2 : Nat}
    (h1 : CMap w be n1 f1 c1) (h2 : CMap w bf n2 f2 c2) (hn1 : n1 < 10000) (hn2 : n2 < 10000) {en num : Int} (x m : Int) (he1 : -9223372036854775808 ≤ en) (he2 : en ≤ 9223372036854775807) (hm1 : -9223372036854775808 ≤ num) (hm2 : num ≤ 9223372036854775807) :
    Calls Tryd.prog 32 #[.pointer (some ⟨b, 0, none⟩), .int .i64 en, codeV (num, x, m)] w fun e w' => e = .returned (.tuple #[]) ∧ Named w w' be bf n1 n2 c1 f1 f2 en (num, x, m) := by
  have hlt := (Array.getElem?_eq_some_iff.1 hb).1
  have ha1 := h1.alloc (.cells #[.int .i64 num, .int .i64 x, .int .i64 m] 70)
  have ha2 := h2.alloc (.cells #[.int .i64 num, .int .i64 x, .int .i64 m] 70)
  obtain ⟨w2, hrun, hm, hturn⟩ := ha1.drew.store (by omega) he1 he2 (num, x, m)
  obtain ⟨c0, cc1, cc2, cc3⟩ := p_cells hb
  have HM := Lib.hid hm
  have HT := Lib.hid hturn
  clear hm hturn
  go_enter Tryd.func32, Tryd.ntmps32
  go_wp2
  go_region
  have hbar2 : Bar (fun j => j = be ∨ j = bf) w w2 := ((Bar.refl _ w).alloc _).drew.trans (bar_turned HT.out) (fun j _ e => .inl e)
  have hb2 : w2.heap[b]? = some (pCells sf g len cap be bf) := by rw [hbar2.block b hlt (by omega)]; exact hb
  obtain ⟨d0, d1, d2, d3⟩ := p_cells hb2
  have hbe := h1.lt
  have hbf := h2.lt
  have hbox : w2.heap[w.heap.size]? = some (.cells #[.int .i64 num, .int .i64 x, .int .i64 m] 70 (0, 0)) := by
    rw [(bar_turned HT.out).block w.heap.size (by simp) (by omega)]
    exact World.alloc_heap_new w _
  have b0 : w2.cell? ⟨w.heap.size, 0, none⟩ = some (.int .i64 num) := by rw [Lib.cell_of_heap hbox]; rfl
  have b1 : w2.cell? ⟨w.heap.size, 1, none⟩ = some (.int .i64 x) := by rw [Lib.cell_of_heap hbox]; rfl
  have b2 : w2.cell? ⟨w.heap.size, 2, none⟩ = some (.int .i64 m) := by rw [Lib.cell_of_heap hbox]; rfl
  have hf2 : CMap w2 bf n2 f2 c2 := ha2.drew.bar (bar_turned HT.out) (by omega)
  have hlook := hf2.drew.look_ok hm1 hm2
  have hlook2 := (hf2.alloc (.cells #[.int .i64 0, .int .i64 0, .int .i64 0] 70)).drew.look_ok hm1 hm2
  have hsz2 : w.heap.size < w2.heap.size := (Array.getElem?_eq_some_iff.1 hbox).1
  have hbs2 : b < w2.heap.size := by omega
  have HF2 := Lib.hid hf2
  have HBar2 := Lib.hid hbar2
  have HBox := Lib.hid hbox
  clear hf2 hbar2 hbox
  cases hk : f2 num with
  | some c =>
    have HK := Lib.hid hk
    rw [hk] at hlook hlook2
    simp only [Option.isSome_some] at hlook hlook2
    clear hk
    go_wp2
    go_region
    all_goals
      go_wp2
      go_end0
      refine ⟨rfl, (HBar2.out.alloc _).drew, (HM.out.alloc _).drew, n2, c2, by omega, ?_⟩
      rw [HK.out]
      exact (HF2.out.alloc _).drew
  | none =>
    have HK := Lib.hid hk
    rw [hk] at hlook hlook2
    simp only [Option.isSome_none] at hlook hlook2
    clear hk
    have h3 := (HF2.out.alloc (.cells #[.int .i64 0, .int .i64 0, .int .i64 0] 70)).drew.drew
    obtain ⟨w4, hrun4, hm4, hturn4⟩ := h3.store (by omega) hm1 hm2 (num, x, m)
    have HM4 := Lib.hid hm4
    have HT4 := Lib.hid hturn4
    clear hm4 hturn4 h3
    go_wp2
    go_region
    all_goals
      go_wp2
      go_region
      all_goals
        go_wp2
        go_end0
        have hb4 := (bar_turned HT4.out)
        refine ⟨rfl, ((HBar2.out.alloc _).drew.drew).trans hb4 (fun j _ e => (show j = be ∨ j = bf from .inr e)), ((HM.out.alloc _).drew.drew).bar hb4 (by omega), n2 + 1, (if (f2 num).isSome then c2 else c2 + 1), Nat.le_refl _, ?_⟩
        have hm5 := HM4.out
        rw [HK.out] at hm5 ⊢
        exact hm5

/-! ### read -/
abbrev cCells (n x m : Int) : Obj := .cells #[.int .i64 n, .int .i64 x, .int .i64 m] 70 (0, 0)
theorem c_cells {w : World} {b : Nat} {n x m : Int} (h : w.heap[b]? = some (cCells n x m)) :
    w.cell? ⟨b, 0, none⟩ = some (.int .i64 n) ∧ w.cell? ⟨b, 1, none⟩ = some (.int .i64 x) ∧ w.cell? ⟨b, 2, none⟩ = some (.int .i64 m) ∧ ∀ j, w.frozen? ⟨b, j, none⟩ = false :=
  ⟨by rw [Lib.cell_of_heap h]; rfl, by rw [Lib.cell_of_heap h]; rfl, by rw [Lib.cell_of_heap h]; rfl, fun j => Lib.frozen_of_heap h j⟩
/-- the bits that a text spells at some places -/
def bitsAt (s : ByteArray) (pre : List Nat) : List Nat := pre.map fun k => (bitsL s)[k]?.getD 0
theorem bitsAt_snoc (s : ByteArray) (pre : List Nat) (x : Nat) : bitsAt s (pre ++ [x]) = bitsAt s pre ++ [(bitsL s)[x]?.getD 0] := by simp [bitsAt]
theorem bitsAt_range (s : ByteArray) (n : Nat) (h : n ≤ s.size) : bitsAt s (List.range n) = (bitsL s).take n := by
  apply List.ext_getElem?
  intro i
  unfold bitsAt
  by_cases hi : i < n
  · have h1 : i < (bitsL s).length := by rw [bitsL_len]; omega
    simp [hi, h1]
  · rw [List.getElem?_eq_none (by simp; omega), List.getElem?_eq_none (by simp; omega)]
theorem bit_low {s : ByteArray} (hs : AllBits s) (k : Nat) : (bitsL s)[k]?.getD 0 < 2 := by
  by_cases h : k < (bitsL s).length
  · rw [List.getElem?_eq_getElem h]
    exact bitsL_low hs _ (List.getElem_mem h)
  · rw [List.getElem?_eq_none (by omega)]; decide
theorem bitsAt_low {s : ByteArray} (hs : AllBits s) (pre : List Nat) : ∀ b ∈ bitsAt s pre, b < 2 := by
  intro b hb
  unfold bitsAt at hb
  rw [List.mem_map] at hb
  obtain ⟨k, _, rfl⟩ := hb
  exact bit_low hs k

theorem KpB.set {m bx by_ : Nat} {A B : World} (h : KpB m bx by_ A B) {p : Addr} (v : Value) (h0 : m ≤ p.block) (h1 : p.block ≠ bx) (h2 : p.block ≠ by_) : KpB m bx by_ A (B.setCell p v) :=
  ⟨h.1.setCell (p := p) h0 _, (World.cell?_setCell_other _ _ _ _ (by rintro rfl; exact h1 (Eq.refl _))).trans h.2.1, (World.cell?_setCell_other _ _ _ _ (by rintro rfl; exact h2 (Eq.refl _))).trans h.2.2⟩
attribute [local go_sem] Oper.semAt_some
set_option maxRecDepth 100000 in
set_option maxHeartbeats 4000000 in
theorem read_in (n : Nat) (hn : 4 ≤ n) {s : ByteArray} (hs : AllBits s) (h24 : s.size ≤ 24) (num : Int) (w : World) :
    CallsIn Fence.wide n Tryd.prog 33 #[.string s, .int .i64 num] w fun e w' => e = .returned (codeV (num, (numOf (bitsL s) : Nat), (s.size : Nat))) ∧ Below w.heap.size w w' := by
  have h1 : 1 ≤ n := by omega
  have HS := Lib.hid hs
  clear hs
  refine callsIn_of_wp_marks Tryd.func33 rfl trivial ?_ rfl
  simp only [Tryd.ntmps33, List.size_toArray, List.length_cons, List.length_nil, Nat.reduceAdd, Nat.reduceSub, Array.replicate_succ, Array.replicate_zero, List.push_toArray, List.append_toArray, List.nil_append, List.cons_append]
  gi_wp2_with (refine ⟨trivial, ?_⟩; gi_at_call 51; refine (bitsOf_in Fence.wide (n - 1) trivial rfl _ _).mono ?_; rintro e w' ⟨rfl, rfl⟩)
  have hB5 : Below w.heap.size w (((w.alloc (Obj.cells #[Value.int IntKind.i64 0, Value.int IntKind.i64 0, Value.int IntKind.i64 0] 70)).alloc (Obj.cells #[Value.int IntKind.i64 num, Value.int IntKind.i64 0, Value.int IntKind.i64 0] 70)).alloc (Obj.cells #[Value.string s] 9)) :=
    (((Below.refl _ w).alloc (Nat.le_refl _) _).alloc (by simp) _).alloc (by simp; omega) _
  refine wpIn_rangeFunc_ownF rfl h1 (gf := 60) (lb := #[.pointer (some ⟨w.heap.size + 1 + 1, 0, none⟩)]) rfl trivial (enters_of Tryd.func60 (by kernel_rfl) rfl)
    (bitsOf_stops (n - 1) (by omega) w.heap.size (w.heap.size + 1 + 1) s HS.out (by omega) _ (by simp) (by go_simp)) KpB.t (KpB.b (by simp; omega) (by simp) (by simp)) (Below.refl _ _) (fun _ => rfl)
    (fun pre W => (W.heap[w.heap.size]? = some (cCells 0 0 0) ∧ W.heap[w.heap.size + 1]? = some (cCells num (numOf (bitsAt s pre) : Nat) (pre.length : Nat))) ∧ Below w.heap.size w W)
    (fun _ _ _ => False)
    ?own (fun _ _ _ _ _ hs _ _ => hs)
    ?start
    (fun x => { tmps := #[Value.string s, Value.int IntKind.i64 num, undef, undef, Value.pointer (some { block := w.heap.size, off := 0 }),
        Value.pointer (some { block := w.heap.size + 1, off := 0 }), .int .i64 ((bitsL s)[x]?.getD 0 : Nat), .int .i64 num, .agg #[.int .i64 num, .int .i64 0, .int .i64 0], Value.string s,
        Value.func (Fn.func 60) #[] #[Value.pointer (some { block := w.heap.size + 1 + 1, off := 0 })],
        .int .i64 ((bitsL s)[x]?.getD 0 : Nat), undef, undef, undef, undef, undef, undef, undef, undef, undef, undef, undef], defers := [] }) ?assign ?body ?done ?stop
  case own =>
    exact OwnFrom.and (Own.from (fun s A B row hs hg hr => ⟨(grownBy_keeps_cells hg hr hs.1 rfl).trans hs.1, (grownBy_keeps_cells hg hr hs.2 rfl).trans hs.2⟩) _) (ownFrom_below (Nat.le_refl _) (by simp; omega))
  case start =>
    refine ⟨⟨?_, ?_⟩, hB5⟩
    · rw [Below.heap_alloc _ _ _ (by simp; omega), Below.heap_alloc _ _ _ (by simp)]
      exact World.alloc_heap_new w _
    · rw [Below.heap_alloc _ _ _ (by simp)]
      have e := World.alloc_heap_new (w.alloc (Obj.cells #[Value.int IntKind.i64 0, Value.int IntKind.i64 0, Value.int IntKind.i64 0] 70)) (Obj.cells #[Value.int IntKind.i64 num, Value.int IntKind.i64 0, Value.int IntKind.i64 0] 70)
      rw [World.size_alloc] at e
      exact e
  case assign =>
    intro l x W K hK
    gi_wp2
    exact hK
  case body =>
    rintro l pre x W ⟨⟨hr, hc⟩, hB⟩ hlt
    obtain ⟨c0, c1, c2, hfz⟩ := c_cells hc
    have f1 := hfz 1
    have f2 := hfz 2
    have hx := bit_low HS.out x
    have hv := numOf_lt (bitsAt_low HS.out pre)
    have hpw := Nat.pow_le_pow_right (n := 2) (by omega) (show (bitsAt s pre).length ≤ 24 by simp [bitsAt]; omega)
    have HN := Lib.hid (bitsAt_snoc s pre x)
    have HNs := numOf_snoc (bitsAt s pre) ((bitsL s)[x]?.getD 0)
    rw [← HN.out] at HNs
    have HV := Lib.hid HNs
    have hor := i64_or_bit (numOf (bitsAt s pre) * 2) ((bitsL s)[x]?.getD 0) (by omega) (by omega) (by omega)
    rw [show ((numOf (bitsAt s pre) * 2 : Nat) : Int) = (numOf (bitsAt s pre) : Int) * 2 by omega] at hor
    clear hfz HNs
    generalize numOf (bitsAt s pre) = y at *
    generalize (bitsL s)[x]?.getD 0 = bb at *
    gi_wp2
    refine ⟨(KeepsOthers.setCell _ _ _).trans (KeepsOthers.setCell _ _ _), (KpB.rfl.set (p := ⟨w.heap.size + 1, 1, none⟩) _ (by simp) (by simp) (by simp)).set (p := ⟨w.heap.size + 1, 2, none⟩) _ (by simp) (by simp) (by simp), ⟨?_, ?_⟩, (hB.setCell (p := ⟨w.heap.size + 1, 1, none⟩) (by simp) _).setCell (p := ⟨w.heap.size + 1, 2, none⟩) (by simp) _⟩
    · rw [Below.heap_setCell _ _ _ _ (by simp), Below.heap_setCell _ _ _ _ (by simp)]
      exact hr
    · refine (heap_setCell_same _ (w.heap.size + 1) 2 _ _ _ (heap_setCell_same W (w.heap.size + 1) 1 _ _ _ hc)).trans ?_
      show some (cCells num ((y : Int) * 2 + (bb : Int)) ((pre.length : Int) + 1)) = _
      rw [HV.out, List.length_append, List.length_singleton, show ((2 * y + bb : Nat) : Int) = (y : Int) * 2 + (bb : Int) by omega, Int.natCast_add pre.length 1]
      rfl
  case done =>
    rintro D ys W hD rfl ⟨⟨hr, hc⟩, hB⟩ hK
    obtain ⟨c0, c1, c2, hfz⟩ := c_cells hc
    obtain ⟨r0, r1, r2, rfz⟩ := c_cells hr
    have g0 := rfz 0
    have g1 := rfz 1
    have g2 := rfz 2
    clear hfz rfz
    rw [bitsAt_range s s.size (Nat.le_refl _), List.take_of_length_le (by rw [bitsL_len]; omega)] at hc c1
    rw [List.length_range] at hc c2
    generalize hy : numOf (bitsL s) = y at *
    have HY := Lib.hid hy
    clear hy
    gi_wp2
    have hKO : KeepsOthers W (((W.setCell ⟨w.heap.size, 0, none⟩ (.int .i64 num)).setCell ⟨w.heap.size, 1, none⟩ (.int .i64 y)).setCell ⟨w.heap.size, 2, none⟩ (.int .i64 s.size)) := ((KeepsOthers.setCell _ _ _).trans (KeepsOthers.setCell _ _ _)).trans (KeepsOthers.setCell _ _ _)
    have hK' := hKO.same D _ hK rfl
    refine ⟨by simp, .inl ⟨_, _, rfl, run_takeDeferred hK', ?_⟩⟩
    have e0 := heap_setCell_same W w.heap.size 0 _ _ (.int .i64 num) hr
    have e1 := heap_setCell_same _ w.heap.size 1 _ _ (.int .i64 y) e0
    have e2 := heap_setCell_same _ w.heap.size 2 _ _ (.int .i64 s.size) e1
    have e3 := (grownBy_keeps_cells (grownBy_putObj' _ D (.deferred none)) (fun r e => by cases e; exact ⟨_, hK', rfl⟩) e2 rfl).trans e2
    obtain ⟨q0, q1, q2, _⟩ := c_cells e3
    refine ⟨codeV (num, (y : Int), (s.size : Int)), ?_, by rw [HY.out], (((hB.setCell (p := ⟨w.heap.size, 0, none⟩) (by simp) _).setCell (p := ⟨w.heap.size, 1, none⟩) (by simp) _).setCell (p := ⟨w.heap.size, 2, none⟩) (by simp) _).trans (belowK_b (w := w) (Nat.le_refl _) _ D _ _ (by simp at hD; omega) hK' rfl rfl)⟩
    simp [results, Tryd.f33, go_sem, q0, q1, q2]
  case stop =>
    rintro D c pre W _ _ h _
    exact h.elim

end Go.Proofs.YtdadmoefmaojlaaDoor
