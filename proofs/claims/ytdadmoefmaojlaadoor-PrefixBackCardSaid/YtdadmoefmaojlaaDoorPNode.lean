/- prefix's tree in memory: its nodes; contracts of made, isEnd, lay. -/
import Derived.Test.YtdadmoefmaojlaaDoorPIter
namespace Go.Proofs.YtdadmoefmaojlaaDoor
open Go.RowKit Go.Shelf
set_option linter.unusedVariables false

theorem Tryd.info65n : (Tryd.prog.info? 65).map (fun i => (i.zero, i.size, i.bytes)) = some (some (.agg #[.int .i64 0, .int .i64 0]), 2, 16) := by kernel_rfl
theorem Tryd.underlying43n : Tryd.prog.underlying 43 = some (.slice 65) := by kernel_rfl

/-- a tree's four cells -/
abbrev pCells (sf : Value) (g len cap be bf : Nat) : Obj := .cells #[sf, .slice (some ⟨g, 0, none⟩) len cap, .map (some be), .map (some bf)] 46 (0, 0)
/-- the tree in block b has the nodes of the paths P, in block g -/
structure Nodes (n₀ : Nat) (w : World) (b : Nat) (sf : Value) (P : List (List Nat)) (be bf g : Nat) : Prop where
  low : n₀ ≤ b
  apart : g ≠ b ∧ g ≠ be ∧ g ≠ bf ∧ b ≠ be ∧ b ≠ bf ∧ be ≠ bf
  few : P.length ≤ 10000
  maps : be < w.heap.size ∧ bf < w.heap.size
  is : ∃ cap xs, w.heap[b]? = some (pCells sf g P.length cap be bf) ∧ w.ownsRow n₀ 65 2 (.slice (some ⟨g, 0, none⟩) P.length cap) P.length xs ∧ Cells P xs

theorem p_cells {w : World} {b : Nat} {sf : Value} {g len cap be bf : Nat} (h : w.heap[b]? = some (pCells sf g len cap be bf)) :
    w.cell? ⟨b, 0, none⟩ = some sf ∧ w.cell? ⟨b, 1, none⟩ = some (.slice (some ⟨g, 0, none⟩) len cap) ∧ w.cell? ⟨b, 2, none⟩ = some (.map (some be)) ∧ w.cell? ⟨b, 3, none⟩ = some (.map (some bf)) := by
  simp [World.cell?, h, pCells]
theorem Nodes.row {n₀ : Nat} {w : World} {b be bf g : Nat} {sf : Value} {P : List (List Nat)} (h : Nodes n₀ w b sf P be bf g) : g < w.heap.size ∧ n₀ ≤ g ∨ P = [] := by
  obtain ⟨cap, xs, _, hrow, _⟩ := h.is
  rcases hrow.2 with ⟨e, h0⟩ | ⟨g', cap', cur, e, hb, hg, _⟩
  · cases e
  · cases e; exact .inl ⟨(Array.getElem?_eq_some_iff.1 hg).1, hb⟩
theorem Nodes.kids {n₀ : Nat} {w : World} {b be bf g : Nat} {sf : Value} {P : List (List Nat)} (h : Nodes n₀ w b sf P be bf g) {i : Nat} (hi : i < P.length) :
    w.cell? ⟨g, i * 2, none⟩ = some (.int .i64 (kid P i 0)) ∧ w.cell? ⟨g, i * 2 + 1, none⟩ = some (.int .i64 (kid P i 1)) := by
  obtain ⟨cap, xs, _, hrow, hc⟩ := h.is
  have hl := hc.1
  have c0 := hrow.cellAt (g := g) (i * 2) (by omega)
  have c1 := hrow.cellAt (g := g) (i * 2 + 1) (by omega)
  have d0 := hc.2 i 0 hi (by omega)
  rw [Nat.add_zero] at d0
  exact ⟨c0.trans d0, c1.trans (hc.2 i 1 hi (by omega))⟩
theorem Nodes.lt {n₀ : Nat} {w : World} {b be bf g : Nat} {sf : Value} {P : List (List Nat)} (h : Nodes n₀ w b sf P be bf g) : b < w.heap.size := by
  obtain ⟨cap, xs, h1, _⟩ := h.is
  exact (Array.getElem?_eq_some_iff.1 h1).1
theorem Nodes.keep {S : Nat → Prop} {n₀ : Nat} {w w' : World} {b be bf g : Nat} {sf : Value} {P : List (List Nat)} (h : Nodes n₀ w b sf P be bf g) (hb : Bar S w w') (h1 : ¬ S b) (h2 : ¬ S g) : Nodes n₀ w' b sf P be bf g := by
  have hlt := h.lt
  obtain ⟨cap, xs, e1, e2, e3⟩ := h.is
  refine ⟨h.low, h.apart, h.few, ⟨Nat.lt_of_lt_of_le h.maps.1 hb.size, Nat.lt_of_lt_of_le h.maps.2 hb.size⟩, cap, xs, (hb.block b hlt h1).trans e1, ?_, e3⟩
  rcases e2.2 with ⟨e, h0⟩ | ⟨g', cap', cur, e, hb', hg, r⟩
  · cases e
  · refine ⟨e2.1, .inr ⟨g', cap', cur, e, hb', ?_, r⟩⟩
    cases e
    exact (hb.block g (Array.getElem?_eq_some_iff.1 hg).1 h2).trans hg

theorem Tryd.underlying65n : Tryd.prog.underlying 65 = some (.array 2 3) := by kernel_rfl
theorem node_eq (x y : Int) (w : World) : (Op.equalIn 10000 65 (.agg #[.int .i64 x, .int .i64 y]) (.agg #[.int .i64 0, .int .i64 0])).run Tryd.prog w = .ok ((x == 0) && (y == 0)) w := by
  obtain ⟨i0, hi, hz0, hz1, hz2⟩ := info_parts Tryd.info3y
  simp only [show (10000 : Nat) = 9998 + 1 + 1 from rfl]
  unfold Op.equalIn
  simp [run_underlying Tryd.underlying65n, sizeOf, typeInfo, hi, hz1, Std.Legacy.Range.forIn_eq_forIn_range', List.range', part, go_sem]
  by_cases hx : x = 0
  · by_cases hy : y = 0 <;> simp [hx, hy]
  · simp [hx]
theorem pptr_eq (a : Addr) (w : World) : (binOp .eql 28 (.pointer (some a)) (.pointer (some a))).run Tryd.prog w = .ok (.bool true) w := by
  obtain ⟨j, hj⟩ : ∃ j, Tryd.prog.info? 46 = some j := Option.isSome_iff_exists.1 (by kernel_rfl)
  exact run_eql_ptr_same w a (show Tryd.prog.underlying 28 = some (.pointer 46) by kernel_rfl) hj
set_option maxHeartbeats 1000000 in
theorem pmade_any {w : World} {b : Nat} (h0 : w.cell? ⟨b, 0, none⟩ = some (.pointer (some ⟨b, 0, none⟩))) :
    Calls Tryd.prog 36 #[.pointer (some ⟨b, 0, none⟩)] w fun e w' => e = .returned (.bool true) ∧ w = w' := by
  have he := pptr_eq ⟨b, 0, none⟩ w
  go_enter Tryd.func36, Tryd.ntmps36
  go_wp2
  go_ret
  exact ⟨rfl, rfl⟩

def leafB (P : List (List Nat)) (i : Nat) : Bool := decide (kid P i 0 = 0 ∧ kid P i 1 = 0)
set_option maxRecDepth 100000 in
set_option maxHeartbeats 2000000 in
theorem isEnd_any {n₀ : Nat} {w : World} {b be bf g : Nat} {sf : Value} {P : List (List Nat)} (h : Nodes n₀ w b sf P be bf g) {i : Nat} (hi : i < P.length) :
    Calls Tryd.prog 38 #[.pointer (some ⟨b, 0, none⟩), .int .i64 i] w fun e w' => e = .returned (.bool (leafB P i)) ∧ w = w' := by
  obtain ⟨k0, k1⟩ := h.kids hi
  have hf := h.few
  obtain ⟨cap, xs, hb, hrow, hc⟩ := h.is
  obtain ⟨c0, c1, c2, c3⟩ := p_cells hb
  have HE : Hid (leafB P i = (((kid P i 0 : Int) == 0) && ((kid P i 1 : Int) == 0))) := by
    show leafB P i = _
    unfold leafB
    rw [Bool.eq_iff_iff]
    simp only [decide_eq_true_eq, Bool.and_eq_true, beq_iff_eq]
    omega
  clear hb hrow hc h
  generalize kid P i 0 = x at *
  generalize kid P i 1 = y at *
  have hne := node_eq (x : Int) (y : Int) w
  go_enter Tryd.func38, Tryd.ntmps38
  go_wp2
  go_ret
  exact ⟨ret_bool HE.out.symm, rfl⟩

set_option maxRecDepth 100000 in
set_option maxHeartbeats 2000000 in
theorem lay_any {n₀ : Nat} {w : World} {b be bf g : Nat} {sf : Value} {P : List (List Nat)} (h : Nodes n₀ w b sf P be bf g) (hP : Paths P) {k bit : Nat} {p : List Nat} (hk : P[k]? = some p) (hb2 : bit < 2) (hq : p ++ [bit] ∉ P) (hf : P.length + 1 ≤ 10000) (hn : n₀ ≤ w.heap.size) :
    Calls Tryd.prog 52 #[.pointer (some ⟨b, 0, none⟩), .int .i64 k, .int .i64 bit] w fun e w' => e = .returned (.int .i64 P.length) ∧ ∃ g', Nodes n₀ w' b sf (P ++ [p ++ [bit]]) be bf g' ∧ (g' = g ∨ w.heap.size ≤ g') ∧ Bar (fun j => j = b ∨ j = g) w w' := by
  obtain ⟨i0, hi, hz0, hz1, hz2⟩ := info_parts Tryd.info65n
  have hlow := h.low
  obtain ⟨a1, a2, a3, a4, a5, a6⟩ := h.apart
  have hmaps := h.maps
  have hlt := h.lt
  have hkl := (List.getElem?_eq_some_iff.1 hk).1
  obtain ⟨cap, xs, hb, hrow, hc⟩ := h.is
  obtain ⟨c0, c1, c2, c3⟩ := p_cells hb
  have HC : Hid (Cells (P ++ [p ++ [bit]]) ((xs ++ [Value.int .i64 0, Value.int .i64 0]).set (k * 2 + bit) (.int .i64 P.length))) := hc.snoc hP hk hb2 hq
  have HL : Hid ((P ++ [p ++ [bit]]).length = P.length + 1) := by show (P ++ [p ++ [bit]]).length = _; simp
  have HB := Lib.hid hb
  clear hb hc h hk hP hq
  generalize hP' : P ++ [p ++ [bit]] = P' at *
  clear hP'
  generalize hm : P.length = m at *
  clear hm
  have f1 : w.frozen? ⟨b, 1, none⟩ = false := Lib.frozen_of_heap HB.out 1
  go_enter Tryd.func52, Tryd.ntmps52
  go_wp2_with (at_builtin; refine wpList_append_where _ rfl _ _ 43 rfl n₀ 65 i0 (.agg #[.int .i64 0, .int .i64 0]) 2 16 Tryd.underlying43n hi hz0 hz1 hz2 rfl (by decide) _ _ _ rfl (hrow.alloc _) ⟨w.heap.size, 0, none⟩ 1 1 [.int .i64 0, .int .i64 0] rfl rfl ?c1 ?c2 ?c3 ?c4 ?c5 ?_)
  case c1 =>
    intro j u hj
    match j, hj with
    | 0, hj => simp at hj; subst hj; simp [Addr.add]
    | 1, hj => simp at hj; subst hj; simp [Addr.add]
  case c2 => intro u hu; simp at hu; subst hu; rfl
  case c3 => unfold maxLen; omega
  case c4 => omega
  case c5 => simp; omega
  intro v' w2 hown hgrow hloc
  obtain ⟨g', cap', rfl⟩ : ∃ g' cap', v' = .slice (some ⟨g', 0, none⟩) (m + 1) cap' := by
    rcases hown.2 with ⟨_, h0⟩ | ⟨g', cap', cur, e, _⟩
    · omega
    · exact ⟨g', cap', e⟩
  have hl2 : g' = g ∨ w.heap.size ≤ g' := by
    rcases hloc g' rfl with e | e
    · simp [Value.ownBlock] at e; exact .inl e.symm
    · exact .inr (by omega)
  clear hloc
  have hg'b : g' ≠ b := by omega
  have hbb : w2.heap[b]? = some (pCells sf g m cap be bf) := by
    rw [hgrow.block b (by simp; omega) (by intro e; simp [Value.ownBlock] at e; omega), Lib.alloc_old w _ b hlt]
    exact HB.out
  obtain ⟨d0, d1, d2, d3⟩ := p_cells hbb
  have f2 : w2.frozen? ⟨b, 1, none⟩ = false := Lib.frozen_of_heap hbb 1
  have hxl : xs.length = m * 2 := hrow.1
  have row3 := ownsRow_setCell_other hown (a := ⟨b, 1, none⟩) (by simp [Value.ownBlock]; omega) (.slice (some ⟨g', 0, none⟩) (m + 1) cap')
  obtain ⟨u, e3⟩ : ∃ u, (w2.setCell ⟨b, 1, none⟩ (.slice (some ⟨g', 0, none⟩) (m + 1) cap')).cell? ⟨g', k * 2 + bit, none⟩ = some u := by
    rw [row3.cellAt (k * 2 + bit) (by omega), List.getElem?_eq_getElem (by simp; omega)]
    exact ⟨_, rfl⟩
  have f3 := row3.frozenAt (k * 2 + bit)
  have row4 := (row3.stored (k * 2 + bit) (.int .i64 m)).1
  have HR4 := Lib.hid row4
  have HG := Lib.hid hgrow
  have HBB := Lib.hid hbb
  clear row3 row4 hgrow hbb hown hrow
  go_wp2
  go_ret
  refine ⟨rfl, g', ⟨hlow, ⟨hg'b, by omega, by omega, a4, a5, a6⟩, by rw [HL.out]; exact hf, ?_, cap', _, ?_, ?_, HC.out⟩, hl2, ?_⟩
  · have := HG.out.size
    simp at this
    simp
    omega
  · rw [HL.out]
    rw [RowKit.Below.heap_setCell _ _ _ _ (by simpa using hg'b.symm)]
    exact heap_setCell_same w2 b 1 _ _ _ HBB.out
  · rw [HL.out]
    exact HR4.out
  · exact (((Bar.refl _ w).alloc _).trans (bar_of_grown HG.out (fun j e => by simp [Value.ownBlock] at e; exact .inr e.symm)) (fun j _ h => h)).setCell (p := ⟨b, 1, none⟩) (fun _ => .inl rfl) _ |>.setCell (p := ⟨g', k * 2 + bit, none⟩) (fun h => .inr (by have h : g' < w.heap.size := h; show g' = g; omega)) _

end Go.Proofs.YtdadmoefmaojlaaDoor
