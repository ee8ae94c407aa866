/- The contract of prefix's grow. prefix's tree as a whole: its codes, its maps; contracts of Codes and Put. The contract of prefix's Make. The contract of prefix's Get. -/
import Derived.Test.YtichkoilhnkmkaaDoorPIter
/- The contract of prefix's grow. -/
namespace Go.Proofs.YtichkoilhnkmkaaDoor
open Go.RowKit Go.Shelf
set_option linter.unusedVariables false
attribute [local go_sem] Oper.semAt_some

theorem Grown.same {P0 cs P : List (List Nat)} {T T' : List Nat} {k : Nat} {f : Bool} (h : Grown P0 cs T k P f) (e : T.take k = T'.take k) : Grown P0 cs T' k P f :=
  ⟨h.paths, by rw [← e]; exact h.mem, by rw [← e]; exact h.no, by rw [← e]; exact h.new, h.many, h.ext⟩
/-- behind some bits were laid -/
def GrownL (P0 cs : List (List Nat)) (L : List Nat) (P : List (List Nat)) (fresh : Bool) : Prop := Grown P0 cs L L.length P fresh
theorem GrownL.up {P0 cs P : List (List Nat)} {L : List Nat} {f : Bool} (h : GrownL P0 cs L P f) (b : Nat) : Grown P0 cs (L ++ [b]) L.length P f := Grown.same h (by simp)
theorem up_at (L : List Nat) (b : Nat) : (L ++ [b])[L.length]? = some b ∧ (L ++ [b]).take L.length = L := ⟨by simp, by simp⟩
theorem GrownL.lay {P0 cs P : List (List Nat)} {L : List Nat} {f : Bool} (h : GrownL P0 cs L P f) (hH : Holds P0 cs) {b : Nat} (hb : b < 2) (hm : L ++ [b] ∉ P) : GrownL P0 cs (L ++ [b]) (P ++ [L ++ [b]]) true := by
  have := (h.up b).lay hH (up_at L b).1 hb (by rw [(up_at L b).2]; exact hm)
  rw [(up_at L b).2] at this
  unfold GrownL
  rw [List.length_append, List.length_singleton]
  exact this
theorem GrownL.go {P0 cs P : List (List Nat)} {L : List Nat} {f : Bool} (h : GrownL P0 cs L P f) {b : Nat} (hm : L ++ [b] ∈ P) (hne : L ++ [b] ∉ cs) : GrownL P0 cs (L ++ [b]) P false := by
  have := (h.up b).go (up_at L b).1 (by rw [(up_at L b).2]; exact hm) (by rw [(up_at L b).2]; exact hne)
  unfold GrownL
  rw [List.length_append, List.length_singleton]
  exact this
theorem GrownL.leaf {P0 cs P : List (List Nat)} {L : List Nat} {f : Bool} (h : GrownL P0 cs L P f) (hH : Holds P0 cs) (hf : Free cs) {b : Nat} (hm : L ++ [b] ∈ P) : leafB P (place P (L ++ [b])) = decide (L ++ [b] ∈ cs) := by
  have := (h.up b).leaf hH hf (up_at L b).1 (by rw [(up_at L b).2]; exact hm)
  rw [(up_at L b).2] at this
  unfold leafB kid
  rw [place_get hm]
  exact decide_eq_decide.2 this
theorem GrownL.here {P0 cs P : List (List Nat)} {L : List Nat} {f : Bool} (h : GrownL P0 cs L P f) : L ∈ P := by
  have := Grown.here h
  rwa [List.take_length] at this
theorem grownL_start {P0 cs : List (List Nat)} (h : Holds P0 cs) (hf : Free cs) : GrownL P0 cs [] P0 false := grown_start h hf []
theorem kid_at {P : List (List Nat)} {L : List Nat} (h : L ∈ P) (b : Nat) : kid P (place P L) b = place P (L ++ [b]) := by
  unfold kid; rw [place_get h]; rfl

/-- the boxes of a call of grow, from block m on -/
structure GrowBoxes (W : World) (m b here : Nat) (fresh : Bool) : Prop where
  tree : W.heap[m]? = some (.cells #[.pointer (some ⟨b, 0, none⟩)] 47 (0, 0))
  ra : W.heap[m + 1]? = some (.cells #[.int .i64 0] 3 (0, 0))
  rb : W.heap[m + 1 + 1]? = some (.cells #[.bool false] 4 (0, 0))
  at_ : W.heap[m + 1 + 1 + 1]? = some (.cells #[.int .i64 here] 3 (0, 0))
  new : W.heap[m + 1 + 1 + 1 + 1]? = some (.cells #[.bool fresh] 4 (0, 0))
theorem one_cell {w : World} {b : Nat} {v : Value} {t : TypeId} (h : w.heap[b]? = some (.cells #[v] t (0, 0))) : w.cell? ⟨b, 0, none⟩ = some v ∧ w.frozen? ⟨b, 0, none⟩ = false :=
  ⟨by rw [Lib.cell_of_heap h]; rfl, Lib.frozen_of_heap h 0⟩
theorem GrowBoxes.kept {W W' : World} {row : Option Nat} {m b here : Nat} {fresh : Bool} (h : GrowBoxes W m b here fresh) (hg : W.grownBy W' row) (hr : ∀ r, row = some r → ∃ o : Obj, W.heap[r]? = some o ∧ o.isCells = false) : GrowBoxes W' m b here fresh :=
  ⟨(grownBy_keeps_cells hg hr h.tree rfl).trans h.tree, (grownBy_keeps_cells hg hr h.ra rfl).trans h.ra, (grownBy_keeps_cells hg hr h.rb rfl).trans h.rb, (grownBy_keeps_cells hg hr h.at_ rfl).trans h.at_, (grownBy_keeps_cells hg hr h.new rfl).trans h.new⟩
theorem GrowBoxes.bar {S : Nat → Prop} {W W' : World} {m b here : Nat} {fresh : Bool} (h : GrowBoxes W m b here fresh) (hb : Bar S W W') (hS : ∀ j, m ≤ j → j ≤ m + 4 → ¬ S j) : GrowBoxes W' m b here fresh := by
  have lt : ∀ {k : Nat} {o : Obj}, W.heap[k]? = some o → k < W.heap.size := fun h => (Array.getElem?_eq_some_iff.1 h).1
  exact ⟨(hb.block _ (lt h.tree) (hS _ (by omega) (by omega))).trans h.tree, (hb.block _ (lt h.ra) (hS _ (by omega) (by omega))).trans h.ra, (hb.block _ (lt h.rb) (hS _ (by omega) (by omega))).trans h.rb,
    (hb.block _ (lt h.at_) (hS _ (by omega) (by omega))).trans h.at_, (hb.block _ (lt h.new) (hS _ (by omega) (by omega))).trans h.new⟩
theorem Nodes.kept {W W' : World} {row : Option Nat} {n₀ b be bf g : Nat} {sf : Value} {P : List (List Nat)} (h : Nodes n₀ W b sf P be bf g) (hg : W.grownBy W' row) (hr : ∀ r, row = some r → ∃ o : Obj, W.heap[r]? = some o ∧ o.isCells = false) : Nodes n₀ W' b sf P be bf g := by
  obtain ⟨cap, xs, e1, e2, e3⟩ := h.is
  refine ⟨h.low, h.apart, h.few, ⟨Nat.lt_of_lt_of_le h.maps.1 hg.size, Nat.lt_of_lt_of_le h.maps.2 hg.size⟩, cap, xs, (grownBy_keeps_cells hg hr e1 rfl).trans e1, ?_, e3⟩
  rcases e2.2 with ⟨e, h0⟩ | ⟨g', cap', cur, e, hb', hgg, r⟩
  · cases e
  · exact ⟨e2.1, .inr ⟨g', cap', cur, e, hb', (grownBy_keeps_cells hg hr hgg rfl).trans hgg, r⟩⟩

theorem GrowBoxes.setNew {W : World} {m b here : Nat} {fresh : Bool} (h : GrowBoxes W m b here fresh) (f : Bool) : GrowBoxes (W.setCell ⟨m + 1 + 1 + 1 + 1, 0, none⟩ (.bool f)) m b here f :=
  ⟨(Below.heap_setCell _ _ _ _ (by intro e; have e : m = _ := e; simp at e; omega)).trans h.tree, (Below.heap_setCell _ _ _ _ (by simp)).trans h.ra, (Below.heap_setCell _ _ _ _ (by simp)).trans h.rb, (Below.heap_setCell _ _ _ _ (by simp)).trans h.at_, heap_setCell_same W _ 0 _ _ _ h.new⟩
theorem GrowBoxes.setAt {W : World} {m b here : Nat} {fresh : Bool} (h : GrowBoxes W m b here fresh) (k : Nat) : GrowBoxes (W.setCell ⟨m + 1 + 1 + 1, 0, none⟩ (.int .i64 k)) m b k fresh :=
  ⟨(Below.heap_setCell _ _ _ _ (by intro e; have e : m = _ := e; simp at e; omega)).trans h.tree, (Below.heap_setCell _ _ _ _ (by simp)).trans h.ra, (Below.heap_setCell _ _ _ _ (by simp)).trans h.rb, heap_setCell_same W _ 0 _ _ _ h.at_, (Below.heap_setCell _ _ _ _ (by simp)).trans h.new⟩
theorem GrowBoxes.drew {W : World} {m b here : Nat} {fresh : Bool} (h : GrowBoxes W m b here fresh) : GrowBoxes W.drew m b here fresh := ⟨h.tree, h.ra, h.rb, h.at_, h.new⟩
theorem bar_set1 (W : World) (k : Nat) (v : Value) : Bar (fun j => j = k) W (W.setCell ⟨k, 0, none⟩ v) := Bar.setCell (Bar.refl (fun j => j = k) W) (p := ⟨k, 0, none⟩) (fun _ => rfl) v

/-- between two rounds of grow -/
structure GrowI (n₀ : Nat) (w : World) (b : Nat) (sf : Value) (be bf g0 : Nat) (P0 cs : List (List Nat)) (L : List Nat) (W : World) : Prop where
  bar : Bar (fun j => j = b ∨ j = g0) w W
  size : w.heap.size + 6 ≤ W.heap.size
  is : ∃ P g fresh, GrownL P0 cs L P fresh ∧ Nodes n₀ W b sf P be bf g ∧ (g = g0 ∨ w.heap.size + 6 ≤ g) ∧ GrowBoxes W w.heap.size b (place P L) fresh
/-- a code was met -/
structure GrowX (n₀ : Nat) (w : World) (b g0 : Nat) (cs : List (List Nat)) (L : List Nat) (W : World) : Prop where
  bar : Bar (fun j => j = b ∨ j = g0) w W
  met : ∃ c ∈ cs, c <+: L
  ra : W.heap[w.heap.size + 1]? = some (.cells #[.int .i64 0] 3 (0, 0))
  rb : W.heap[w.heap.size + 1 + 1]? = some (.cells #[.bool false] 4 (0, 0))

theorem keeps_of_bar {S : Nat → Prop} {W W' : World} (hb : Bar S W W') (hS : ∀ k, S k → k < W.heap.size → ∃ o : Obj, W.heap[k]? = some o ∧ o.isCells = true) : KeepsOthers W W' := by
  refine ⟨hb.size, fun k o hk ho => ?_⟩
  have hlt := (Array.getElem?_eq_some_iff.1 hk).1
  refine (hb.block k hlt fun hs => ?_).trans hk
  obtain ⟨o', h1, h2⟩ := hS k hs hlt
  rw [hk] at h1
  cases h1
  rw [ho] at h2
  cases h2
/-- what a round of grow may change -/
def GrowS (m b g : Nat) : Nat → Prop := fun j => j = b ∨ j = g ∨ (m ≤ j ∧ j ≤ m + 4)
theorem grow_keeps {n₀ : Nat} {W W' : World} {m b be bf g here : Nat} {sf : Value} {P : List (List Nat)} {fresh : Bool} (hN : Nodes n₀ W b sf P be bf g) (hX : GrowBoxes W m b here fresh) (hb : Bar (GrowS m b g) W W') : KeepsOthers W W' := by
  refine keeps_of_bar hb fun k hk hlt => ?_
  rcases hk with rfl | rfl | ⟨h1, h2⟩
  · obtain ⟨cap, xs, e1, _⟩ := hN.is
    exact ⟨_, e1, rfl⟩
  · obtain ⟨cap, xs, _, e2, _⟩ := hN.is
    rcases e2.2 with ⟨e, _⟩ | ⟨g', cap', cur, e, _, hg, _⟩
    · cases e
    · cases e; exact ⟨_, hg, rfl⟩
  · rcases (by omega : k = m ∨ k = m + 1 ∨ k = m + 1 + 1 ∨ k = m + 1 + 1 + 1 ∨ k = m + 1 + 1 + 1 + 1) with rfl | rfl | rfl | rfl | rfl
    · exact ⟨_, hX.tree, rfl⟩
    · exact ⟨_, hX.ra, rfl⟩
    · exact ⟨_, hX.rb, rfl⟩
    · exact ⟨_, hX.at_, rfl⟩
    · exact ⟨_, hX.new, rfl⟩
theorem grow_kp {n₀ : Nat} {W W' : World} {m b g : Nat} (hb : Bar (GrowS m b g) W W') (h1 : n₀ ≤ b) (h2 : n₀ ≤ g) (h3 : n₀ ≤ m) (h4 : b ≠ m + 1 + 1 + 1 + 1 + 1) (h5 : g ≠ m + 1 + 1 + 1 + 1 + 1) (h6 : m + 6 ≤ W.heap.size) : KpB n₀ (m + 1 + 1 + 1 + 1 + 1) (m + 1 + 1 + 1 + 1 + 1) W W' := by
  have hc : W'.cell? ⟨m + 1 + 1 + 1 + 1 + 1, 0, none⟩ = W.cell? ⟨m + 1 + 1 + 1 + 1 + 1, 0, none⟩ := World.cell?_of_block (hb.block (m + 1 + 1 + 1 + 1 + 1) (by omega) (by rintro (e | e | e) <;> omega))
  exact ⟨hb.below (by omega) (fun k hk => by rintro (e | e | e) <;> omega), hc, hc⟩
theorem bar_grow1 {m b g k : Nat} (W : World) (v : Value) (h : m ≤ k) (h' : k ≤ m + 4) : Bar (GrowS m b g) W (W.setCell ⟨k, 0, none⟩ v) := (Bar.refl _ W).setCell (p := ⟨k, 0, none⟩) (fun _ => .inr (.inr ⟨h, h'⟩)) v
theorem Bar.wide {S T : Nat → Prop} {W W' : World} (h : Bar S W W') (hs : ∀ j, S j → T j) : Bar T W W' := ⟨h.os, h.tape, h.output, h.size, fun k hk hn => h.block k hk (fun e => hn (hs k e))⟩

/-- what grow answers -/
def GrewTo (n₀ : Nat) (w : World) (b : Nat) (sf : Value) (be bf g0 : Nat) (cs : List (List Nat)) (T : List Nat) (P0 : List (List Nat)) (e : Ending) (w' : World) : Prop :=
  Bar (fun j => j = b ∨ j = g0) w w' ∧
    ((∃ P g, e = .returned (.tuple #[.int .i64 (place P T), .bool true]) ∧ Holds P (cs ++ [T]) ∧ Free (cs ++ [T]) ∧ T ∉ P0 ∧ (∀ q, q ∈ P0 → place P q = place P0 q) ∧ T ∈ P ∧ P.length ≤ P0.length + T.length ∧ Nodes n₀ w' b sf P be bf g ∧ (g = g0 ∨ w.heap.size ≤ g)) ∨
     (∃ x, e = .returned (.tuple #[.int .i64 x, .bool false]) ∧ ∃ c ∈ cs, c <+: T ∨ T <+: c))

theorem heap_keep {w : World} {k : Nat} {o : Obj} (h : w.heap[k]? = some o) (o' : Obj) : (w.alloc o').heap[k]? = some o := (Below.heap_alloc _ _ _ (Array.getElem?_eq_some_iff.1 h).1).trans h
theorem heap_new {w : World} (m : Nat) (h : w.heap.size = m) (o : Obj) : (w.alloc o).heap[m]? = some o := by rw [← h]; exact World.alloc_heap_new w o
theorem GrownL.ends {P0 cs P : List (List Nat)} {T : List Nat} {f : Bool} (h : GrownL P0 cs T P f) (hH : Holds P0 cs) (hF : Free cs) (h0 : T ≠ []) :
    (f = true ∧ Holds P (cs ++ [T]) ∧ Free (cs ++ [T]) ∧ T ∉ P0 ∧ (∀ q, q ∈ P0 → place P q = place P0 q) ∧ T ∈ P ∧ P.length ≤ P0.length + T.length) ∨ (f = false ∧ ∃ c ∈ cs, c <+: T ∨ T <+: c) := by
  cases f with
  | true =>
    have h' : Grown P0 cs T T.length P true := h
    obtain ⟨h1, h2⟩ := h'.done hH hF
    have hnew := h'.new
    rw [List.take_length] at hnew
    exact .inl ⟨rfl, h1, h2, (of_decide_eq_true hnew.symm).2, fun q hq => h'.place_old hq, h.here, h'.many⟩
  | false =>
    have h' : Grown P0 cs T T.length P false := h
    obtain ⟨c, hc, hp⟩ := h'.stale hH h0
    exact .inr ⟨rfl, c, hc, .inr hp⟩

set_option maxRecDepth 100000 in
set_option maxHeartbeats 4000000 in
theorem grow_in (n : Nat) (hn : 4 ≤ n) {n₀ : Nat} {w : World} {b be bf g0 : Nat} {sf : Value} {P0 cs : List (List Nat)} (h : Nodes n₀ w b sf P0 be bf g0) (hH : Holds P0 cs) (hf : Free cs) (hn0 : n₀ ≤ w.heap.size) {s : ByteArray} (hs : AllBits s) (h1 : 1 ≤ s.size) (h24 : s.size ≤ 24) (hfew : P0.length + 24 ≤ 10000) :
    CallsIn Fence.wide n Tryd.prog 55 #[.pointer (some ⟨b, 0, none⟩), .string s] w fun e w' => GrewTo n₀ w b sf be bf g0 cs (bitsL s) P0 e w' := by
  have hn1 : 1 ≤ n := by omega
  have hn3 : 1 ≤ n - 1 - 1 := by omega
  have HS := Lib.hid hs
  have HHo := Lib.hid hH
  have HFr := Lib.hid hf
  clear hs hH hf
  refine callsIn_of_wp_marks Tryd.func55 rfl trivial ?_ rfl
  simp only [Tryd.ntmps55, List.size_toArray, List.length_cons, List.length_nil, Nat.reduceAdd, Nat.reduceSub, Array.replicate_succ, Array.replicate_zero, List.push_toArray, List.append_toArray, List.nil_append, List.cons_append]
  gi_wp2_with (refine ⟨trivial, ?_⟩; gi_at_call 67; refine (bitsOf_in Fence.wide (n - 1) trivial rfl _ _).mono ?_; rintro e w' ⟨rfl, rfl⟩)
  have hB6 : Bar (fun j => j = b ∨ j = g0) w ((((((w.alloc (Obj.cells #[Value.pointer (some { block := b, off := 0 })] 47)).alloc (Obj.cells #[Value.int IntKind.i64 0] 3)).alloc (Obj.cells #[Value.bool false] 4)).alloc (Obj.cells #[Value.int IntKind.i64 0] 3)).alloc (Obj.cells #[Value.bool false] 4)).alloc (Obj.cells #[Value.string s] 9)) :=
    ((((((Bar.refl _ w).alloc _).alloc _).alloc _).alloc _).alloc _).alloc _
  have hlt := h.lt
  have hg0 : g0 < w.heap.size := by
    rcases h.row with hr | hr
    · exact hr.1
    · have := HHo.out.paths.pos; rw [hr] at this; simp at this
  have hap := h.apart
  have hlow := h.low
  have hlowg : n₀ ≤ g0 := by
    rcases h.row with hr | hr
    · exact hr.2
    · have := HHo.out.paths.pos; rw [hr] at this; simp at this
  have HNo := Lib.hid h
  clear h
  refine wpIn_rangeFunc_ownF rfl hn1 (gf := 74) (lb := #[.pointer (some ⟨w.heap.size + 1 + 1 + 1 + 1 + 1, 0, none⟩)]) rfl trivial (enters_of Tryd.func74 (by kernel_rfl) rfl)
    (bitsOf_stops (n - 1) (by omega) n₀ (w.heap.size + 1 + 1 + 1 + 1 + 1) s HS.out (by omega) _ (by simp) (by go_simp)) KpB.t (KpB.b (by simp; omega) (by simp) (by simp)) (Below.refl _ _) (fun _ => rfl)
    (fun pre W => GrowI n₀ w b sf be bf g0 P0 cs (bitsAt s pre) W)
    (fun c pre W => c = .ret ∧ GrowX n₀ w b g0 cs (bitsAt s pre) W)
    ?own ?ownx
    ?start
    (fun x => { tmps := #[Value.pointer (some { block := b, off := 0 }), Value.string s,
          Value.pointer (some { block := w.heap.size, off := 0 }), undef,
          Value.pointer (some { block := w.heap.size + 1, off := 0 }),
          Value.pointer (some { block := w.heap.size + 1 + 1, off := 0 }),
          Value.pointer (some { block := w.heap.size + 1 + 1 + 1, off := 0 }),
          Value.pointer (some { block := w.heap.size + 1 + 1 + 1 + 1, off := 0 }), .int .i64 ((bitsL s)[x]?.getD 0 : Nat), undef, Value.string s,
          Value.func (Fn.func 74) #[] #[Value.pointer (some { block := w.heap.size + 1 + 1 + 1 + 1 + 1, off := 0 })],
          .int .i64 ((bitsL s)[x]?.getD 0 : Nat), undef, undef, undef, undef, undef, undef, undef, undef, undef, undef, undef, undef, undef, undef,
          undef, undef, undef, undef, undef, undef, undef, undef, undef, undef], defers := [] }) ?assign ?body ?done ?stop
  case own =>
    intro pre A B row hI hg hr
    have hr2 : ∀ r, row = some r → ∃ o : Obj, A.heap[r]? = some o ∧ o.isCells = false := fun r e => (hr r e).2
    obtain ⟨hb, hsz, P, g, fresh, h1, h2, h3, h4⟩ := hI
    exact ⟨hb.trans (bar_of_grown (S := fun j => w.heap.size ≤ j) hg (fun r e => by have := (hr r e).1; simp at this; omega)) (fun j hj (e : w.heap.size ≤ j) => by omega), Nat.le_trans hsz hg.size, P, g, fresh, h1, h2.kept hg hr2, h3, h4.kept hg hr2⟩
  case ownx =>
    intro c pre A B row hI hg hr
    have hr2 : ∀ r, row = some r → ∃ o : Obj, A.heap[r]? = some o ∧ o.isCells = false := fun r e => (hr r e).2
    obtain ⟨hc, hb, hm, ra, rb⟩ := hI
    exact ⟨hc, hb.trans (bar_of_grown (S := fun j => w.heap.size ≤ j) hg (fun r e => by have := (hr r e).1; simp at this; omega)) (fun j hj (e : w.heap.size ≤ j) => by omega), hm, (grownBy_keeps_cells hg hr2 ra rfl).trans ra, (grownBy_keeps_cells hg hr2 rb rfl).trans rb⟩
  case start =>
    refine ⟨hB6, by simp, P0, g0, false, grownL_start HHo.out HFr.out, HNo.out.keep (S := fun _ => False) ((((((Bar.refl _ w).alloc _).alloc _).alloc _).alloc _).alloc _ |>.alloc _) id id, .inl rfl, ?_⟩
    have e0 : place P0 (bitsAt s []) = 0 := HHo.out.paths.place_of HHo.out.paths.root
    rw [e0]
    exact ⟨heap_keep (heap_keep (heap_keep (heap_keep (heap_keep (heap_new _ rfl _) _) _) _) _) _, heap_keep (heap_keep (heap_keep (heap_keep (heap_new _ (by simp) _) _) _) _) _, heap_keep (heap_keep (heap_keep (heap_new _ (by simp) _) _) _) _,
      heap_keep (heap_keep (heap_new _ (by simp) _) _) _, heap_keep (heap_new _ (by simp) _) _⟩
  case assign =>
    intro l x W K hK
    gi_wp2
    exact hK
  case body =>
    rintro l pre x W ⟨hB, hW, P, g, fresh, hG, hN, hgg, hX⟩ hlt
    obtain ⟨c0, _⟩ := one_cell hX.tree
    obtain ⟨c1, f1⟩ := one_cell hX.ra
    obtain ⟨c2, f2⟩ := one_cell hX.rb
    obtain ⟨c3, f3⟩ := one_cell hX.at_
    obtain ⟨c4, f4⟩ := one_cell hX.new
    have hbb := bit_low HS.out x
    have HL := Lib.hid (bitsAt_snoc s pre x)
    have hpl := place_lt hG.here
    have hLl : (bitsAt s pre).length ≤ pre.length := by simp [bitsAt]
    have hbk : W.cell? ⟨g, place P (bitsAt s pre) * 2 + (bitsL s)[x]?.getD 0, none⟩ = some (.int .i64 (place P (bitsAt s pre ++ [(bitsL s)[x]?.getD 0]))) := by
      have hk := hN.kids hpl
      rw [kid_at hG.here, kid_at hG.here] at hk
      rcases (by omega : (bitsL s)[x]?.getD 0 = 0 ∨ (bitsL s)[x]?.getD 0 = 1) with e | e
      · rw [e]; exact hk.1
      · rw [e]; exact hk.2
    have hfw := hN.few
    obtain ⟨cap, xs, e1, _, _⟩ := hN.is
    obtain ⟨t0, t1, t2, t3⟩ := p_cells e1
    clear e1
    generalize bitsAt s pre = L at *
    generalize (bitsL s)[x]?.getD 0 = bb at *
    generalize hq : place P (L ++ [bb]) = q at *
    generalize hpp : place P L = here at *
    have HQ := Lib.hid hq
    have HP := Lib.hid hpp
    clear hq hpp
    gi_wp2
    refine wpIn_mono (Q := fun e a' w' => e = .normal ∧ a' = { tmps := #[Value.pointer (some { block := b, off := 0 }), Value.string s,
          Value.pointer (some { block := w.heap.size, off := 0 }), undef,
          Value.pointer (some { block := w.heap.size + 1, off := 0 }),
          Value.pointer (some { block := w.heap.size + 1 + 1, off := 0 }),
          Value.pointer (some { block := w.heap.size + 1 + 1 + 1, off := 0 }),
          Value.pointer (some { block := w.heap.size + 1 + 1 + 1 + 1, off := 0 }), .int .i64 bb, .int .i64 q, Value.string s,
          Value.func (Fn.func 74) #[] #[Value.pointer (some { block := w.heap.size + 1 + 1 + 1 + 1 + 1, off := 0 })],
          .int .i64 bb, .pointer (some ⟨b, 0, none⟩), .pointer (some ⟨b, 0, none⟩), .pointer (some ⟨b, 1, none⟩), .slice (some ⟨g, 0, none⟩) P.length cap, .int .i64 here, .int .i64 bb,
          .pointer (some ⟨g, here * 2, none⟩), .pointer (some ⟨g, here * 2 + bb, none⟩), .int .i64 q, undef, undef, undef, undef,
          undef, undef, undef, undef, undef, undef, undef, undef, undef, undef, undef], defers := [] } ∧ w' = W.drew) ?reg ?rest
    case reg =>
      gi_region
      all_goals exact ⟨rfl, rfl, rfl⟩
    case rest =>
      rintro e a' w' ⟨rfl, rfl, rfl⟩
      by_cases hm : L ++ [bb] ∈ P
      · have hq1 : ((q : Int) == 0) = false := by
          rw [beq_eq_false_iff_ne, ← HQ.out]
          have := (hG.paths.zero (q := L ++ [bb]) (by simp)).1
          exact fun e => this (by omega) hm
        have hql : q < P.length := by rw [← HQ.out]; exact place_lt hm
        have hE := isEnd_any ((hN.keep (bar_set1 W (w.heap.size + 1 + 1 + 1 + 1) (.bool false)) (by omega) (by omega)).keep (S := fun _ => False) (Bar.refl _ _).drew id id) hql
        have hleaf := hG.leaf HHo.out HFr.out hm
        rw [HQ.out] at hleaf
        rw [hleaf] at hE
        have HX1 := Lib.hid (hX.setNew false)
        by_cases hc : L ++ [bb] ∈ cs
        · rw [decide_eq_true hc] at hE
          have HE := Lib.hid hE
          have HC := Lib.hid hc
          clear hE hc hm hleaf
          gi_wp2_with (refine ⟨trivial, ?_⟩; gi_at_call 44; refine (CallsIn.inRound l (callsIn_wide.2 HE.out)).mono ?_; rintro e w2 ⟨rfl, rfl⟩)
          have hbar : Bar (GrowS w.heap.size b g) W ((((W.setCell ⟨w.heap.size + 1 + 1 + 1 + 1, 0, none⟩ (.bool false)).drew).setCell ⟨w.heap.size + 1, 0, none⟩ (.int .i64 0)).setCell ⟨w.heap.size + 1 + 1, 0, none⟩ (.bool false)) :=
            ((bar_grow1 W _ (by omega) (by omega)).drew.trans (bar_grow1 _ _ (by omega) (by omega)) (fun _ _ e => e)).trans (bar_grow1 _ _ (by omega) (by omega)) (fun _ _ e => e)
          refine ⟨grow_keeps hN hX hbar, rfl, hB.trans hbar (fun j hj e => by rcases e with e | e | e <;> first | exact .inl e | (right; omega)), ⟨_, HC.out, by rw [HL.out]; exact List.prefix_refl _⟩, ?_, ?_⟩
          · exact (Below.heap_setCell _ _ _ _ (by simp)).trans (heap_setCell_same _ (w.heap.size + 1) 0 _ _ _ HX1.out.drew.ra)
          · exact heap_setCell_same _ (w.heap.size + 1 + 1) 0 _ _ _ ((Below.heap_setCell _ _ _ _ (by simp)).trans HX1.out.drew.rb)
        · rw [decide_eq_false hc] at hE
          have HE := Lib.hid hE
          have HG2 := Lib.hid (hG.go hm hc)
          clear hE hc hm hleaf
          gi_wp2_with (refine ⟨trivial, ?_⟩; gi_at_call 44; refine (CallsIn.inRound l (callsIn_wide.2 HE.out)).mono ?_; rintro e w2 ⟨rfl, rfl⟩)
          have hbar : Bar (GrowS w.heap.size b g) W (((W.setCell ⟨w.heap.size + 1 + 1 + 1 + 1, 0, none⟩ (.bool false)).drew).setCell ⟨w.heap.size + 1 + 1 + 1, 0, none⟩ (.int .i64 q)) :=
            (bar_grow1 W _ (by omega) (by omega)).drew.trans (bar_grow1 _ _ (by omega) (by omega)) (fun _ _ e => e)
          refine ⟨grow_keeps hN hX hbar, grow_kp hbar hlow (by omega) (by omega) (by omega) (by omega) hW, ?_⟩
          refine ⟨hB.trans hbar (fun j hj e => by rcases e with e | e | e <;> first | exact .inl e | (right; omega)), Nat.le_trans hW hbar.size, P, g, false, ?_, ((hN.keep (bar_set1 W (w.heap.size + 1 + 1 + 1 + 1) (.bool false)) (by omega) (by omega)).keep (S := fun _ => False) (Bar.refl _ _).drew id id).keep (bar_set1 _ _ _) (by omega) (by omega), hgg, ?_⟩
          · rw [HL.out]; exact HG2.out
          · rw [HL.out, HQ.out]
            exact HX1.out.drew.setAt q
      · have hq0 : q = 0 := by rw [← HQ.out]; exact place_no hm
        subst hq0
        have hk2 : P[here]? = some L := by rw [← HP.out]; exact place_get hG.here
        have HL1 := Lib.hid (lay_any ((hN.keep (bar_set1 W (w.heap.size + 1 + 1 + 1 + 1) (.bool true)) (by omega) (by omega)).keep (S := fun _ => False) (Bar.refl _ _).drew id id) hG.paths hk2 hbb hm (by have := hG.many; omega) (by simp; omega))
        have HG2 := Lib.hid (hG.lay HHo.out hbb hm)
        have HX1 := Lib.hid (hX.setNew true)
        have HN0 := Lib.hid (place_snoc hm (L ++ [bb]))
        clear hm hk2
        gi_wp2_with (refine ⟨trivial, ?_⟩; gi_at_call 68; refine (CallsIn.inRound l (callsIn_wide.2 HL1.out)).mono ?_; rintro e w2 ⟨rfl, g', hN', hg', hb'⟩; have hX2 := HX1.out.drew.bar hb' (by rintro j h1 h2 (e | e) <;> omega); obtain ⟨d3, e3⟩ := one_cell hX2.at_)
        have hbar : Bar (GrowS w.heap.size b g) W (w2.setCell ⟨w.heap.size + 1 + 1 + 1, 0, none⟩ (.int .i64 P.length)) :=
          (((bar_grow1 W _ (by omega) (by omega)).drew.trans (hb'.wide (T := GrowS w.heap.size b g) (fun j e => e.elim .inl fun e => .inr (.inl e))) (fun _ _ e => e)).trans (bar_grow1 w2 _ (by omega) (by omega)) (fun _ _ e => e))
        refine ⟨grow_keeps hN hX hbar, grow_kp hbar hlow (by omega) (by omega) (by omega) (by omega) hW, ?_⟩
        refine ⟨hB.trans hbar (fun j hj e => by rcases e with e | e | e <;> first | exact .inl e | (right; omega)), Nat.le_trans hW hbar.size, _, g', true, ?_, hN'.keep (bar_set1 w2 _ _) (by omega) (by have := hbar.size; simp at hg'; omega), by simp at hg'; omega, ?_⟩
        · rw [HL.out]; exact HG2.out
        · rw [HL.out, HN0.out, if_pos trivial]
          exact hX2.setAt P.length
  case done =>
    rintro D ys W hD rfl ⟨hB, hW, P, g, fresh, hG, hN, hgg, hX⟩ hK
    rw [bitsAt_range s s.size (Nat.le_refl _), List.take_of_length_le (by rw [bitsL_len]; omega)] at hG hX
    have hT0 : bitsL s ≠ [] := by intro e; have := congrArg List.length e; rw [bitsL_len] at this; have this : s.size = 0 := this; omega
    have HE := Lib.hid (hG.ends HHo.out HFr.out hT0)
    obtain ⟨c1, f1⟩ := one_cell hX.ra
    obtain ⟨c2, f2⟩ := one_cell hX.rb
    obtain ⟨c3, f3⟩ := one_cell hX.at_
    obtain ⟨c4, f4⟩ := one_cell hX.new
    clear hT0 hG
    generalize hT : bitsL s = T at *
    generalize hq : place P T = q at *
    have HT := Lib.hid hT
    have HQ := Lib.hid hq
    clear hT hq
    gi_wp2
    gi_region
    all_goals gi_wp2
    have hD' : w.heap.size ≤ D := by simp only [World.size_alloc] at hD; omega
    have hKO : KeepsOthers W ((W.setCell ⟨w.heap.size + 1, 0, none⟩ (.int .i64 q)).setCell ⟨w.heap.size + 1 + 1, 0, none⟩ (.bool fresh)).drew := (KeepsOthers.setCell _ _ _).trans (KeepsOthers.setCell _ _ _) |>.trans (KeepsOthers.drew _)
    have hK' := hKO.same D _ hK rfl
    refine ⟨by simp, .inl ⟨_, _, rfl, run_takeDeferred hK', ?_⟩⟩
    have r1 : ((W.setCell ⟨w.heap.size + 1, 0, none⟩ (.int .i64 q)).setCell ⟨w.heap.size + 1 + 1, 0, none⟩ (.bool fresh)).drew.heap[w.heap.size + 1]? = some (.cells #[.int .i64 q] 3 (0, 0)) := (Below.heap_setCell _ _ _ _ (by simp)).trans (heap_setCell_same W (w.heap.size + 1) 0 _ _ _ hX.ra)
    have r2 : ((W.setCell ⟨w.heap.size + 1, 0, none⟩ (.int .i64 q)).setCell ⟨w.heap.size + 1 + 1, 0, none⟩ (.bool fresh)).drew.heap[w.heap.size + 1 + 1]? = some (.cells #[.bool fresh] 4 (0, 0)) := heap_setCell_same _ (w.heap.size + 1 + 1) 0 _ _ _ ((Below.heap_setCell _ _ _ _ (by simp)).trans hX.rb)
    have g0' := (one_cell ((grownBy_keeps_cells (grownBy_putObj' _ D (.deferred none)) (fun r e => by cases e; exact ⟨_, hK', rfl⟩) r1 rfl).trans r1)).1
    have g1 := (one_cell ((grownBy_keeps_cells (grownBy_putObj' _ D (.deferred none)) (fun r e => by cases e; exact ⟨_, hK', rfl⟩) r2 rfl).trans r2)).1
    have hN2 : Nodes n₀ ((W.setCell ⟨w.heap.size + 1, 0, none⟩ (.int .i64 q)).setCell ⟨w.heap.size + 1 + 1, 0, none⟩ (.bool fresh)).drew b sf P be bf g := ((hN.keep (bar_set1 W _ _) (by omega) (by omega)).keep (bar_set1 _ _ _) (by omega) (by omega)).keep (S := fun _ => False) (Bar.refl _ _).drew id id
    have hbar : Bar (fun j => j = b ∨ j = g0) w ((W.setCell ⟨w.heap.size + 1, 0, none⟩ (.int .i64 q)).setCell ⟨w.heap.size + 1 + 1, 0, none⟩ (.bool fresh)).drew :=
      ((hB.setCell (p := ⟨w.heap.size + 1, 0, none⟩) (fun h => by have h : w.heap.size + 1 < w.heap.size := h; omega) _).setCell (p := ⟨w.heap.size + 1 + 1, 0, none⟩) (fun h => by have h : w.heap.size + 1 + 1 < w.heap.size := h; omega) _).drew
    refine ⟨.tuple #[.int .i64 q, .bool fresh], by simp [results, Tryd.f55, go_sem, g0', g1], ?_, ?_⟩
    · exact hbar.trans (bar_of_grown (S := fun j => w.heap.size ≤ j) (grownBy_putObj' _ D _) (fun r e => by cases e; exact hD')) (fun j hj (e : w.heap.size ≤ j) => by omega)
    · rcases HE.out with ⟨rfl, a1, a2, a3, a4, a5, a6⟩ | ⟨rfl, c, hc, hp⟩
      · left
        rw [HT.out]
        exact ⟨P, g, by rw [HQ.out], a1, a2, a3, a4, a5, a6, hN2.kept (grownBy_putObj' _ D _) (fun r e => by cases e; exact ⟨_, hK', rfl⟩), hgg.imp id (fun e => by omega)⟩
      · right
        exact ⟨q, rfl, c, hc, by rw [HT.out]; exact hp⟩
  case stop =>
    rintro D c pre W hD ⟨k, hk, rfl⟩ ⟨rfl, hB, ⟨c, hc, hp⟩, ra, rb⟩ hK
    rw [bitsAt_range s (k + 1) (by omega)] at hp
    gi_wp2
    refine ⟨by simp, .inl ⟨_, _, rfl, run_takeDeferred hK, ?_⟩⟩
    have g0 := (one_cell ((grownBy_keeps_cells (grownBy_putObj' _ D (.deferred none)) (fun r e => by cases e; exact ⟨_, hK, rfl⟩) ra rfl).trans ra)).1
    have g1 := (one_cell ((grownBy_keeps_cells (grownBy_putObj' _ D (.deferred none)) (fun r e => by cases e; exact ⟨_, hK, rfl⟩) rb rfl).trans rb)).1
    refine ⟨.tuple #[.int .i64 0, .bool false], by simp [results, Tryd.f55, go_sem, g0, g1], ?_, .inr ⟨0, rfl, c, hc, .inl (hp.trans (List.take_prefix _ _))⟩⟩
    exact hB.trans (bar_of_grown (S := fun j => w.heap.size ≤ j) (grownBy_putObj' _ D _) (fun r e => by cases e; simp at hD; show w.heap.size ≤ D; omega)) (fun j hj (e : w.heap.size ≤ j) => by omega)

end Go.Proofs.YtichkoilhnkmkaaDoor

/- prefix's tree as a whole: its codes, its maps; contracts of Codes and Put. -/
namespace Go.Proofs.YtichkoilhnkmkaaDoor
open Go.RowKit Go.Shelf
set_option linter.unusedVariables false

/-- the code at a place, as the maps keep it -/
def codeOf (cs : List ByteArray) (ns : List Int) (i : Nat) : Int × Int × Int := (ns[i]?.getD 0, (numOf (bitsL (cs[i]?.getD ⟨#[]⟩)) : Nat), ((cs[i]?.getD ⟨#[]⟩).size : Nat))
/-- the ends of the first k codes -/
def EndsOk (cs : List ByteArray) (ns : List Int) (k : Nat) (P : List (List Nat)) (f : Int → Option (Int × Int × Int)) : Prop :=
  (∀ i, i < k → f (place P (bitsL (cs[i]?.getD ⟨#[]⟩)) : Nat) = some (codeOf cs ns i)) ∧ ∀ z, (f z).isSome = true → ∃ i, i < k ∧ z = (place P (bitsL (cs[i]?.getD ⟨#[]⟩)) : Nat)
/-- by a number, the first of the first k codes that has it -/
def FirstsOk (cs : List ByteArray) (ns : List Int) (k : Nat) (f : Int → Option (Int × Int × Int)) : Prop := ∀ x, f x = (putI (ns.take k) x).map (codeOf cs ns)

/-- a tree that Make made, in the blocks from n₀ on and below m₁ -/
def IsPT (n₀ m₁ : Nat) (w : World) (b : Nat) (cs : List ByteArray) (ns : List Int) : Prop :=
  ∃ P be bf g fE fF nE nF cF, (b < m₁ ∧ be < m₁ ∧ bf < m₁ ∧ g < m₁ ∧ n₀ ≤ b ∧ n₀ ≤ be ∧ n₀ ≤ bf ∧ n₀ ≤ g) ∧ Nodes n₀ w b (.pointer (some ⟨b, 0, none⟩)) P be bf g ∧ Holds P (cs.map bitsL) ∧ CodesOk cs ∧
    (0 < cs.length ∧ cs.length = ns.length ∧ cs.length ≤ 300) ∧ CMap w be nE fE cs.length ∧ EndsOk cs ns cs.length P fE ∧ CMap w bf nF fF cF ∧ FirstsOk cs ns cs.length fF
theorem IsPT.keep {S : Nat → Prop} {n₀ m₁ : Nat} {w w' : World} {b : Nat} {cs : List ByteArray} {ns : List Int} (h : IsPT n₀ m₁ w b cs ns) (hb : Bar S w w') (hS : ∀ k, n₀ ≤ k → k < m₁ → ¬ S k) : IsPT n₀ m₁ w' b cs ns := by
  obtain ⟨P, be, bf, g, fE, fF, nE, nF, cF, h1, h2, h3, h4, h5, h6, h7, h8, h9⟩ := h
  obtain ⟨a1, a2, a3, a4, a5, a6, a7, a8⟩ := h1
  exact ⟨P, be, bf, g, fE, fF, nE, nF, cF, ⟨a1, a2, a3, a4, a5, a6, a7, a8⟩, h2.keep hb (hS b a5 a1) (hS g a8 a4), h3, h4, h5, h6.bar hb (hS be a6 a2), h7, h8.bar hb (hS bf a7 a3), h9⟩

theorem isPT_made {n₀ m₁ : Nat} {w : World} {b : Nat} {cs : List ByteArray} {ns : List Int} (h : IsPT n₀ m₁ w b cs ns) : Calls Tryd.prog 42 #[.pointer (some ⟨b, 0, none⟩)] w fun e w' => e = .returned (.bool true) ∧ w = w' := by
  obtain ⟨P, be, bf, g, fE, fF, nE, nF, cF, _, h2, _⟩ := h
  obtain ⟨cap, xs, hb, _⟩ := h2.is
  exact pmade_any (p_cells hb).1

theorem putI_some {ns : List Int} {x : Int} {i : Nat} (h : putI ns x = some i) : i < ns.length := by
  unfold putI at h
  rw [List.findIdx?_eq_some_iff_getElem] at h
  exact h.1

end Go.Proofs.YtichkoilhnkmkaaDoor

/- The contract of prefix's Make. -/
namespace Go.Proofs.YtichkoilhnkmkaaDoor
open Go.RowKit Go.Shelf
set_option linter.unusedVariables false

theorem mayB_false {cs : List ByteArray} {ns : List Int} (h : mayB cs ns = false) : makeE cs ns = 2 := by
  unfold mayB at h
  rw [Bool.and_eq_false_iff] at h
  rcases h with h | h
  · have := of_decide_eq_false h
    exact makeE_len (by omega)
  · exact makeE_bad h
theorem mayB_true {cs : List ByteArray} {ns : List Int} (h : mayB cs ns = true) : cs.length = ns.length ∧ 0 < cs.length ∧ cs.length ≤ 300 ∧ ∀ s ∈ cs, codeB s = true := by
  unfold mayB at h
  rw [Bool.and_eq_true, decide_eq_true_eq] at h
  exact ⟨h.1.1, by omega, h.1.2.2, List.all_eq_true.1 h.2⟩

/-- the codes up to a place -/
def upTo (cs : List ByteArray) (k : Nat) : List (List Nat) := (cs.take k).map bitsL
theorem upTo_succ {cs : List ByteArray} {k : Nat} (h : k < cs.length) : upTo cs (k + 1) = upTo cs k ++ [bitsL (cs[k]?.getD ⟨#[]⟩)] := by
  unfold upTo
  rw [List.take_add_one, List.getElem?_eq_getElem h, List.map_append]
  rfl
theorem mem_upTo {cs : List ByteArray} {k i : Nat} (hi : i < k) (hk : k ≤ cs.length) : bitsL (cs[i]?.getD ⟨#[]⟩) ∈ upTo cs k := by
  unfold upTo
  refine List.mem_map_of_mem ?_
  rw [List.getElem?_eq_getElem (by omega), Option.getD_some, List.mem_take_iff_getElem]
  exact ⟨i, by omega, rfl⟩
/-- a tree in the making: its first k codes are laid -/
structure MakeI (n₀ : Nat) (cs : List ByteArray) (ns : List Int) (k : Nat) (wr : World) (b be bf : Nat) (P : List (List Nat)) (g : Nat) (fE fF : Int → Option (Int × Int × Int)) (nF cF : Nat) : Prop where
  nodes : Nodes n₀ wr b (.pointer none) P be bf g
  holds : Holds P (upTo cs k)
  free : Free (upTo cs k)
  few : P.length ≤ 1 + 24 * k
  ends : CMap wr be k fE k
  endsOk : EndsOk cs ns k P fE
  firsts : CMap wr bf nF fF cF
  nF : nF ≤ k
  firstsOk : FirstsOk cs ns k fF
  low : n₀ ≤ g ∧ n₀ ≤ be ∧ n₀ ≤ bf
theorem MakeI.start {n₀ : Nat} {cs : List ByteArray} {ns : List Int} {wr : World} {b be bf g : Nat} (h : Nodes n₀ wr b (.pointer none) [[]] be bf g) (h1 : CMap wr be 0 (fun _ => none) 0) (h2 : CMap wr bf 0 (fun _ => none) 0) (hl : n₀ ≤ g ∧ n₀ ≤ be ∧ n₀ ≤ bf) :
    MakeI n₀ cs ns 0 wr b be bf [[]] g (fun _ => none) (fun _ => none) 0 0 :=
  ⟨h, holds_root, ⟨by simp [upTo], by simp [upTo]⟩, by simp, h1, ⟨fun i hi => by omega, fun z hz => by simp at hz⟩, h2, Nat.le_refl _, fun x => by simp [putI], hl⟩
/-- one code more -/
theorem EndsOk.step {cs : List ByteArray} {ns : List Int} {k : Nat} {P P' : List (List Nat)} {f : Int → Option (Int × Int × Int)} (h : EndsOk cs ns k P f) (hk : k < cs.length) (hH : Holds P (upTo cs k)) (hT : bitsL (cs[k]?.getD ⟨#[]⟩) ∉ P) (hT' : bitsL (cs[k]?.getD ⟨#[]⟩) ∈ P')
    (hsub : ∀ q, q ∈ P → q ∈ P') (hold : ∀ q, q ∈ P → place P' q = place P q) : (f (place P' (bitsL (cs[k]?.getD ⟨#[]⟩)) : Nat)).isSome = false ∧ EndsOk cs ns (k + 1) P' (put1 f (place P' (bitsL (cs[k]?.getD ⟨#[]⟩)) : Nat) (codeOf cs ns k)) := by
  have hin : ∀ i, i < k → bitsL (cs[i]?.getD ⟨#[]⟩) ∈ P := fun i hi => (hH.mem _).2 (.inr ⟨_, mem_upTo hi (by omega), List.prefix_refl _⟩)
  have hne : ∀ i, i < k → place P' (bitsL (cs[i]?.getD ⟨#[]⟩)) ≠ place P' (bitsL (cs[k]?.getD ⟨#[]⟩)) := fun i hi e => by
    have h1 := place_get hT'
    have h2 := place_get (hsub _ (hin i hi))
    rw [e, h1] at h2
    exact hT (by have := Option.some.inj h2; rw [this]; exact hin i hi)
  refine ⟨?_, fun i hi => ?_, fun z hz => ?_⟩
  · rw [Bool.eq_false_iff]
    intro hs
    obtain ⟨i, hi, e⟩ := h.2 _ hs
    rw [← hold _ (hin i hi)] at e
    exact hne i hi (by omega)
  · unfold put1
    by_cases e : i = k
    · subst e
      rw [if_pos rfl]
    · have hik : i < k := by omega
      rw [if_neg (fun x => hne i hik (by omega)), hold _ (hin i hik)]
      exact h.1 i hik
  · unfold put1 at hz
    by_cases e : z = (place P' (bitsL (cs[k]?.getD ⟨#[]⟩)) : Nat)
    · exact ⟨k, by omega, e⟩
    · rw [if_neg e] at hz
      obtain ⟨i, hi, e2⟩ := h.2 z hz
      exact ⟨i, by omega, by rw [hold _ (hin i hi)]; exact e2⟩
theorem FirstsOk.step {cs : List ByteArray} {ns : List Int} {k : Nat} {f : Int → Option (Int × Int × Int)} (h : FirstsOk cs ns k f) (hk : k < ns.length) : FirstsOk cs ns (k + 1) (if (f (codeOf cs ns k).1).isSome then f else put1 f (codeOf cs ns k).1 (codeOf cs ns k)) := by
  have hn : (codeOf cs ns k).1 = ns[k] := by unfold codeOf; simp [hk]
  rw [hn]
  intro x
  have ht : ns.take (k + 1) = ns.take k ++ [ns[k]] := by rw [List.take_add_one, List.getElem?_eq_getElem hk]; rfl
  rw [ht, putI_snoc]
  have hlen : (ns.take k).length = k := by simp; omega
  have hfx := h x
  have hfn := h ns[k]
  cases hp : putI (ns.take k) x with
  | some i =>
    rw [hp] at hfx
    by_cases hs : (f ns[k]).isSome = true
    · rw [if_pos hs, hfx]
    · rw [if_neg hs]
      unfold put1
      by_cases e : x = ns[k]
      · subst e; rw [hfx] at hs; simp at hs
      · rw [if_neg e, hfx]
  | none =>
    rw [hp] at hfx
    by_cases e : ns[k] = x
    · subst e
      rw [if_neg (by rw [hfx]; simp)]
      unfold put1
      simp [hlen]
    · by_cases hs : (f ns[k]).isSome = true
      · rw [if_pos hs, hfx]; simp [e]
      · rw [if_neg hs]
        unfold put1
        rw [if_neg (fun e' => e e'.symm), hfx]; simp [e]

theorem grow_any {n₀ : Nat} {w : World} {b be bf g0 : Nat} {sf : Value} {P0 cs : List (List Nat)} (h : Nodes n₀ w b sf P0 be bf g0) (hH : Holds P0 cs) (hf : Free cs) (hn0 : n₀ ≤ w.heap.size) {s : ByteArray} (hs : AllBits s) (h1 : 1 ≤ s.size) (h24 : s.size ≤ 24) (hfew : P0.length + 24 ≤ 10000) :
    Calls Tryd.prog 55 #[.pointer (some ⟨b, 0, none⟩), .string s] w fun e w' => GrewTo n₀ w b sf be bf g0 cs (bitsL s) P0 e w' := callsIn_wide.1 (grow_in 4 (by omega) h hH hf hn0 hs h1 h24 hfew)
theorem read3_any {s : ByteArray} (hs : AllBits s) (h24 : s.size ≤ 24) (num : Int) (w : World) :
    Calls Tryd.prog 57 #[.string s, .int .i64 num] w fun e w' => e = .returned (codeV (num, (numOf (bitsL s) : Nat), (s.size : Nat))) ∧ Below w.heap.size w w' := callsIn_wide.1 (read_in 4 (by omega) hs h24 num w)

theorem makeMap_hint (n : Int) (W : World) : (Instr.makeMap 67 (some (.int .i64 n))).run Tryd.prog W = .ok (.map (some W.heap.size)) (W.alloc (.map #[] 0)) := by kernel_rfl
/-- what a call of Make leaves -/
def MadeP (w w' : World) (e : Ending) (cs : List ByteArray) (ns : List Int) : Prop :=
  Below w.heap.size w w' ∧ ((makeE cs ns = 0 ∧ ∃ b, e = .returned (.tuple #[.pointer (some ⟨b, 0, none⟩), .int .i64 0]) ∧ IsPT w.heap.size w'.heap.size w' b cs ns) ∨ (makeE cs ns ≠ 0 ∧ e = .returned (.tuple #[.pointer none, .int .i64 (makeE cs ns)])))
/-- a new tree -/
def NewT (w w' : World) (b be bf g : Nat) : Prop := Nodes w.heap.size w' b (.pointer none) [[]] be bf g ∧ CMap w' be 0 (fun _ => none) 0 ∧ CMap w' bf 0 (fun _ => none) 0 ∧ (w.heap.size ≤ g ∧ w.heap.size ≤ be ∧ w.heap.size ≤ bf) ∧ Below w.heap.size w w'

theorem CMap.of_heap {w : World} {b : Nat} (h : w.heap[b]? = some (.map #[] 0)) : CMap w b 0 (fun _ => none) 0 := by
  have h0 := CMap.made w
  obtain ⟨D, ⟨es, ck, h1, h2⟩, h3⟩ := h0
  have e := World.alloc_heap_new w (.map #[] 0)
  rw [h1] at e
  exact ⟨D, ⟨es, ck, h.trans e.symm, h2⟩, h3⟩
theorem newT_mk {w w1 w' : World} (hb : Below w.heap.size w w1) (hw : Below w1.heap.size w1 w') {be bf g b : Nat} (hg : w'.heap[g]? = some (.cells #[.int .i64 0, .int .i64 0] 65 (0, 0))) (he : w'.heap[be]? = some (.map #[] 0)) (hf : w'.heap[bf]? = some (.map #[] 0))
    (hbb : w'.heap[b]? = some (pCells (.pointer none) g 1 1 be bf)) (h1 : w1.heap.size ≤ g ∧ w1.heap.size ≤ be ∧ w1.heap.size ≤ bf ∧ w1.heap.size ≤ b) (h2 : g ≠ b ∧ g ≠ be ∧ g ≠ bf ∧ b ≠ be ∧ b ≠ bf ∧ be ≠ bf) : NewT w w' b be bf g := by
  have hs := hb.size
  obtain ⟨a1, a2, a3, a4⟩ := h1
  refine ⟨⟨by omega, h2, by simp, ⟨(Array.getElem?_eq_some_iff.1 he).1, (Array.getElem?_eq_some_iff.1 hf).1⟩, 1, [.int .i64 0, .int .i64 0], hbb, ⟨rfl, .inr ⟨g, 1, _, rfl, by omega, hg, Nat.le_refl _, by decide, rfl, rfl⟩⟩, cells_root⟩, CMap.of_heap he, CMap.of_heap hf, ⟨by omega, by omega, by omega⟩, hb.trans (hw.mono hs)⟩

set_option maxRecDepth 100000 in
set_option maxHeartbeats 4000000 in
theorem makeP_any {w : World} {a a' : Option Addr} {len cap len' cap' : Nat} {cs : List ByteArray} {ns : List Int} (hC : RowV w.heap.size w a len cap (strV cs)) (hN : RowV w.heap.size w a' len' cap' (intV ns)) (hsz : ∀ s ∈ cs, s.size ≤ 9223372036854775807) (hns : I64s ns) :
    Calls Tryd.prog 41 #[.slice a len cap, .slice a' len' cap'] w fun e w' => MadeP w w' e cs ns := by
  have HMay := Lib.hid (mayBe_any hC hN hsz)
  have e1 : cs.length = len := by have := hC.1; simpa using this
  have e2 : ns.length = len' := by have := hN.1; simpa using this
  subst e1
  subst e2
  have hc1 := hC.2.1
  have hc2 := hC.2.2.1
  have hd1 := hN.2.1
  have hd2 := hN.2.2.1
  have HC := Lib.hid hC
  have HN := Lib.hid hN
  have HNs := Lib.hid hns
  clear hC hN hsz hns
  cases hm : mayB cs ns with
  | false =>
    have HE := Lib.hid (mayB_false hm)
    rw [hm] at HMay
    clear hm
    go_enter Tryd.func41, Tryd.ntmps41
    go_wp2_with (go_at_call 54; refine HMay.out.mono ?_; rintro e w' ⟨rfl, hb⟩)
    go_ret2
    exact ⟨hb, .inr ⟨by rw [HE.out]; decide, by rw [HE.out]; rfl⟩⟩
  | true =>
    have HOk := Lib.hid (mayB_true hm)
    have hl := HOk.out.1
    have hl0 := HOk.out.2.1
    have hl3 := HOk.out.2.2.1
    have HL := Lib.hid hl
    clear hl
    have hnl : ns.length ≤ 300 := by rw [← HL.out]; exact hl3
    rw [hm] at HMay
    clear hm
    have hmm := makeMap_hint cs.length
    go_enter Tryd.func41, Tryd.ntmps41
    go_wp2_with (go_at_call 54; refine HMay.out.mono ?_; rintro e w1 ⟨rfl, hb1⟩)
    refine wp_mono (Q := fun e aa w' => e = .normal ∧ ∃ b be bf g, aa = { tmps := #[Value.slice a cs.length cap, Value.slice a' ns.length cap', undef, undef, Value.pointer none,
          Value.int IntKind.i64 0, .pointer (some ⟨b, 0, none⟩), undef, undef,
          undef, undef, Value.slice a cs.length cap, Value.slice a' ns.length cap', Value.bool true, Value.bool false,
          Value.agg #[Value.int IntKind.i64 0, Value.int IntKind.i64 0],
          Value.slice (some ⟨g, 0, none⟩) 1 1, Value.slice a cs.length cap,
          Value.int IntKind.i64 cs.length, Value.map (some be), Value.slice a cs.length cap,
          Value.int IntKind.i64 cs.length, Value.map (some bf),
          Value.agg #[Value.pointer none, Value.slice (some ⟨g, 0, none⟩) 1 1, Value.map (some be), Value.map (some bf)],
          .pointer (some ⟨b, 0, none⟩), undef, undef, undef, undef, undef,
          undef, undef, undef, undef, undef, undef, undef, undef, undef, undef, undef, undef, undef, undef, undef,
          undef, undef, undef, undef, undef, undef, undef, undef, undef, undef], defers := [] } ∧ NewT w w' b be bf g) ?reg ?rest
    case reg =>
      go_region
      all_goals
        refine ⟨rfl, _, _, _, _, rfl, newT_mk hb1 ((((((Below.refl _ w1).alloc (Nat.le_refl _) _).alloc (by simp) _).alloc (by simp; omega) _).alloc (by simp; omega) _).drew) ?_ ?_ ?_ ?_ (by omega) (by omega)⟩
        all_goals first
          | (refine heap_new _ ?_ _; simp only [World.size_alloc]; done)
          | (refine heap_keep (heap_new _ ?_ _) _; simp only [World.size_alloc]; done)
          | (refine heap_keep (heap_keep (heap_new _ ?_ _) _) _; simp only [World.size_alloc]; done)
          | exact heap_keep (heap_keep (heap_keep (heap_new _ rfl _) _) _) _
    case rest =>
      rintro e a2 w2 ⟨rfl, b, be, bf, g0, rfl, hNew⟩
      have HNew := Lib.hid hNew
      clear hNew
      go_wp2
      go_loopw [27] (fun i wr => ∃ k P g fE fF nF cF, i = .int .i64 (k : Nat) ∧ k ≤ cs.length ∧ MakeI w.heap.size cs ns k wr b be bf P g fE fF nF cF ∧ Below w.heap.size w wr) (fun i _ => cs.length - (intOf i).toNat)
      case atStart =>
        obtain ⟨n1, n2, n3, n4, n5⟩ := HNew.out
        exact ⟨0, _, _, _, _, _, _, rfl, by omega, MakeI.start n1 n2 n3 n4, n5⟩
      case round =>
        obtain ⟨k, P, g, fE, fF, nF, cF, rfl, hk, hI, hB⟩ := hrel
        have HI := Lib.hid hI
        have HB := Lib.hid hB
        have hlow := hI.low
        have hap := hI.nodes.apart
        have hnb := hI.nodes.low
        have hmp := hI.nodes.maps
        have hfew := hI.few
        have hnF := hI.nF
        have hBs := hB.size
        clear hI hB
        by_cases hlt : k < cs.length
        · obtain ⟨b0, off0, rfl, hbl0, hc0⟩ := HC.out.cells (by omega)
          have hkn : k < ns.length := by rw [← HL.out]; exact hlt
          obtain ⟨b1, off1, rfl, hbl1, hc1⟩ := HN.out.cells (by omega)
          have HC0 : Hid (∀ W, Below w.heap.size w W → W.cell? ⟨b0, off0 + k, none⟩ = some (.string (cs[k]?.getD ⟨#[]⟩))) := fun W hW => (hW.cell (p := ⟨b0, off0 + k, none⟩) hbl0).trans (hc0 k _ (by simp [hlt]))
          have HC1 : Hid (∀ W, Below w.heap.size w W → W.cell? ⟨b1, off1 + k, none⟩ = some (.int .i64 (ns[k]?.getD 0))) := fun W hW => (hW.cell (p := ⟨b1, off1 + k, none⟩) hbl1).trans (hc1 k _ (by simp [hkn]))
          clear hc0 hc1
          have hcell := HC0.out wr HB.out
          have hcode : codeB (cs[k]?.getD ⟨#[]⟩) = true := by rw [List.getElem?_eq_getElem hlt]; exact HOk.out.2.2.2 _ (List.getElem_mem hlt)
          obtain ⟨hall, hs1, hs24⟩ := codeB_all hcode
          have hnum := HNs.out (ns[k]?.getD 0) (by rw [List.getElem?_eq_getElem hkn]; exact List.getElem_mem hkn)
          have HG := Lib.hid (grow_any HI.out.nodes HI.out.holds HI.out.free hBs hall hs1 hs24 (by omega))
          have HRd := Lib.hid (fun W => read3_any hall hs24 (ns[k]?.getD 0) W)
          have HAll := Lib.hid hall
          have HCo : Hid (codeOf cs ns k = (ns[k]?.getD 0, (numOf (bitsL (cs[k]?.getD ⟨#[]⟩)) : Int), ((cs[k]?.getD ⟨#[]⟩).size : Int))) := rfl
          have HUp := Lib.hid (upTo_succ hlt)
          have HClash : Hid ((∃ c ∈ upTo cs k, c <+: bitsL (cs[k]?.getD ⟨#[]⟩) ∨ bitsL (cs[k]?.getD ⟨#[]⟩) <+: c) → makeE cs ns = 14) := fun h => makeE_clash HL.out hl3 HOk.out.2.2.2 hlt (by
            rw [List.getElem?_eq_getElem hlt, Option.getD_some] at h
            exact h)
          have HStep := Lib.hid (fun P' (h1 : bitsL (cs[k]?.getD ⟨#[]⟩) ∉ P) h2 h3 h4 => HI.out.endsOk.step (P' := P') hlt HI.out.holds h1 h2 h3 h4)
          have HFirst := Lib.hid (HI.out.firstsOk.step hkn)
          have hd1 : decide ((k : Int) < (cs.length : Int)) = true := decide_eq_true (by omega)
          clear hcode hall
          generalize hs : cs[k]?.getD ⟨#[]⟩ = s at *
          generalize hnk : ns[k]?.getD 0 = num at *
          clear hs hnk
          go_wp2_with fail
          refine HG.out.mono ?_
          rintro e w3 ⟨hbar, hg | hg⟩
          · obtain ⟨P', g', rfl, h1, h2, h3, h4, h5, h6, h7, h8⟩ := hg
            have hBar := Lib.hid hbar
            have hB3 : Below w.heap.size w w3 := HB.out.trans (hbar.below hBs (fun j hj => by omega))
            have HB3 := Lib.hid hB3
            have hcell1 := HC1.out w3 hB3
            go_wp2_with fail
            refine (HRd.out w3).mono ?_
            rintro e w4 ⟨rfl, hb4⟩
            have hpl := place_lt h5
            have hN4 := h7.keep (S := fun _ => False) (bar_of_below hb4) id id
            have hE4 : CMap w4 be k fE k := (HI.out.ends.bar hbar (by omega)).bar (S := fun _ => False) (bar_of_below hb4) id
            have hF4 : CMap w4 bf nF fF cF := (HI.out.firsts.bar hbar (by omega)).bar (S := fun _ => False) (bar_of_below hb4) id
            have hP'f := h7.few
            have hN4' := hN4
            obtain ⟨cap3, xs3, hb4b, _, _⟩ := hN4'.is
            have HName := Lib.hid (name_any hb4b ⟨hap.2.2.2.1, hap.2.2.2.2.1, hap.2.2.2.2.2⟩ hE4 hF4 (by omega) (by omega) (en := (place P' (bitsL s) : Nat)) (num := num) (numOf (bitsL s) : Nat) (s.size : Nat) (by omega) (by omega) hnum.1 hnum.2)
            obtain ⟨hst1, hst2⟩ := HStep.out P' h3 h5 (fun q hq => by
              have := place_get (P := P') (q := q)
              false_or_by_contra
              rename_i hno
              have e1 := h4 q hq
              rw [place_no hno] at e1
              by_cases hq0 : q = []
              · subst hq0; exact hno h1.paths.nil_mem
              · exact ((HI.out.holds.paths.zero hq0).1 e1.symm) hq) h4
            have HSt1 := Lib.hid hst1
            have HSt2 := Lib.hid hst2
            have HN4 := Lib.hid hN4
            have Hb4 := Lib.hid hb4
            have H1 := Lib.hid h1
            have H2 := Lib.hid h2
            have hlen6 : P'.length ≤ P.length + 24 := by rw [bitsL_len] at h6; omega
            clear hst1 hst2 hN4 hN4' hE4 hF4 h1 h2 h3 h4 h5 h6 h7 hb4 hb4b
            go_wp2_with fail
            refine HName.out.mono ?_
            rintro e w5 ⟨rfl, hn1, hn2, nF', cF', hn3, hn4⟩
            go_wp2
            go_roundw
            case rel =>
              have hg' : g' ≠ be ∧ g' ≠ bf := by have := HN4.out.apart; omega
              refine ⟨k + 1, P', g', put1 fE (place P' (bitsL s) : Nat) (num, (numOf (bitsL s) : Nat), (s.size : Nat)), (if (fF num).isSome then fF else put1 fF num (num, (numOf (bitsL s) : Nat), (s.size : Nat))), nF', cF', by go_num, by omega, ⟨HN4.out.keep hn1 (by omega) (by omega), ?_, ?_, by omega, ?_, ?_, hn4, by omega, ?_, by omega⟩, ?_⟩
              · rw [HUp.out]; exact H1.out
              · rw [HUp.out]; exact H2.out
              · rw [HSt1.out] at hn2; exact hn2
              · have := HSt2.out
                rw [HCo.out] at this
                exact this
              · have := HFirst.out
                rw [HCo.out] at this
                exact this
              · exact HB3.out.trans ((Hb4.out.mono HB3.out.size).trans (hn1.below (by have := HB3.out.size; have := Hb4.out.size; omega) (fun j hj => by omega)))
            case measure => simp [intOf]; omega
          · obtain ⟨y, rfl, hcl⟩ := hg
            have HE := Lib.hid (HClash.out hcl)
            have hB3 : Below w.heap.size w w3 := HB.out.trans (hbar.below hBs (fun j hj => by omega))
            clear hcl
            go_wp2
            go_ret2
            exact ⟨hB3, .inr ⟨by rw [HE.out]; decide, by rw [HE.out]; rfl⟩⟩
        · have hkn : k = cs.length := by omega
          subst hkn
          have hI := HI.out
          obtain ⟨cap3, xs3, hbb, hrow, hcl⟩ := hI.nodes.is
          obtain ⟨d0, d1, d2, d3⟩ := p_cells hbb
          have f0 : wr.frozen? ⟨b, 0, none⟩ = false := Lib.frozen_of_heap hbb 0
          have hup : upTo cs cs.length = cs.map bitsL := by unfold upTo; rw [List.take_length]
          have hh := hI.holds
          have hfr := hI.free
          rw [hup] at hh hfr
          have hOk : CodesOk cs := ⟨HOk.out.2.2.2, hfr⟩
          have HE := Lib.hid (makeE_free HL.out hl0 hl3 hOk)
          have hg : g < wr.heap.size := by
            rcases hI.nodes.row with hr | hr
            · exact hr.1
            · have := hh.paths.pos; rw [hr] at this; simp at this
          have hbs := hI.nodes.lt
          have hlen : P.length ≤ 10000 := hI.nodes.few
          have HFin : Hid (IsPT w.heap.size (wr.setCell ⟨b, 0, none⟩ (.pointer (some ⟨b, 0, none⟩))).heap.size (wr.setCell ⟨b, 0, none⟩ (.pointer (some ⟨b, 0, none⟩))) b cs ns) := by
            have hbar := bar_set1 wr b (.pointer (some ⟨b, 0, none⟩))
            have hsz := hbar.size
            refine ⟨P, be, bf, g, fE, fF, cs.length, nF, cF, ⟨by omega, by omega, by omega, by omega, hnb, hlow.2.1, hlow.2.2, hlow.1⟩, ⟨hnb, hap, hlen, by omega, cap3, xs3, ?_, ?_, hcl⟩, hh, hOk, ⟨hl0, HL.out, hl3⟩, hI.ends.bar hbar (by omega), hI.endsOk, hI.firsts.bar hbar (by omega), hI.firstsOk⟩
            · exact heap_setCell_same wr b 0 _ _ _ hbb
            · exact ownsRow_setCell_other hrow (a := ⟨b, 0, none⟩) (by simp [Value.ownBlock]; omega) _
          clear hbb hrow hcl hup hh hfr hOk hI
          go_wp2
          go_ret2
          exact ⟨HB.out.setCell (p := ⟨b, 0, none⟩) (by simpa using hnb) _, .inl ⟨HE.out, b, rfl, HFin.out⟩⟩

end Go.Proofs.YtichkoilhnkmkaaDoor

/- The contract of prefix's Get. -/
namespace Go.Proofs.YtichkoilhnkmkaaDoor
open Go.RowKit Go.Shelf
set_option linter.unusedVariables false
attribute [local go_sem] Oper.semAt_some

set_option maxHeartbeats 1000000 in
theorem getP_range {n₀ m₁ : Nat} {w : World} {b : Nat} {cs : List ByteArray} {ns : List Int} (h : IsPT n₀ m₁ w b cs ns) (a : Option Addr) (len cap : Nat) (x : Int) (hx : x < 0) :
    Calls Tryd.prog 28 #[.pointer (some ⟨b, 0, none⟩), .slice a len cap, .int .i64 x] w fun e w' => e = .returned (.tuple #[.int .i64 0, .int .i64 0, .int .i64 3]) ∧ Below w.heap.size w w' := by
  have hB : Below w.heap.size w ((((w.alloc (Obj.cells #[Value.pointer (some { block := b, off := 0 })] 47)).alloc (Obj.cells #[Value.int IntKind.i64 0] 3)).alloc (Obj.cells #[Value.int IntKind.i64 0] 3)).alloc (Obj.cells #[Value.int IntKind.i64 0] 25)) :=
    ((((Below.refl _ w).alloc (Nat.le_refl _) _).alloc (by simp) _).alloc (by simp; omega) _).alloc (by simp; omega) _
  have HM := Lib.hid (isPT_made (h.keep (S := fun _ => False) (bar_of_below hB) (fun _ _ _ e => e)))
  have HB := Lib.hid hB
  clear h hB
  go_enter Tryd.func28, Tryd.ntmps28
  go_wp2_with (go_at_call 42; refine HM.out.mono ?_; rintro e w' ⟨rfl, rfl⟩)
  exact bodyPost_ret (v := .tuple #[.int .i64 0, .int .i64 0, .int .i64 3]) (by simp [results, Tryd.f28, go_sem]) rfl ⟨rfl, ((((Below.refl _ w).alloc (Nat.le_refl _) _).alloc (by simp) _).alloc (by simp; omega) _).alloc (by simp; omega) _⟩

/-- the bits at some places behind a place -/
def bitsB (zs : List UInt8) (i : Nat) (pre : List Nat) : List Nat := pre.map fun k => bt zs (i + k)
theorem bitsB_snoc (zs : List UInt8) (i : Nat) (pre : List Nat) (x : Nat) : bitsB zs i (pre ++ [x]) = bitsB zs i pre ++ [bt zs (i + x)] := by simp [bitsB]
theorem bitsB_range (zs : List UInt8) (i n : Nat) : bitsB zs i (List.range n) = zbits zs i n := rfl
/-- the boxes of a call of Get -/
structure GetBoxes (W : World) (m b here : Nat) (g n e : Int) : Prop where
  tree : W.heap[m]? = some (.cells #[.pointer (some ⟨b, 0, none⟩)] 47 (0, 0))
  ra : W.heap[m + 1]? = some (.cells #[.int .i64 g] 3 (0, 0))
  rb : W.heap[m + 1 + 1]? = some (.cells #[.int .i64 n] 3 (0, 0))
  rc : W.heap[m + 1 + 1 + 1]? = some (.cells #[.int .i64 e] 25 (0, 0))
  at_ : W.heap[m + 1 + 1 + 1 + 1]? = some (.cells #[.int .i64 here] 3 (0, 0))
theorem GetBoxes.kept {W W' : World} {row : Option Nat} {m b here : Nat} {g n e : Int} (h : GetBoxes W m b here g n e) (hg : W.grownBy W' row) (hr : ∀ r, row = some r → ∃ o : Obj, W.heap[r]? = some o ∧ o.isCells = false) : GetBoxes W' m b here g n e :=
  ⟨(grownBy_keeps_cells hg hr h.tree rfl).trans h.tree, (grownBy_keeps_cells hg hr h.ra rfl).trans h.ra, (grownBy_keeps_cells hg hr h.rb rfl).trans h.rb, (grownBy_keeps_cells hg hr h.rc rfl).trans h.rc, (grownBy_keeps_cells hg hr h.at_ rfl).trans h.at_⟩
theorem GetBoxes.setAt {W : World} {m b here : Nat} {g n e : Int} (h : GetBoxes W m b here g n e) (k : Nat) : GetBoxes (W.setCell ⟨m + 1 + 1 + 1 + 1, 0, none⟩ (.int .i64 k)) m b k g n e :=
  ⟨(Below.heap_setCell _ _ _ _ (by intro e; have e : m = _ := e; simp at e; omega)).trans h.tree, (Below.heap_setCell _ _ _ _ (by simp)).trans h.ra, (Below.heap_setCell _ _ _ _ (by simp)).trans h.rb, (Below.heap_setCell _ _ _ _ (by simp)).trans h.rc, heap_setCell_same W _ 0 _ _ _ h.at_⟩
theorem GetBoxes.drew {W : World} {m b here : Nat} {g n e : Int} (h : GetBoxes W m b here g n e) : GetBoxes W.drew m b here g n e := ⟨h.tree, h.ra, h.rb, h.rc, h.at_⟩
theorem GetBoxes.alloc {W : World} {m b here : Nat} {g n e : Int} (h : GetBoxes W m b here g n e) (o : Obj) : GetBoxes (W.alloc o) m b here g n e := ⟨heap_keep h.tree o, heap_keep h.ra o, heap_keep h.rb o, heap_keep h.rc o, heap_keep h.at_ o⟩
theorem GetBoxes.setR {W : World} {m b here : Nat} {g n e : Int} (h : GetBoxes W m b here g n e) (g' n' e' : Int) : GetBoxes (((W.setCell ⟨m + 1, 0, none⟩ (.int .i64 g')).setCell ⟨m + 1 + 1, 0, none⟩ (.int .i64 n')).setCell ⟨m + 1 + 1 + 1, 0, none⟩ (.int .i64 e')) m b here g' n' e' := by
  have k : ∀ {W : World} {j q : Nat} {o : Obj} (v : Value), W.heap[j]? = some o → j ≠ q → (W.setCell ⟨q, 0, none⟩ v).heap[j]? = some o := fun v h hne => (Below.heap_setCell _ _ _ _ hne).trans h
  exact ⟨k _ (k _ (k _ h.tree (by omega)) (by omega)) (by omega), k _ (k _ (heap_setCell_same W _ 0 _ _ _ h.ra) (by omega)) (by omega), k _ (heap_setCell_same _ _ 0 _ _ _ (k _ h.rb (by omega))) (by omega), heap_setCell_same _ _ 0 _ _ _ (k _ (k _ h.rc (by omega)) (by omega)), k _ (k _ (k _ h.at_ (by omega)) (by omega)) (by omega)⟩

theorem KpB.drewn {m bx by_ : Nat} {A B : World} (h : KpB m bx by_ A B) : KpB m bx by_ A B.drew := ⟨h.1.drew, h.2.1, h.2.2⟩
/-- between two rounds of Get -/
structure GetI (w : World) (b : Nat) (P cs : List (List Nat)) (L : List Nat) (W : World) : Prop where
  below : Below w.heap.size w W
  size : w.heap.size + 7 ≤ W.heap.size
  mem : L ∈ P
  opn : Open cs L
  boxes : GetBoxes W w.heap.size b (place P L) 0 0 0
/-- Get's answer, at some bits -/
def GetA (cs : List ByteArray) (ns : List Int) (P : List (List Nat)) (L : List Nat) (g n e : Int) : Prop :=
  (∃ i, i < cs.length ∧ bitsL (cs[i]?.getD ⟨#[]⟩) = L ∧ g = ns[i]?.getD 0 ∧ n = L.length ∧ e = 0) ∨ (g = 0 ∧ n = 0 ∧ e = 7 ∧ ∃ L' x, L = L' ++ [x] ∧ L' ∈ P ∧ Open (cs.map bitsL) L' ∧ L ∉ P)
structure GetX (w : World) (b : Nat) (cs : List ByteArray) (ns : List Int) (P : List (List Nat)) (L : List Nat) (W : World) : Prop where
  below : Below w.heap.size w W
  is : ∃ g n e here, GetA cs ns P L g n e ∧ GetBoxes W w.heap.size b here g n e

set_option maxRecDepth 100000 in
set_option maxHeartbeats 4000000 in
theorem getP_in (n : Nat) (hn : 4 ≤ n) {n₀ m₁ n₁ : Nat} {w : World} {b : Nat} {cs : List ByteArray} {ns : List Int} (h : IsPT n₀ m₁ w b cs ns) {sv : Value} {zs : List UInt8} (hB : Byt n₁ w sv zs) (hn1 : n₁ ≤ w.heap.size) (hl : zs.length ≤ 1099511627776) (x : Nat) (hx : x ≤ 9223372036854775807) :
    CallsIn Fence.wide n Tryd.prog 28 #[.pointer (some ⟨b, 0, none⟩), sv, .int .i64 x] w fun e w' => e = .returned (getT cs ns zs (x : Int)) ∧ Below w.heap.size w w' := by
  have hn1' : 1 ≤ n := by omega
  have hn3 : 1 ≤ n - 1 - 1 := by omega
  have HBy := Lib.hid hB
  obtain ⟨a, cap, rfl, _, _⟩ := hB
  have hB4 : Below w.heap.size w ((((w.alloc (Obj.cells #[Value.pointer (some { block := b, off := 0 })] 47)).alloc (Obj.cells #[Value.int IntKind.i64 0] 3)).alloc (Obj.cells #[Value.int IntKind.i64 0] 3)).alloc (Obj.cells #[Value.int IntKind.i64 0] 25)) :=
    ((((Below.refl _ w).alloc (Nat.le_refl _) _).alloc (by simp) _).alloc (by simp; omega) _).alloc (by simp; omega) _
  have HM := Lib.hid (isPT_made (h.keep (S := fun _ => False) (bar_of_below hB4) (fun _ _ _ e => e)))
  have HPT := Lib.hid h
  have hd : decide ((x : Int) < 0) = false := by simp
  clear h
  refine callsIn_of_wp_marks Tryd.func28 rfl trivial ?_ rfl
  simp only [Tryd.ntmps28, List.size_toArray, List.length_cons, List.length_nil, Nat.reduceAdd, Nat.reduceSub, Array.replicate_succ, Array.replicate_zero, List.push_toArray, List.append_toArray, List.nil_append, List.cons_append]
  gi_wp2_with (first | (refine ⟨trivial, ?_⟩; gi_at_call 42; refine (callsIn_wide.2 HM.out).mono ?_; rintro e w' ⟨rfl, rfl⟩) | (refine ⟨trivial, ?_⟩; gi_at_call 43; refine (pbitsOn_in Fence.wide (n - 1) trivial rfl _ _ _ _ _).mono ?_; rintro e w' ⟨rfl, rfl⟩))
  have hB7 : Below w.heap.size w (((((((w.alloc (Obj.cells #[Value.pointer (some { block := b, off := 0 })] 47)).alloc (Obj.cells #[Value.int IntKind.i64 0] 3)).alloc (Obj.cells #[Value.int IntKind.i64 0] 3)).alloc (Obj.cells #[Value.int IntKind.i64 0] 25)).alloc (Obj.cells #[Value.int IntKind.i64 0] 3)).alloc (Obj.cells #[Value.slice a zs.length cap] 22)).alloc (Obj.cells #[Value.int IntKind.i64 x] 3)) :=
    ((hB4.alloc (by simp; omega) _).alloc (by simp; omega) _).alloc (by simp; omega) _
  obtain ⟨P, be, bf, g, fE, fF, nE, nF, cF, q1, hN, hH, hOk, hlen, hE, hEo, q2, q3⟩ := HPT.out
  clear q1 q2 q3
  have hb := hN.lt
  have hbe := hE.lt
  have hg : g < w.heap.size := by
    rcases hN.row with hr | hr
    · exact hr.1
    · have := hH.paths.pos; rw [hr] at this; simp at this
  have hPf := hN.few
  have HNo := Lib.hid hN
  have HHo := Lib.hid hH
  have HOk := Lib.hid hOk
  have HE := Lib.hid hE
  have HEo := Lib.hid hEo
  have hcl := hlen.1
  clear hN hH hOk hE hEo hlen
  refine wpIn_rangeFunc_ownF rfl hn1' (gf := 58) (lb := #[.pointer (some ⟨w.heap.size + 1 + 1 + 1 + 1 + 1 + 1, 0, none⟩), .pointer (some ⟨w.heap.size + 1 + 1 + 1 + 1 + 1, 0, none⟩)]) rfl trivial (enters_of Tryd.func58 (by kernel_rfl) rfl)
    (pbitsOn_stops (n - 1) (by omega) w.heap.size (w.heap.size + 1 + 1 + 1 + 1 + 1) (w.heap.size + 1 + 1 + 1 + 1 + 1 + 1) x n₁ (.slice a zs.length cap) zs _ hx (by simp; omega) hn1 (by simp) (by simp) (by go_simp) (by go_simp) (HBy.out.below (hB7.mono hn1))) KpB.t (KpB.b (by simp; omega) (by simp) (by simp)) (Below.refl _ _) (fun _ => rfl)
    (fun pre W => GetI w b P (cs.map bitsL) (bitsB zs x pre) W)
    (fun c pre W => c = .ret ∧ GetX w b cs ns P (bitsB zs x pre) W)
    ?own ?ownx
    ?start
    (fun k => { tmps := #[Value.pointer (some { block := b, off := 0 }), Value.slice a zs.length cap, Value.int IntKind.i64 x,
          Value.pointer (some { block := w.heap.size, off := 0 }), undef, undef,
          Value.pointer (some { block := w.heap.size + 1, off := 0 }),
          Value.pointer (some { block := w.heap.size + 1 + 1, off := 0 }),
          Value.pointer (some { block := w.heap.size + 1 + 1 + 1, off := 0 }),
          Value.pointer (some { block := w.heap.size + 1 + 1 + 1 + 1, off := 0 }), .int .i64 (bt zs (x + k)), undef,
          Value.pointer (some { block := b, off := 0 }), Value.bool true, Value.bool false, Value.int IntKind.i64 x,
          Value.bool false, Value.slice a zs.length cap, Value.int IntKind.i64 x,
          Value.func (Fn.func 58) #[]
            #[Value.pointer (some { block := w.heap.size + 1 + 1 + 1 + 1 + 1 + 1, off := 0 }),
              Value.pointer (some { block := w.heap.size + 1 + 1 + 1 + 1 + 1, off := 0 })],
          .int .i64 (bt zs (x + k)), undef, undef, undef, undef, undef, undef, undef, undef, undef, undef, undef, undef, undef, undef,
          undef, undef, undef, undef, undef, undef, undef, undef, undef, undef], defers := [] }) ?assign ?body ?done ?stop
  case own =>
    intro pre A B row hI hg' hr
    have hr2 : ∀ r, row = some r → ∃ o : Obj, A.heap[r]? = some o ∧ o.isCells = false := fun r e => (hr r e).2
    obtain ⟨h1, h2, h3, h4, h5⟩ := hI
    exact ⟨h1.grown hg' h1.size (fun r e => by have := (hr r e).1; simp at this; omega), Nat.le_trans h2 hg'.size, h3, h4, h5.kept hg' hr2⟩
  case ownx =>
    intro c pre A B row hI hg' hr
    have hr2 : ∀ r, row = some r → ∃ o : Obj, A.heap[r]? = some o ∧ o.isCells = false := fun r e => (hr r e).2
    obtain ⟨hc, h1, g1, n1, e1, here, h2, h3⟩ := hI
    exact ⟨hc, h1.grown hg' h1.size (fun r e => by have := (hr r e).1; simp at this; omega), g1, n1, e1, here, h2, h3.kept hg' hr2⟩
  case start =>
    refine ⟨hB7, by simp, HHo.out.paths.nil_mem, fun c hc hp => ?_, ?_⟩
    · exact HOk.out.2.1 c hc (List.prefix_nil.1 hp)
    · have e0 : place P (bitsB zs x []) = 0 := HHo.out.paths.place_of HHo.out.paths.root
      rw [e0]
      exact ⟨heap_keep (heap_keep (heap_keep (heap_keep (heap_keep (heap_keep (heap_new _ rfl _) _) _) _) _) _) _, heap_keep (heap_keep (heap_keep (heap_keep (heap_keep (heap_new _ (by simp) _) _) _) _) _) _, heap_keep (heap_keep (heap_keep (heap_keep (heap_new _ (by simp) _) _) _) _) _,
        heap_keep (heap_keep (heap_keep (heap_new _ (by simp) _) _) _) _, heap_keep (heap_keep (heap_new _ (by simp) _) _) _⟩
  case assign =>
    intro l k W K hK
    gi_wp2
    exact hK
  case body =>
    rintro l pre k W ⟨hBW, hW, hmem, hopn, hX⟩ hlt
    have hbb : bt zs (x + k) < 2 := by have := bt_le zs (x + k); omega
    have HL := Lib.hid (bitsB_snoc zs x pre k)
    have hN := HNo.out.keep (S := fun j => w.heap.size ≤ j) ⟨hBW.os, hBW.tape, hBW.output, hBW.size, fun j hj hn => hBW.block j (by omega)⟩ (by omega) (by omega)
    have hEW := HE.out.block (hBW.block be hbe)
    obtain ⟨c0, _⟩ := one_cell hX.tree
    obtain ⟨c1, f1⟩ := one_cell hX.ra
    obtain ⟨c2, f2⟩ := one_cell hX.rb
    obtain ⟨c3, f3⟩ := one_cell hX.rc
    obtain ⟨c4, f4⟩ := one_cell hX.at_
    have hpl := place_lt hmem
    have hLl : (bitsB zs x pre).length ≤ pre.length := by simp [bitsB]
    have hbk : W.cell? ⟨g, place P (bitsB zs x pre) * 2 + bt zs (x + k), none⟩ = some (.int .i64 (place P (bitsB zs x pre ++ [bt zs (x + k)]))) := by
      have hk := hN.kids hpl
      rw [kid_at hmem, kid_at hmem] at hk
      rcases (by omega : bt zs (x + k) = 0 ∨ bt zs (x + k) = 1) with e | e
      · rw [e]; exact hk.1
      · rw [e]; exact hk.2
    obtain ⟨cap4, xs, e1, _, _⟩ := hN.is
    obtain ⟨t0, t1, t2, t3⟩ := p_cells e1
    clear e1
    generalize bitsB zs x pre = L at *
    generalize bt zs (x + k) = bb at *
    generalize hq : place P (L ++ [bb]) = q at *
    generalize hpp : place P L = here at *
    have HQ := Lib.hid hq
    have HP := Lib.hid hpp
    have HBW := Lib.hid hBW
    clear hq hpp hBW
    gi_wp2
    refine wpIn_mono (Q := fun e aa w' => e = .normal ∧ aa = { tmps := #[Value.pointer (some { block := b, off := 0 }), Value.slice a zs.length cap, Value.int IntKind.i64 x,
          Value.pointer (some { block := w.heap.size, off := 0 }), undef, undef,
          Value.pointer (some { block := w.heap.size + 1, off := 0 }),
          Value.pointer (some { block := w.heap.size + 1 + 1, off := 0 }),
          Value.pointer (some { block := w.heap.size + 1 + 1 + 1, off := 0 }),
          Value.pointer (some { block := w.heap.size + 1 + 1 + 1 + 1, off := 0 }), .int .i64 bb, undef,
          Value.pointer (some { block := b, off := 0 }), Value.bool true, Value.bool false, Value.int IntKind.i64 x,
          Value.bool false, Value.slice a zs.length cap, Value.int IntKind.i64 x,
          Value.func (Fn.func 58) #[]
            #[Value.pointer (some { block := w.heap.size + 1 + 1 + 1 + 1 + 1 + 1, off := 0 }),
              Value.pointer (some { block := w.heap.size + 1 + 1 + 1 + 1 + 1, off := 0 })],
          .int .i64 bb, .pointer (some ⟨b, 0, none⟩), .pointer (some ⟨b, 0, none⟩), .pointer (some ⟨b, 1, none⟩), .slice (some ⟨g, 0, none⟩) P.length cap4, .int .i64 here, .int .i64 bb,
          .pointer (some ⟨g, here * 2, none⟩), .pointer (some ⟨g, here * 2 + bb, none⟩), .int .i64 q, undef, undef, undef, undef, undef,
          undef, undef, undef, undef, undef, undef, undef, undef, undef, undef], defers := [] } ∧ w' = (W.setCell ⟨w.heap.size + 1 + 1 + 1 + 1, 0, none⟩ (.int .i64 q)).drew) ?reg ?rest
    case reg =>
      gi_region
      all_goals exact ⟨rfl, rfl, rfl⟩
    case rest =>
      rintro e a' w' ⟨rfl, rfl, rfl⟩
      have hN2 := (hN.keep (bar_set1 W (w.heap.size + 1 + 1 + 1 + 1) (.int .i64 q)) (by omega) (by omega)).keep (S := fun _ => False) (Bar.refl _ _).drew id id
      have hX2 := (hX.setAt q).drew
      have hB2 : Below w.heap.size w (W.setCell ⟨w.heap.size + 1 + 1 + 1 + 1, 0, none⟩ (.int .i64 q)).drew := (HBW.out.setCell (p := ⟨w.heap.size + 1 + 1 + 1 + 1, 0, none⟩) (by simp; omega) _).drew
      have hE2 : CMap (W.setCell ⟨w.heap.size + 1 + 1 + 1 + 1, 0, none⟩ (.int .i64 q)).drew be nE fE cs.length := HE.out.block (hB2.block be hbe)
      by_cases hm : L ++ [bb] ∈ P
      · have hq1 : ((q : Int) == 0) = false := by
          rw [beq_eq_false_iff_ne, ← HQ.out]
          have := (HHo.out.paths.zero (q := L ++ [bb]) (by simp)).1
          exact fun e => this (by omega) hm
        have hql : q < P.length := by rw [← HQ.out]; exact place_lt hm
        have hEnd := isEnd_any hN2 hql
        have hleaf : leafB P q = decide (L ++ [bb] ∈ cs.map bitsL) := by
          unfold leafB
          rw [← HQ.out, kid_at hm, kid_at hm]
          exact decide_eq_decide.2 (HHo.out.leaf HOk.out.2 hm (by simp))
        rw [hleaf] at hEnd
        by_cases hc : L ++ [bb] ∈ cs.map bitsL
        · rw [decide_eq_true hc] at hEnd
          have HEnd := Lib.hid hEnd
          obtain ⟨i, hi, hie⟩ := List.getElem_of_mem hc
          rw [List.length_map] at hi
          have hi2 : bitsL (cs[i]?.getD ⟨#[]⟩) = L ++ [bb] := by rw [List.getElem?_eq_getElem hi, Option.getD_some, ← hie, List.getElem_map]
          have hfe := HEo.out.1 i hi
          rw [hi2, HQ.out] at hfe
          have z0 : w.heap.size < W.heap.size := by omega
          have z1 : w.heap.size + 1 < W.heap.size := by omega
          have z2 : w.heap.size + 1 + 1 < W.heap.size := by omega
          have z3 : w.heap.size + 1 + 1 + 1 < W.heap.size := by omega
          have z4 : w.heap.size + 1 + 1 + 1 + 1 < W.heap.size := by omega
          have zb : b < W.heap.size := by omega
          have hl1 := hE2.drew.look (x := (q : Int)) (by omega) (by omega)
          have hE3 : CMap (W.setCell ⟨w.heap.size + 1 + 1 + 1 + 1, 0, none⟩ (.int .i64 q)) be nE fE cs.length := hE2
          have hl2 := (hE3.alloc (.cells #[.int .i64 0, .int .i64 0, .int .i64 0] 71)).drew.drew.look (x := (q : Int)) (by omega) (by omega)
          rw [hfe] at hl1 hl2
          have HI2 := Lib.hid hi2
          have hm24 : (cs[i]?.getD ⟨#[]⟩).size = (L ++ [bb]).length := by rw [← hi2, bitsL_len]
          have HSz := Lib.hid hm24
          unfold codeOf at hl1 hl2
          simp only [Option.getD_some] at hl1 hl2
          clear hEnd hc hm hleaf hie hi2 hfe hm24 hX2 hB2 hN2 hE2 hE3
          generalize hnum : ns[i]?.getD 0 = num at *
          have HNum := Lib.hid hnum
          clear hnum
          generalize (cs[i]?.getD ⟨#[]⟩).size = sz at *
          generalize numOf (bitsL (cs[i]?.getD ⟨#[]⟩)) = nu at *
          gi_wp2_with (refine ⟨trivial, ?_⟩; gi_at_call 44; refine (CallsIn.inRound l (callsIn_wide.2 HEnd.out)).mono ?_; rintro e w2 ⟨rfl, rfl⟩)
          refine wpIn_mono (Q := fun e aa w' => e = .normal ∧ aa = { tmps := #[Value.pointer (some { block := b, off := 0 }), Value.slice a zs.length cap, Value.int IntKind.i64 x,
            Value.pointer (some { block := w.heap.size, off := 0 }), undef, undef,
            Value.pointer (some { block := w.heap.size + 1, off := 0 }),
            Value.pointer (some { block := w.heap.size + 1 + 1, off := 0 }),
            Value.pointer (some { block := w.heap.size + 1 + 1 + 1, off := 0 }),
            Value.pointer (some { block := w.heap.size + 1 + 1 + 1 + 1, off := 0 }), .int .i64 bb, .pointer (some ⟨W.heap.size, 0, none⟩),
            Value.pointer (some { block := b, off := 0 }), Value.bool true, Value.bool false, Value.int IntKind.i64 x,
            Value.bool false, Value.slice a zs.length cap, Value.int IntKind.i64 x,
            Value.func (Fn.func 58) #[]
              #[Value.pointer (some { block := w.heap.size + 1 + 1 + 1 + 1 + 1 + 1, off := 0 }),
                Value.pointer (some { block := w.heap.size + 1 + 1 + 1 + 1 + 1, off := 0 })],
            .int .i64 bb, .pointer (some ⟨b, 0, none⟩), .pointer (some ⟨b, 0, none⟩), .pointer (some ⟨b, 1, none⟩), .slice (some ⟨g, 0, none⟩) P.length cap4, .int .i64 here, .int .i64 bb,
            .pointer (some ⟨g, here * 2, none⟩), .pointer (some ⟨g, here * 2 + bb, none⟩), .int .i64 q, .int .i64 q, .bool false, .pointer (some ⟨b, 0, none⟩), .int .i64 q, .bool true,
            .pointer (some ⟨b, 0, none⟩), .pointer (some ⟨b, 0, none⟩), .pointer (some ⟨b, 2, none⟩), .map (some be), .int .i64 q, .agg #[.int .i64 num, .int .i64 nu, .int .i64 sz], undef, undef, undef, undef], defers := [] } ∧
              w' = ((W.setCell ⟨w.heap.size + 1 + 1 + 1 + 1, 0, none⟩ (.int .i64 q)).alloc (.cells #[.int .i64 num, .int .i64 nu, .int .i64 sz] 71)).drew.drew) ?reg2 ?rest2
          case reg2 =>
            gi_region
            all_goals exact ⟨rfl, rfl, rfl⟩
          case rest2 =>
            rintro e a' w' ⟨rfl, rfl, rfl⟩
            gi_wp2
            gi_region
            all_goals gi_wp2
            all_goals exact ⟨(((((KeepsOthers.setCell _ _ _).trans (KeepsOthers.setCell _ _ _)).trans (KeepsOthers.setCell _ _ _)).trans (KeepsOthers.setCell _ _ _)).trans (KeepsOthers.alloc _ _)).trans (((KeepsOthers.drew _).trans (KeepsOthers.drew _)).trans (KeepsOthers.drew _)), rfl,
              (((((((HBW.out.setCell (p := ⟨w.heap.size + 1 + 1 + 1 + 1, 0, none⟩) (by simp; omega) _).setCell (p := ⟨w.heap.size + 1, 0, none⟩) (by simp) _).setCell (p := ⟨w.heap.size + 1 + 1, 0, none⟩) (by simp; omega) _).setCell (p := ⟨w.heap.size + 1 + 1 + 1, 0, none⟩) (by simp; omega) _).alloc (by simp; omega) _).drew).drew).drew,
              num, sz, 0, q, .inl ⟨i, hi, by rw [HL.out]; exact HI2.out, HNum.out.symm, by rw [HL.out, HSz.out], rfl⟩, ((((((hX.setAt q).setR num sz 0).alloc _).drew).drew).drew)⟩
        · rw [decide_eq_false hc] at hEnd
          have HEnd := Lib.hid hEnd
          have HC := Lib.hid hc
          have HM2 := Lib.hid hm
          clear hEnd hc hm hleaf hX2 hB2 hN2 hE2
          gi_wp2_with (refine ⟨trivial, ?_⟩; gi_at_call 44; refine (CallsIn.inRound l (callsIn_wide.2 HEnd.out)).mono ?_; rintro e w2 ⟨rfl, rfl⟩)
          refine ⟨(KeepsOthers.setCell _ _ _).trans (KeepsOthers.drew _), (KpB.rfl.set (p := ⟨w.heap.size + 1 + 1 + 1 + 1, 0, none⟩) _ (by simp; omega) (by simp) (by simp)).drewn, ?_⟩
          refine ⟨(HBW.out.setCell (p := ⟨w.heap.size + 1 + 1 + 1 + 1, 0, none⟩) (by simp; omega) _).drew, by simpa using hW, by rw [HL.out]; exact HM2.out, ?_, ?_⟩
          · rw [HL.out]
            intro c hcc hp
            rcases List.prefix_concat_iff.1 hp with e | e
            · subst e; exact HC.out hcc
            · exact hopn c hcc e
          · rw [HL.out, HQ.out]
            exact (hX.setAt q).drew
      · have hq0 : q = 0 := by rw [← HQ.out]; exact place_no hm
        subst hq0
        have HMm := Lib.hid hm
        have HX2 := Lib.hid hX2
        have HB2 := Lib.hid hB2
        clear hm hX2 hB2 hN2 hE2
        gi_wp2
        exact ⟨((((KeepsOthers.setCell _ _ _).trans (KeepsOthers.setCell _ _ _)).trans (KeepsOthers.setCell _ _ _)).trans (KeepsOthers.setCell _ _ _)).trans (KeepsOthers.drew _), rfl,
          ((((HBW.out.setCell (p := ⟨w.heap.size + 1 + 1 + 1 + 1, 0, none⟩) (by simp; omega) _).setCell (p := ⟨w.heap.size + 1, 0, none⟩) (by simp) _).setCell (p := ⟨w.heap.size + 1 + 1, 0, none⟩) (by simp; omega) _).setCell (p := ⟨w.heap.size + 1 + 1 + 1, 0, none⟩) (by simp; omega) _).drew,
          0, 0, 7, 0, .inr ⟨rfl, rfl, rfl, L, bb, HL.out, hmem, hopn, by rw [HL.out]; exact HMm.out⟩, ((hX.setAt 0).setR 0 0 7).drew⟩
  case done =>
    rintro D ys W hD rfl ⟨hBW, hW, hmem, hopn, hX⟩ hK
    rw [bitsB_range] at hmem hopn hX
    have hD' : w.heap.size ≤ D := by simp only [World.size_alloc] at hD; omega
    have hpre : ∃ c ∈ cs.map bitsL, zbits zs x (zs.length * 8 - x) <+: c := by
      rcases (HHo.out.mem _).1 hmem with e | e
      · rw [e]
        exact ⟨bitsL cs[0], CodesOk.mem hcl, List.nil_prefix⟩
      · exact e
    have HT := Lib.hid (getT_more (nums := ns) HOk.out (by omega : zs.length * 8 - x = 8 * zs.length - x) hopn hpre)
    obtain ⟨c1, f1⟩ := one_cell hX.ra
    obtain ⟨c2, f2⟩ := one_cell hX.rb
    obtain ⟨c3, f3⟩ := one_cell hX.rc
    clear hpre hopn hmem
    gi_wp2
    have hKO : KeepsOthers W (((W.setCell ⟨w.heap.size + 1, 0, none⟩ (.int .i64 0)).setCell ⟨w.heap.size + 1 + 1, 0, none⟩ (.int .i64 0)).setCell ⟨w.heap.size + 1 + 1 + 1, 0, none⟩ (.int .i64 5)) := ((KeepsOthers.setCell _ _ _).trans (KeepsOthers.setCell _ _ _)).trans (KeepsOthers.setCell _ _ _)
    have hK' := hKO.same D _ hK rfl
    refine ⟨by simp, .inl ⟨_, _, rfl, run_takeDeferred hK', ?_⟩⟩
    have hX5 := (hX.setR 0 0 5).kept (grownBy_putObj' _ D (.deferred none)) (fun r e => by cases e; exact ⟨_, hK', rfl⟩)
    have g0 := (one_cell hX5.ra).1
    have g1 := (one_cell hX5.rb).1
    have g2 := (one_cell hX5.rc).1
    refine ⟨.tuple #[.int .i64 0, .int .i64 0, .int .i64 5], by simp [results, Tryd.f28, go_sem, g0, g1, g2], by rw [HT.out], ?_⟩
    exact (((hBW.setCell (p := ⟨w.heap.size + 1, 0, none⟩) (by simp) _).setCell (p := ⟨w.heap.size + 1 + 1, 0, none⟩) (by simp; omega) _).setCell (p := ⟨w.heap.size + 1 + 1 + 1, 0, none⟩) (by simp; omega) _).trans (belowK_b (w := w) (Nat.le_refl _) _ D _ _ hD' hK' rfl rfl)
  case stop =>
    rintro D c pre W hD ⟨k, hk, rfl⟩ ⟨rfl, hBW, g', n', e', here, hA, hX⟩ hK
    rw [bitsB_range] at hA
    have hD' : w.heap.size ≤ D := by simp only [World.size_alloc] at hD; omega
    have HT : Hid (getT cs ns zs (x : Int) = .tuple #[.int .i64 g', .int .i64 n', .int .i64 e']) := by
      show getT cs ns zs (x : Int) = _
      rcases hA with ⟨i, hi, h1, rfl, rfl, rfl⟩ | ⟨rfl, rfl, rfl, L', y, h1, h2, h3, h4⟩
      · rw [List.getElem?_eq_getElem hi, Option.getD_some] at h1
        rw [getT_found HOk.out hi (by omega : k + 1 ≤ 8 * zs.length - x) h1, zbits_len]
      · rw [zbits_succ] at h1
        have h5 := (List.append_inj' h1 rfl).1
        subst h5
        refine getT_code HOk.out hcl (by omega : k < 8 * zs.length - x) h3 ?_ ?_
        · rcases (HHo.out.mem _).1 h2 with e | e
          · left
            have := congrArg List.length e
            rw [zbits_len] at this
            exact this
          · exact .inr e
        · intro c hc hp
          exact h4 ((HHo.out.mem _).2 (.inr ⟨c, hc, hp⟩))
    clear hA
    gi_wp2
    refine ⟨by simp, .inl ⟨_, _, rfl, run_takeDeferred hK, ?_⟩⟩
    have hX5 := hX.kept (grownBy_putObj' _ D (.deferred none)) (fun r e => by cases e; exact ⟨_, hK, rfl⟩)
    have g0 := (one_cell hX5.ra).1
    have g1 := (one_cell hX5.rb).1
    have g2 := (one_cell hX5.rc).1
    refine ⟨.tuple #[.int .i64 g', .int .i64 n', .int .i64 e'], by simp [results, Tryd.f28, go_sem, g0, g1, g2], by rw [HT.out], ?_⟩
    exact hBW.trans (belowK_b (w := w) (Nat.le_refl _) _ D _ _ hD' hK rfl rfl)

theorem getP_any {n₀ m₁ n₁ : Nat} {w : World} {b : Nat} {cs : List ByteArray} {ns : List Int} (h : IsPT n₀ m₁ w b cs ns) {sv : Value} {zs : List UInt8} (hB : Byt n₁ w sv zs) (hn1 : n₁ ≤ w.heap.size) (hl : zs.length ≤ 1099511627776) (x : Int) (hx : x ≤ 9223372036854775807) :
    Calls Tryd.prog 28 #[.pointer (some ⟨b, 0, none⟩), sv, .int .i64 x] w fun e w' => e = .returned (getT cs ns zs x) ∧ Below w.heap.size w w' := by
  by_cases h0 : x < 0
  · have e : getT cs ns zs x = .tuple #[.int .i64 0, .int .i64 0, .int .i64 3] := by unfold getT; rw [if_pos h0]
    obtain ⟨a, cap, rfl, _, _⟩ := hB
    rw [e]
    exact getP_range h a _ cap x h0
  · obtain ⟨y, rfl⟩ := Int.eq_ofNat_of_zero_le (a := x) (by omega)
    exact callsIn_wide.1 (getP_in 4 (by omega) h hB hn1 hl y (by omega))

end Go.Proofs.YtichkoilhnkmkaaDoor
