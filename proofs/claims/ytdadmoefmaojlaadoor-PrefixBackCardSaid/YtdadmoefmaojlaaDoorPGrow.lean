/- The contract of prefix's grow. -/
import Derived.Test.YtdadmoefmaojlaaDoorPName
namespace Go.Proofs.YtdadmoefmaojlaaDoor
open Go.RowKit Go.Shelf
set_option linter.unusedVariables false
attribute [local go_sem] Oper.semAt_some

theorem Grown.same {P0 cs P : List (List Nat)} {T T' : List Nat} {k : Nat} {f : Bool} (h : Grown P0 cs T k P f) (e : T.take k = T'.take k) : Grown P0 cs T' k P f :=
  ⟨h.paths, by rw [← e]; exact h.mem, by rw [← e]; exact h.no, by rw [← e]; exact h.new, h.many, h.ext⟩
/-- behind some bits were laid -/
def GrownL (P0 cs : List (List Nat)) (L : List Nat) (P : List (List Nat)) (fresh : Bool) : Prop := Grown P0 cs L L.length P fresh
theorem GrownL.up {P0 cs P : List (List Nat)} {L : List Nat} {f : Bool} (h : GrownL P0 cs L P f) (b : Nat) : Grown P0 cs (L ++ [b]) L.length P f := Grown.same h (by simp)
theorem up_at (L : List Nat) (b : Nat) : (L ++ [b])[L.length]? = some b ∧ (L ++ [b]).take L.length = L := ⟨by simp, by simp⟩
theorem GrownL.lay {P0 cs P : List (List Nat)} {L : List Nat} {f : Bool} (h : GrownL P0 cs L P f) (hH : Holds P0 cs) {b : Nat} (hb : b < 2) (hm : L ++ [b] ∉ P) : GrownL P0 cs (L ++ [b]) (P ++ [L ++ [b]]) true := by
  have := (h.up b).lay hH (up_at L b).1 hb (by rw [(up_at L b).2]; exact hm)
  rw [(up_at L b).2] at this
  unfold GrownL
  rw [List.length_append, List.length_singleton]
  exact this
theorem GrownL.go {P0 cs P : List (List Nat)} {L : List Nat} {f : Bool} (h : GrownL P0 cs L P f) {b : Nat} (hm : L ++ [b] ∈ P) (hne : L ++ [b] ∉ cs) : GrownL P0 cs (L ++ [b]) P false := by
  have := (h.up b).go (up_at L b).1 (by rw [(up_at L b).2]; exact hm) (by rw [(up_at L b).2]; exact hne)
  unfold GrownL
  rw [List.length_append, List.length_singleton]
  exact this
theorem GrownL.leaf {P0 cs P : List (List Nat)} {L : List Nat} {f : Bool} (h : GrownL P0 cs L P f) (hH : Holds P0 cs) (hf : Free cs) {b : Nat} (hm : L ++ [b] ∈ P) : leafB P (place P (L ++ [b])) = decide (L ++ [b] ∈ cs) := by
  have := (h.up b).leaf hH hf (up_at L b).1 (by rw [(up_at L b).2]; exact hm)
  rw [(up_at L b).2] at this
  unfold leafB kid
  rw [place_get hm]
  exact decide_eq_decide.2 this
theorem GrownL.here {P0 cs P : List (List Nat)} {L : List Nat} {f : Bool} (h : GrownL P0 cs L P f) : L ∈ P := by
  have := Grown.here h
  rwa [List.take_length] at this
theorem grownL_start {P0 cs : List (List Nat)} (h : Holds P0 cs) (hf : Free cs) : GrownL P0 cs [] P0 false := grown_start h hf []
theorem kid_at {P : List (List Nat)} {L : List Nat} (h : L ∈ P) (b : Nat) : kid P (place P L) b = place P (L ++ [b]) := by
  unfold kid; rw [place_get h]; rfl

/-- the boxes of a call of grow, from block m on -/
structure GrowBoxes (W : World) (m b here : Nat) (fresh : Bool) : Prop where
  tree : W.heap[m]? = some (.cells #[.pointer (some ⟨b, 0, none⟩)] 28 (0, 0))
  ra : W.heap[m + 1]? = some (.cells #[.int .i64 0] 3 (0, 0))
  rb : W.heap[m + 1 + 1]? = some (.cells #[.bool false] 4 (0, 0))
  at_ : W.heap[m + 1 + 1 + 1]? = some (.cells #[.int .i64 here] 3 (0, 0))
  new : W.heap[m + 1 + 1 + 1 + 1]? = some (.cells #[.bool fresh] 4 (0, 0))
theorem one_cell {w : World} {b : Nat} {v : Value} {t : TypeId} (h : w.heap[b]? = some (.cells #[v] t (0, 0))) : w.cell? ⟨b, 0, none⟩ = some v ∧ w.frozen? ⟨b, 0, none⟩ = false :=
  ⟨by rw [Lib.cell_of_heap h]; rfl, Lib.frozen_of_heap h 0⟩
theorem GrowBoxes.kept {W W' : World} {row : Option Nat} {m b here : Nat} {fresh : Bool} (h : GrowBoxes W m b here fresh) (hg : W.grownBy W' row) (hr : ∀ r, row = some r → ∃ o : Obj, W.heap[r]? = some o ∧ o.isCells = false) : GrowBoxes W' m b here fresh :=
  ⟨(grownBy_keeps_cells hg hr h.tree rfl).trans h.tree, (grownBy_keeps_cells hg hr h.ra rfl).trans h.ra, (grownBy_keeps_cells hg hr h.rb rfl).trans h.rb, (grownBy_keeps_cells hg hr h.at_ rfl).trans h.at_, (grownBy_keeps_cells hg hr h.new rfl).trans h.new⟩
theorem GrowBoxes.bar {S : Nat → Prop} {W W' : World} {m b here : Nat} {fresh : Bool} (h : GrowBoxes W m b here fresh) (hb : Bar S W W') (hS : ∀ j, m ≤ j → j ≤ m + 4 → ¬ S j) : GrowBoxes W' m b here fresh := by
  have lt : ∀ {k : Nat} {o : Obj}, W.heap[k]? = some o → k < W.heap.size := fun h => (Array.getElem?_eq_some_iff.1 h).1
  exact ⟨(hb.block _ (lt h.tree) (hS _ (by omega) (by omega))).trans h.tree, (hb.block _ (lt h.ra) (hS _ (by omega) (by omega))).trans h.ra, (hb.block _ (lt h.rb) (hS _ (by omega) (by omega))).trans h.rb,
    (hb.block _ (lt h.at_) (hS _ (by omega) (by omega))).trans h.at_, (hb.block _ (lt h.new) (hS _ (by omega) (by omega))).trans h.new⟩
theorem Nodes.kept {W W' : World} {row : Option Nat} {n₀ b be bf g : Nat} {sf : Value} {P : List (List Nat)} (h : Nodes n₀ W b sf P be bf g) (hg : W.grownBy W' row) (hr : ∀ r, row = some r → ∃ o : Obj, W.heap[r]? = some o ∧ o.isCells = false) : Nodes n₀ W' b sf P be bf g := by
  obtain ⟨cap, xs, e1, e2, e3⟩ := h.is
  refine ⟨h.low, h.apart, h.few, ⟨Nat.lt_of_lt_of_le h.maps.1 hg.size, Nat.lt_of_lt_of_le h.maps.2 hg.size⟩, cap, xs, (grownBy_keeps_cells hg hr e1 rfl).trans e1, ?_, e3⟩
  rcases e2.2 with ⟨e, h0⟩ | ⟨g', cap', cur, e, hb', hgg, r⟩
  · cases e
  · exact ⟨e2.1, .inr ⟨g', cap', cur, e, hb', (grownBy_keeps_cells hg hr hgg rfl).trans hgg, r⟩⟩

theorem GrowBoxes.setNew {W : World} {m b here : Nat} {fresh : Bool} (h : GrowBoxes W m b here fresh) (f : Bool) : GrowBoxes (W.setCell ⟨m + 1 + 1 + 1 + 1, 0, none⟩ (.bool f)) m b here f :=
  ⟨(Below.heap_setCell _ _ _ _ (by intro e; have e : m = _ := e; simp at e; omega)).trans h.tree, (Below.heap_setCell _ _ _ _ (by simp)).trans h.ra, (Below.heap_setCell _ _ _ _ (by simp)).trans h.rb, (Below.heap_setCell _ _ _ _ (by simp)).trans h.at_, heap_setCell_same W _ 0 _ _ _ h.new⟩
theorem GrowBoxes.setAt {W : World} {m b here : Nat} {fresh : Bool} (h : GrowBoxes W m b here fresh) (k : Nat) : GrowBoxes (W.setCell ⟨m + 1 + 1 + 1, 0, none⟩ (.int .i64 k)) m b k fresh :=
  ⟨(Below.heap_setCell _ _ _ _ (by intro e; have e : m = _ := e; simp at e; omega)).trans h.tree, (Below.heap_setCell _ _ _ _ (by simp)).trans h.ra, (Below.heap_setCell _ _ _ _ (by simp)).trans h.rb, heap_setCell_same W _ 0 _ _ _ h.at_, (Below.heap_setCell _ _ _ _ (by simp)).trans h.new⟩
theorem GrowBoxes.drew {W : World} {m b here : Nat} {fresh : Bool} (h : GrowBoxes W m b here fresh) : GrowBoxes W.drew m b here fresh := ⟨h.tree, h.ra, h.rb, h.at_, h.new⟩
theorem bar_set1 (W : World) (k : Nat) (v : Value) : Bar (fun j => j = k) W (W.setCell ⟨k, 0, none⟩ v) := Bar.setCell (Bar.refl (fun j => j = k) W) (p := ⟨k, 0, none⟩) (fun _ => rfl) v

/-- between two rounds of grow -/
structure GrowI (n₀ : Nat) (w : World) (b : Nat) (sf : Value) (be bf g0 : Nat) (P0 cs : List (List Nat)) (L : List Nat) (W : World) : Prop where
  bar : Bar (fun j => j = b ∨ j = g0) w W
  size : w.heap.size + 6 ≤ W.heap.size
  is : ∃ P g fresh, GrownL P0 cs L P fresh ∧ Nodes n₀ W b sf P be bf g ∧ (g = g0 ∨ w.heap.size + 6 ≤ g) ∧ GrowBoxes W w.heap.size b (place P L) fresh
/-- a code was met -/
structure GrowX (n₀ : Nat) (w : World) (b g0 : Nat) (cs : List (List Nat)) (L : List Nat) (W : World) : Prop where
  bar : Bar (fun j => j = b ∨ j = g0) w W
  met : ∃ c ∈ cs, c <+: L
  ra : W.heap[w.heap.size + 1]? = some (.cells #[.int .i64 0] 3 (0, 0))
  rb : W.heap[w.heap.size + 1 + 1]? = some (.cells #[.bool false] 4 (0, 0))

theorem keeps_of_bar {S : Nat → Prop} {W W' : World} (hb : Bar S W W') (hS : ∀ k, S k → k < W.heap.size → ∃ o : Obj, W.heap[k]? = some o ∧ o.isCells = true) : KeepsOthers W W' := by
  refine ⟨hb.size, fun k o hk ho => ?_⟩
  have hlt := (Array.getElem?_eq_some_iff.1 hk).1
  refine (hb.block k hlt fun hs => ?_).trans hk
  obtain ⟨o', h1, h2⟩ := hS k hs hlt
  rw [hk] at h1
  cases h1
  rw [ho] at h2
  cases h2
/-- what a round of grow may change -/
def GrowS (m b g : Nat) : Nat → Prop := fun j => j = b ∨ j = g ∨ (m ≤ j ∧ j ≤ m + 4)
theorem grow_keeps {n₀ : Nat} {W W' : World} {m b be bf g here : Nat} {sf : Value} {P : List (List Nat)} {fresh : Bool} (hN : Nodes n₀ W b sf P be bf g) (hX : GrowBoxes W m b here fresh) (hb : Bar (GrowS m b g) W W') : KeepsOthers W W' := by
  refine keeps_of_bar hb fun k hk hlt => ?_
  rcases hk with rfl | rfl | ⟨h1, h2⟩
  · obtain ⟨cap, xs, e1, _⟩ := hN.is
    exact ⟨_, e1, rfl⟩
  · obtain ⟨cap, xs, _, e2, _⟩ := hN.is
    rcases e2.2 with ⟨e, _⟩ | ⟨g', cap', cur, e, _, hg, _⟩
    · cases e
    · cases e; exact ⟨_, hg, rfl⟩
  · rcases (by omega : k = m ∨ k = m + 1 ∨ k = m + 1 + 1 ∨ k = m + 1 + 1 + 1 ∨ k = m + 1 + 1 + 1 + 1) with rfl | rfl | rfl | rfl | rfl
    · exact ⟨_, hX.tree, rfl⟩
    · exact ⟨_, hX.ra, rfl⟩
    · exact ⟨_, hX.rb, rfl⟩
    · exact ⟨_, hX.at_, rfl⟩
    · exact ⟨_, hX.new, rfl⟩
theorem grow_kp {n₀ : Nat} {W W' : World} {m b g : Nat} (hb : Bar (GrowS m b g) W W') (h1 : n₀ ≤ b) (h2 : n₀ ≤ g) (h3 : n₀ ≤ m) (h4 : b ≠ m + 1 + 1 + 1 + 1 + 1) (h5 : g ≠ m + 1 + 1 + 1 + 1 + 1) (h6 : m + 6 ≤ W.heap.size) : KpB n₀ (m + 1 + 1 + 1 + 1 + 1) (m + 1 + 1 + 1 + 1 + 1) W W' := by
  have hc : W'.cell? ⟨m + 1 + 1 + 1 + 1 + 1, 0, none⟩ = W.cell? ⟨m + 1 + 1 + 1 + 1 + 1, 0, none⟩ := World.cell?_of_block (hb.block (m + 1 + 1 + 1 + 1 + 1) (by omega) (by rintro (e | e | e) <;> omega))
  exact ⟨hb.below (by omega) (fun k hk => by rintro (e | e | e) <;> omega), hc, hc⟩
theorem bar_grow1 {m b g k : Nat} (W : World) (v : Value) (h : m ≤ k) (h' : k ≤ m + 4) : Bar (GrowS m b g) W (W.setCell ⟨k, 0, none⟩ v) := (Bar.refl _ W).setCell (p := ⟨k, 0, none⟩) (fun _ => .inr (.inr ⟨h, h'⟩)) v
theorem Bar.wide {S T : Nat → Prop} {W W' : World} (h : Bar S W W') (hs : ∀ j, S j → T j) : Bar T W W' := ⟨h.os, h.tape, h.output, h.size, fun k hk hn => h.block k hk (fun e => hn (hs k e))⟩

/-- what grow answers -/
def GrewTo (n₀ : Nat) (w : World) (b : Nat) (sf : Value) (be bf g0 : Nat) (cs : List (List Nat)) (T : List Nat) (P0 : List (List Nat)) (e : Ending) (w' : World) : Prop :=
  Bar (fun j => j = b ∨ j = g0) w w' ∧
    ((∃ P g, e = .returned (.tuple #[.int .i64 (place P T), .bool true]) ∧ Holds P (cs ++ [T]) ∧ Free (cs ++ [T]) ∧ T ∉ P0 ∧ (∀ q, q ∈ P0 → place P q = place P0 q) ∧ T ∈ P ∧ P.length ≤ P0.length + T.length ∧ Nodes n₀ w' b sf P be bf g ∧ (g = g0 ∨ w.heap.size ≤ g)) ∨
     (∃ x, e = .returned (.tuple #[.int .i64 x, .bool false]) ∧ ∃ c ∈ cs, c <+: T ∨ T <+: c))

theorem heap_keep {w : World} {k : Nat} {o : Obj} (h : w.heap[k]? = some o) (o' : Obj) : (w.alloc o').heap[k]? = some o := (Below.heap_alloc _ _ _ (Array.getElem?_eq_some_iff.1 h).1).trans h
theorem heap_new {w : World} (m : Nat) (h : w.heap.size = m) (o : Obj) : (w.alloc o).heap[m]? = some o := by rw [← h]; exact World.alloc_heap_new w o
theorem GrownL.ends {P0 cs P : List (List Nat)} {T : List Nat} {f : Bool} (h : GrownL P0 cs T P f) (hH : Holds P0 cs) (hF : Free cs) (h0 : T ≠ []) :
    (f = true ∧ Holds P (cs ++ [T]) ∧ Free (cs ++ [T]) ∧ T ∉ P0 ∧ (∀ q, q ∈ P0 → place P q = place P0 q) ∧ T ∈ P ∧ P.length ≤ P0.length + T.length) ∨ (f = false ∧ ∃ c ∈ cs, c <+: T ∨ T <+: c) := by
  cases f with
  | true =>
    have h' : Grown P0 cs T T.length P true := h
    obtain ⟨h1, h2⟩ := h'.done hH hF
    have hnew := h'.new
    rw [List.take_length] at hnew
    exact .inl ⟨rfl, h1, h2, (of_decide_eq_true hnew.symm).2, fun q hq => h'.place_old hq, h.here, h'.many⟩
  | false =>
    have h' : Grown P0 cs T T.length P false := h
    obtain ⟨c, hc, hp⟩ := h'.stale hH h0
    exact .inr ⟨rfl, c, hc, .inr hp⟩

set_option maxRecDepth 100000 in
set_option maxHeartbeats 4000000 in
theorem grow_in (n : Nat) (hn : 4 ≤ n) {n₀ : Nat} {w : World} {b be bf g0 : Nat} {sf : Value} {P0 cs : List (List Nat)} (h : Nodes n₀ w b sf P0 be bf g0) (hH : Holds P0 cs) (hf : Free cs) (hn0 : n₀ ≤ w.heap.size) {s : ByteArray} (hs : AllBits s) (h1 : 1 ≤ s.size) (h24 : s.size ≤ 24) (hfew : P0.length + 24 ≤ 10000) :
    CallsIn Fence.wide n Tryd.prog 31 #[.pointer (some ⟨b, 0, none⟩), .string s] w fun e w' => GrewTo n₀ w b sf be bf g0 cs (bitsL s) P0 e w' := by
  have hn1 : 1 ≤ n := by omega
  have hn3 : 1 ≤ n - 1 - 1 := by omega
  have HS := Lib.hid hs
  have HHo := Lib.hid hH
  have HFr := Lib.hid hf
  clear hs hH hf
  refine callsIn_of_wp_marks Tryd.func31 rfl trivial ?_ rfl
  simp only [Tryd.ntmps31, List.size_toArray, List.length_cons, List.length_nil, Nat.reduceAdd, Nat.reduceSub, Array.replicate_succ, Array.replicate_zero, List.push_toArray, List.append_toArray, List.nil_append, List.cons_append]
  gi_wp2_with (refine ⟨trivial, ?_⟩; gi_at_call 51; refine (bitsOf_in Fence.wide (n - 1) trivial rfl _ _).mono ?_; rintro e w' ⟨rfl, rfl⟩)
  have hB6 : Bar (fun j => j = b ∨ j = g0) w ((((((w.alloc (Obj.cells #[Value.pointer (some { block := b, off := 0 })] 28)).alloc (Obj.cells #[Value.int IntKind.i64 0] 3)).alloc (Obj.cells #[Value.bool false] 4)).alloc (Obj.cells #[Value.int IntKind.i64 0] 3)).alloc (Obj.cells #[Value.bool false] 4)).alloc (Obj.cells #[Value.string s] 9)) :=
    ((((((Bar.refl _ w).alloc _).alloc _).alloc _).alloc _).alloc _).alloc _
  have hlt := h.lt
  have hg0 : g0 < w.heap.size := by
    rcases h.row with hr | hr
    · exact hr.1
    · have := HHo.out.paths.pos; rw [hr] at this; simp at this
  have hap := h.apart
  have hlow := h.low
  have hlowg : n₀ ≤ g0 := by
    rcases h.row with hr | hr
    · exact hr.2
    · have := HHo.out.paths.pos; rw [hr] at this; simp at this
  have HNo := Lib.hid h
  clear h
  refine wpIn_rangeFunc_ownF rfl hn1 (gf := 60) (lb := #[.pointer (some ⟨w.heap.size + 1 + 1 + 1 + 1 + 1, 0, none⟩)]) rfl trivial (enters_of Tryd.func60 (by kernel_rfl) rfl)
    (bitsOf_stops (n - 1) (by omega) n₀ (w.heap.size + 1 + 1 + 1 + 1 + 1) s HS.out (by omega) _ (by simp) (by go_simp)) KpB.t (KpB.b (by simp; omega) (by simp) (by simp)) (Below.refl _ _) (fun _ => rfl)
    (fun pre W => GrowI n₀ w b sf be bf g0 P0 cs (bitsAt s pre) W)
    (fun c pre W => c = .ret ∧ GrowX n₀ w b g0 cs (bitsAt s pre) W)
    ?own ?ownx
    ?start
    (fun x => { tmps := #[Value.pointer (some { block := b, off := 0 }), Value.string s,
          Value.pointer (some { block := w.heap.size, off := 0 }), undef,
          Value.pointer (some { block := w.heap.size + 1, off := 0 }),
          Value.pointer (some { block := w.heap.size + 1 + 1, off := 0 }),
          Value.pointer (some { block := w.heap.size + 1 + 1 + 1, off := 0 }),
          Value.pointer (some { block := w.heap.size + 1 + 1 + 1 + 1, off := 0 }), .int .i64 ((bitsL s)[x]?.getD 0 : Nat), undef, Value.string s,
          Value.func (Fn.func 60) #[] #[Value.pointer (some { block := w.heap.size + 1 + 1 + 1 + 1 + 1, off := 0 })],
          .int .i64 ((bitsL s)[x]?.getD 0 : Nat), undef, undef, undef, undef, undef, undef, undef, undef, undef, undef, undef, undef, undef, undef,
          undef, undef, undef, undef, undef, undef, undef, undef, undef, undef], defers := [] }) ?assign ?body ?done ?stop
  case own =>
    intro pre A B row hI hg hr
    have hr2 : ∀ r, row = some r → ∃ o : Obj, A.heap[r]? = some o ∧ o.isCells = false := fun r e => (hr r e).2
    obtain ⟨hb, hsz, P, g, fresh, h1, h2, h3, h4⟩ := hI
    exact ⟨hb.trans (bar_of_grown (S := fun j => w.heap.size ≤ j) hg (fun r e => by have := (hr r e).1; simp at this; omega)) (fun j hj (e : w.heap.size ≤ j) => by omega), Nat.le_trans hsz hg.size, P, g, fresh, h1, h2.kept hg hr2, h3, h4.kept hg hr2⟩
  case ownx =>
    intro c pre A B row hI hg hr
    have hr2 : ∀ r, row = some r → ∃ o : Obj, A.heap[r]? = some o ∧ o.isCells = false := fun r e => (hr r e).2
    obtain ⟨hc, hb, hm, ra, rb⟩ := hI
    exact ⟨hc, hb.trans (bar_of_grown (S := fun j => w.heap.size ≤ j) hg (fun r e => by have := (hr r e).1; simp at this; omega)) (fun j hj (e : w.heap.size ≤ j) => by omega), hm, (grownBy_keeps_cells hg hr2 ra rfl).trans ra, (grownBy_keeps_cells hg hr2 rb rfl).trans rb⟩
  case start =>
    refine ⟨hB6, by simp, P0, g0, false, grownL_start HHo.out HFr.out, HNo.out.keep (S := fun _ => False) ((((((Bar.refl _ w).alloc _).alloc _).alloc _).alloc _).alloc _ |>.alloc _) id id, .inl rfl, ?_⟩
    have e0 : place P0 (bitsAt s []) = 0 := HHo.out.paths.place_of HHo.out.paths.root
    rw [e0]
    exact ⟨heap_keep (heap_keep (heap_keep (heap_keep (heap_keep (heap_new _ rfl _) _) _) _) _) _, heap_keep (heap_keep (heap_keep (heap_keep (heap_new _ (by simp) _) _) _) _) _, heap_keep (heap_keep (heap_keep (heap_new _ (by simp) _) _) _) _,
      heap_keep (heap_keep (heap_new _ (by simp) _) _) _, heap_keep (heap_new _ (by simp) _) _⟩
  case assign =>
    intro l x W K hK
    gi_wp2
    exact hK
  case body =>
    rintro l pre x W ⟨hB, hW, P, g, fresh, hG, hN, hgg, hX⟩ hlt
    obtain ⟨c0, _⟩ := one_cell hX.tree
    obtain ⟨c1, f1⟩ := one_cell hX.ra
    obtain ⟨c2, f2⟩ := one_cell hX.rb
    obtain ⟨c3, f3⟩ := one_cell hX.at_
    obtain ⟨c4, f4⟩ := one_cell hX.new
    have hbb := bit_low HS.out x
    have HL := Lib.hid (bitsAt_snoc s pre x)
    have hpl := place_lt hG.here
    have hLl : (bitsAt s pre).length ≤ pre.length := by simp [bitsAt]
    have hbk : W.cell? ⟨g, place P (bitsAt s pre) * 2 + (bitsL s)[x]?.getD 0, none⟩ = some (.int .i64 (place P (bitsAt s pre ++ [(bitsL s)[x]?.getD 0]))) := by
      have hk := hN.kids hpl
      rw [kid_at hG.here, kid_at hG.here] at hk
      rcases (by omega : (bitsL s)[x]?.getD 0 = 0 ∨ (bitsL s)[x]?.getD 0 = 1) with e | e
      · rw [e]; exact hk.1
      · rw [e]; exact hk.2
    have hfw := hN.few
    obtain ⟨cap, xs, e1, _, _⟩ := hN.is
    obtain ⟨t0, t1, t2, t3⟩ := p_cells e1
    clear e1
    generalize bitsAt s pre = L at *
    generalize (bitsL s)[x]?.getD 0 = bb at *
    generalize hq : place P (L ++ [bb]) = q at *
    generalize hpp : place P L = here at *
    have HQ := Lib.hid hq
    have HP := Lib.hid hpp
    clear hq hpp
    gi_wp2
    refine wpIn_mono (Q := fun e a' w' => e = .normal ∧ a' = { tmps := #[Value.pointer (some { block := b, off := 0 }), Value.string s,
          Value.pointer (some { block := w.heap.size, off := 0 }), undef,
          Value.pointer (some { block := w.heap.size + 1, off := 0 }),
          Value.pointer (some { block := w.heap.size + 1 + 1, off := 0 }),
          Value.pointer (some { block := w.heap.size + 1 + 1 + 1, off := 0 }),
          Value.pointer (some { block := w.heap.size + 1 + 1 + 1 + 1, off := 0 }), .int .i64 bb, .int .i64 q, Value.string s,
          Value.func (Fn.func 60) #[] #[Value.pointer (some { block := w.heap.size + 1 + 1 + 1 + 1 + 1, off := 0 })],
          .int .i64 bb, .pointer (some ⟨b, 0, none⟩), .pointer (some ⟨b, 0, none⟩), .pointer (some ⟨b, 1, none⟩), .slice (some ⟨g, 0, none⟩) P.length cap, .int .i64 here, .int .i64 bb,
          .pointer (some ⟨g, here * 2, none⟩), .pointer (some ⟨g, here * 2 + bb, none⟩), .int .i64 q, undef, undef, undef, undef,
          undef, undef, undef, undef, undef, undef, undef, undef, undef, undef, undef], defers := [] } ∧ w' = W.drew) ?reg ?rest
    case reg =>
      gi_region
      all_goals exact ⟨rfl, rfl, rfl⟩
    case rest =>
      rintro e a' w' ⟨rfl, rfl, rfl⟩
      by_cases hm : L ++ [bb] ∈ P
      · have hq1 : ((q : Int) == 0) = false := by
          rw [beq_eq_false_iff_ne, ← HQ.out]
          have := (hG.paths.zero (q := L ++ [bb]) (by simp)).1
          exact fun e => this (by omega) hm
        have hql : q < P.length := by rw [← HQ.out]; exact place_lt hm
        have hE := isEnd_any ((hN.keep (bar_set1 W (w.heap.size + 1 + 1 + 1 + 1) (.bool false)) (by omega) (by omega)).keep (S := fun _ => False) (Bar.refl _ _).drew id id) hql
        have hleaf := hG.leaf HHo.out HFr.out hm
        rw [HQ.out] at hleaf
        rw [hleaf] at hE
        have HX1 := Lib.hid (hX.setNew false)
        by_cases hc : L ++ [bb] ∈ cs
        · rw [decide_eq_true hc] at hE
          have HE := Lib.hid hE
          have HC := Lib.hid hc
          clear hE hc hm hleaf
          gi_wp2_with (refine ⟨trivial, ?_⟩; gi_at_call 38; refine (CallsIn.inRound l (callsIn_wide.2 HE.out)).mono ?_; rintro e w2 ⟨rfl, rfl⟩)
          have hbar : Bar (GrowS w.heap.size b g) W ((((W.setCell ⟨w.heap.size + 1 + 1 + 1 + 1, 0, none⟩ (.bool false)).drew).setCell ⟨w.heap.size + 1, 0, none⟩ (.int .i64 0)).setCell ⟨w.heap.size + 1 + 1, 0, none⟩ (.bool false)) :=
            ((bar_grow1 W _ (by omega) (by omega)).drew.trans (bar_grow1 _ _ (by omega) (by omega)) (fun _ _ e => e)).trans (bar_grow1 _ _ (by omega) (by omega)) (fun _ _ e => e)
          refine ⟨grow_keeps hN hX hbar, rfl, hB.trans hbar (fun j hj e => by rcases e with e | e | e <;> first | exact .inl e | (right; omega)), ⟨_, HC.out, by rw [HL.out]; exact List.prefix_refl _⟩, ?_, ?_⟩
          · exact (Below.heap_setCell _ _ _ _ (by simp)).trans (heap_setCell_same _ (w.heap.size + 1) 0 _ _ _ HX1.out.drew.ra)
          · exact heap_setCell_same _ (w.heap.size + 1 + 1) 0 _ _ _ ((Below.heap_setCell _ _ _ _ (by simp)).trans HX1.out.drew.rb)
        · rw [decide_eq_false hc] at hE
          have HE := Lib.hid hE
          have HG2 := Lib.hid (hG.go hm hc)
          clear hE hc hm hleaf
          gi_wp2_with (refine ⟨trivial, ?_⟩; gi_at_call 38; refine (CallsIn.inRound l (callsIn_wide.2 HE.out)).mono ?_; rintro e w2 ⟨rfl, rfl⟩)
          have hbar : Bar (GrowS w.heap.size b g) W (((W.setCell ⟨w.heap.size + 1 + 1 + 1 + 1, 0, none⟩ (.bool false)).drew).setCell ⟨w.heap.size + 1 + 1 + 1, 0, none⟩ (.int .i64 q)) :=
            (bar_grow1 W _ (by omega) (by omega)).drew.trans (bar_grow1 _ _ (by omega) (by omega)) (fun _ _ e => e)
          refine ⟨grow_keeps hN hX hbar, grow_kp hbar hlow (by omega) (by omega) (by omega) (by omega) hW, ?_⟩
          refine ⟨hB.trans hbar (fun j hj e => by rcases e with e | e | e <;> first | exact .inl e | (right; omega)), Nat.le_trans hW hbar.size, P, g, false, ?_, ((hN.keep (bar_set1 W (w.heap.size + 1 + 1 + 1 + 1) (.bool false)) (by omega) (by omega)).keep (S := fun _ => False) (Bar.refl _ _).drew id id).keep (bar_set1 _ _ _) (by omega) (by omega), hgg, ?_⟩
          · rw [HL.out]; exact HG2.out
          · rw [HL.out, HQ.out]
            exact HX1.out.drew.setAt q
      · have hq0 : q = 0 := by rw [← HQ.out]; exact place_no hm
        subst hq0
        have hk2 : P[here]? = some L := by rw [← HP.out]; exact place_get hG.here
        have HL1 := Lib.hid (lay_any ((hN.keep (bar_set1 W (w.heap.size + 1 + 1 + 1 + 1) (.bool true)) (by omega) (by omega)).keep (S := fun _ => False) (Bar.refl _ _).drew id id) hG.paths hk2 hbb hm (by have := hG.many; omega) (by simp; omega))
        have HG2 := Lib.hid (hG.lay HHo.out hbb hm)
        have HX1 := Lib.hid (hX.setNew true)
        have HN0 := Lib.hid (place_snoc hm (L ++ [bb]))
        clear hm hk2
        gi_wp2_with (refine ⟨trivial, ?_⟩; gi_at_call 52; refine (CallsIn.inRound l (callsIn_wide.2 HL1.out)).mono ?_; rintro e w2 ⟨rfl, g', hN', hg', hb'⟩; have hX2 := HX1.out.drew.bar hb' (by rintro j h1 h2 (e | e) <;> omega); obtain ⟨d3, e3⟩ := one_cell hX2.at_)
        have hbar : Bar (GrowS w.heap.size b g) W (w2.setCell ⟨w.heap.size + 1 + 1 + 1, 0, none⟩ (.int .i64 P.length)) :=
          (((bar_grow1 W _ (by omega) (by omega)).drew.trans (hb'.wide (T := GrowS w.heap.size b g) (fun j e => e.elim .inl fun e => .inr (.inl e))) (fun _ _ e => e)).trans (bar_grow1 w2 _ (by omega) (by omega)) (fun _ _ e => e))
        refine ⟨grow_keeps hN hX hbar, grow_kp hbar hlow (by omega) (by omega) (by omega) (by omega) hW, ?_⟩
        refine ⟨hB.trans hbar (fun j hj e => by rcases e with e | e | e <;> first | exact .inl e | (right; omega)), Nat.le_trans hW hbar.size, _, g', true, ?_, hN'.keep (bar_set1 w2 _ _) (by omega) (by have := hbar.size; simp at hg'; omega), by simp at hg'; omega, ?_⟩
        · rw [HL.out]; exact HG2.out
        · rw [HL.out, HN0.out, if_pos trivial]
          exact hX2.setAt P.length
  case done =>
    rintro D ys W hD rfl ⟨hB, hW, P, g, fresh, hG, hN, hgg, hX⟩ hK
    rw [bitsAt_range s s.size (Nat.le_refl _), List.take_of_length_le (by rw [bitsL_len]; omega)] at hG hX
    have hT0 : bitsL s ≠ [] := by intro e; have := congrArg List.length e; rw [bitsL_len] at this; have this : s.size = 0 := this; omega
    have HE := Lib.hid (hG.ends HHo.out HFr.out hT0)
    obtain ⟨c1, f1⟩ := one_cell hX.ra
    obtain ⟨c2, f2⟩ := one_cell hX.rb
    obtain ⟨c3, f3⟩ := one_cell hX.at_
    obtain ⟨c4, f4⟩ := one_cell hX.new
    clear hT0 hG
    generalize hT : bitsL s = T at *
    generalize hq : place P T = q at *
    have HT := Lib.hid hT
    have HQ := Lib.hid hq
    clear hT hq
    gi_wp2
    gi_region
    all_goals gi_wp2
    have hD' : w.heap.size ≤ D := by simp only [World.size_alloc] at hD; omega
    have hKO : KeepsOthers W ((W.setCell ⟨w.heap.size + 1, 0, none⟩ (.int .i64 q)).setCell ⟨w.heap.size + 1 + 1, 0, none⟩ (.bool fresh)).drew := (KeepsOthers.setCell _ _ _).trans (KeepsOthers.setCell _ _ _) |>.trans (KeepsOthers.drew _)
    have hK' := hKO.same D _ hK rfl
    refine ⟨by simp, .inl ⟨_, _, rfl, run_takeDeferred hK', ?_⟩⟩
    have r1 : ((W.setCell ⟨w.heap.size + 1, 0, none⟩ (.int .i64 q)).setCell ⟨w.heap.size + 1 + 1, 0, none⟩ (.bool fresh)).drew.heap[w.heap.size + 1]? = some (.cells #[.int .i64 q] 3 (0, 0)) := (Below.heap_setCell _ _ _ _ (by simp)).trans (heap_setCell_same W (w.heap.size + 1) 0 _ _ _ hX.ra)
    have r2 : ((W.setCell ⟨w.heap.size + 1, 0, none⟩ (.int .i64 q)).setCell ⟨w.heap.size + 1 + 1, 0, none⟩ (.bool fresh)).drew.heap[w.heap.size + 1 + 1]? = some (.cells #[.bool fresh] 4 (0, 0)) := heap_setCell_same _ (w.heap.size + 1 + 1) 0 _ _ _ ((Below.heap_setCell _ _ _ _ (by simp)).trans hX.rb)
    have g0' := (one_cell ((grownBy_keeps_cells (grownBy_putObj' _ D (.deferred none)) (fun r e => by cases e; exact ⟨_, hK', rfl⟩) r1 rfl).trans r1)).1
    have g1 := (one_cell ((grownBy_keeps_cells (grownBy_putObj' _ D (.deferred none)) (fun r e => by cases e; exact ⟨_, hK', rfl⟩) r2 rfl).trans r2)).1
    have hN2 : Nodes n₀ ((W.setCell ⟨w.heap.size + 1, 0, none⟩ (.int .i64 q)).setCell ⟨w.heap.size + 1 + 1, 0, none⟩ (.bool fresh)).drew b sf P be bf g := ((hN.keep (bar_set1 W _ _) (by omega) (by omega)).keep (bar_set1 _ _ _) (by omega) (by omega)).keep (S := fun _ => False) (Bar.refl _ _).drew id id
    have hbar : Bar (fun j => j = b ∨ j = g0) w ((W.setCell ⟨w.heap.size + 1, 0, none⟩ (.int .i64 q)).setCell ⟨w.heap.size + 1 + 1, 0, none⟩ (.bool fresh)).drew :=
      ((hB.setCell (p := ⟨w.heap.size + 1, 0, none⟩) (fun h => by have h : w.heap.size + 1 < w.heap.size := h; omega) _).setCell (p := ⟨w.heap.size + 1 + 1, 0, none⟩) (fun h => by have h : w.heap.size + 1 + 1 < w.heap.size := h; omega) _).drew
    refine ⟨.tuple #[.int .i64 q, .bool fresh], by simp [results, Tryd.f31, go_sem, g0', g1], ?_, ?_⟩
    · exact hbar.trans (bar_of_grown (S := fun j => w.heap.size ≤ j) (grownBy_putObj' _ D _) (fun r e => by cases e; exact hD')) (fun j hj (e : w.heap.size ≤ j) => by omega)
    · rcases HE.out with ⟨rfl, a1, a2, a3, a4, a5, a6⟩ | ⟨rfl, c, hc, hp⟩
      · left
        rw [HT.out]
        exact ⟨P, g, by rw [HQ.out], a1, a2, a3, a4, a5, a6, hN2.kept (grownBy_putObj' _ D _) (fun r e => by cases e; exact ⟨_, hK', rfl⟩), hgg.imp id (fun e => by omega)⟩
      · right
        exact ⟨q, rfl, c, hc, by rw [HT.out]; exact hp⟩
  case stop =>
    rintro D c pre W hD ⟨k, hk, rfl⟩ ⟨rfl, hB, ⟨c, hc, hp⟩, ra, rb⟩ hK
    rw [bitsAt_range s (k + 1) (by omega)] at hp
    gi_wp2
    refine ⟨by simp, .inl ⟨_, _, rfl, run_takeDeferred hK, ?_⟩⟩
    have g0 := (one_cell ((grownBy_keeps_cells (grownBy_putObj' _ D (.deferred none)) (fun r e => by cases e; exact ⟨_, hK, rfl⟩) ra rfl).trans ra)).1
    have g1 := (one_cell ((grownBy_keeps_cells (grownBy_putObj' _ D (.deferred none)) (fun r e => by cases e; exact ⟨_, hK, rfl⟩) rb rfl).trans rb)).1
    refine ⟨.tuple #[.int .i64 0, .bool false], by simp [results, Tryd.f31, go_sem, g0, g1], ?_, .inr ⟨0, rfl, c, hc, .inl (hp.trans (List.take_prefix _ _))⟩⟩
    exact hB.trans (bar_of_grown (S := fun j => w.heap.size ≤ j) (grownBy_putObj' _ D _) (fun r e => by cases e; simp at hD; show w.heap.size ≤ D; omega)) (fun j hj (e : w.heap.size ≤ j) => by omega)

end Go.Proofs.YtdadmoefmaojlaaDoor
