/- The contract of prefix's Get. -/
import Derived.Test.YtdadmoefmaojlaaDoorPMake
namespace Go.Proofs.YtdadmoefmaojlaaDoor
open Go.RowKit Go.Shelf
set_option linter.unusedVariables false
attribute [local go_sem] Oper.semAt_some

set_option maxHeartbeats 1000000 in
theorem getP_range {n₀ m₁ : Nat} {w : World} {b : Nat} {cs : List ByteArray} {ns : List Int} (h : IsPT n₀ m₁ w b cs ns) (a : Option Addr) (len cap : Nat) (x : Int) (hx : x < 0) :
    Calls Tryd.prog 15 #[.pointer (some ⟨b, 0, none⟩), .slice a len cap, .int .i64 x] w fun e w' => e = .returned (.tuple #[.int .i64 0, .int .i64 0, .int .i64 3]) ∧ Below w.heap.size w w' := by
  have hB : Below w.heap.size w ((((w.alloc (Obj.cells #[Value.pointer (some { block := b, off := 0 })] 28)).alloc (Obj.cells #[Value.int IntKind.i64 0] 3)).alloc (Obj.cells #[Value.int IntKind.i64 0] 3)).alloc (Obj.cells #[Value.int IntKind.i64 0] 29)) :=
    ((((Below.refl _ w).alloc (Nat.le_refl _) _).alloc (by simp) _).alloc (by simp; omega) _).alloc (by simp; omega) _
  have HM := Lib.hid (isPT_made (h.keep (S := fun _ => False) (bar_of_below hB) (fun _ _ _ e => e)))
  have HB := Lib.hid hB
  clear h hB
  go_enter Tryd.func15, Tryd.ntmps15
  go_wp2_with (go_at_call 36; refine HM.out.mono ?_; rintro e w' ⟨rfl, rfl⟩)
  exact bodyPost_ret (v := .tuple #[.int .i64 0, .int .i64 0, .int .i64 3]) (by simp [results, Tryd.f15, go_sem]) rfl ⟨rfl, ((((Below.refl _ w).alloc (Nat.le_refl _) _).alloc (by simp) _).alloc (by simp; omega) _).alloc (by simp; omega) _⟩

/-- the bits at some places behind a place -/
def bitsB (zs : List UInt8) (i : Nat) (pre : List Nat) : List Nat := pre.map fun k => bt zs (i + k)
theorem bitsB_snoc (zs : List UInt8) (i : Nat) (pre : List Nat) (x : Nat) : bitsB zs i (pre ++ [x]) = bitsB zs i pre ++ [bt zs (i + x)] := by simp [bitsB]
theorem bitsB_range (zs : List UInt8) (i n : Nat) : bitsB zs i (List.range n) = zbits zs i n := rfl
/-- the boxes of a call of Get -/
structure GetBoxes (W : World) (m b here : Nat) (g n e : Int) : Prop where
  tree : W.heap[m]? = some (.cells #[.pointer (some ⟨b, 0, none⟩)] 28 (0, 0))
  ra : W.heap[m + 1]? = some (.cells #[.int .i64 g] 3 (0, 0))
  rb : W.heap[m + 1 + 1]? = some (.cells #[.int .i64 n] 3 (0, 0))
  rc : W.heap[m + 1 + 1 + 1]? = some (.cells #[.int .i64 e] 29 (0, 0))
  at_ : W.heap[m + 1 + 1 + 1 + 1]? = some (.cells #[.int .i64 here] 3 (0, 0))
theorem GetBoxes.kept {W W' : World} {row : Option Nat} {m b here : Nat} {g n e : Int} (h : GetBoxes W m b here g n e) (hg : W.grownBy W' row) (hr : ∀ r, row = some r → ∃ o : Obj, W.heap[r]? = some o ∧ o.isCells = false) : GetBoxes W' m b here g n e :=
  ⟨(grownBy_keeps_cells hg hr h.tree rfl).trans h.tree, (grownBy_keeps_cells hg hr h.ra rfl).trans h.ra, (grownBy_keeps_cells hg hr h.rb rfl).trans h.rb, (grownBy_keeps_cells hg hr h.rc rfl).trans h.rc, (grownBy_keeps_cells hg hr h.at_ rfl).trans h.at_⟩
theorem GetBoxes.setAt {W : World} {m b here : Nat} {g n e : Int} (h : GetBoxes W m b here g n e) (k : Nat) : GetBoxes (W.setCell ⟨m + 1 + 1 + 1 + 1, 0, none⟩ (.int .i64 k)) m b k g n e :=
  ⟨(Below.heap_setCell _ _ _ _ (by intro e; have e : m = _ := e; simp at e; omega)).trans h.tree, (Below.heap_setCell _ _ _ _ (by simp)).trans h.ra, (Below.heap_setCell _ _ _ _ (by simp)).trans h.rb, (Below.heap_setCell _ _ _ _ (by simp)).trans h.rc, heap_setCell_same W _ 0 _ _ _ h.at_⟩
theorem GetBoxes.drew {W : World} {m b here : Nat} {g n e : Int} (h : GetBoxes W m b here g n e) : GetBoxes W.drew m b here g n e := ⟨h.tree, h.ra, h.rb, h.rc, h.at_⟩
theorem GetBoxes.alloc {W : World} {m b here : Nat} {g n e : Int} (h : GetBoxes W m b here g n e) (o : Obj) : GetBoxes (W.alloc o) m b here g n e := ⟨heap_keep h.tree o, heap_keep h.ra o, heap_keep h.rb o, heap_keep h.rc o, heap_keep h.at_ o⟩
theorem GetBoxes.setR {W : World} {m b here : Nat} {g n e : Int} (h : GetBoxes W m b here g n e) (g' n' e' : Int) : GetBoxes (((W.setCell ⟨m + 1, 0, none⟩ (.int .i64 g')).setCell ⟨m + 1 + 1, 0, none⟩ (.int .i64 n')).setCell ⟨m + 1 + 1 + 1, 0, none⟩ (.int .i64 e')) m b here g' n' e' := by
  have k : ∀ {W : World} {j q : Nat} {o : Obj} (v : Value), W.heap[j]? = some o → j ≠ q → (W.setCell ⟨q, 0, none⟩ v).heap[j]? = some o := fun v h hne => (Below.heap_setCell _ _ _ _ hne).trans h
  exact ⟨k _ (k _ (k _ h.tree (by omega)) (by omega)) (by omega), k _ (k _ (heap_setCell_same W _ 0 _ _ _ h.ra) (by omega)) (by omega), k _ (heap_setCell_same _ _ 0 _ _ _ (k _ h.rb (by omega))) (by omega), heap_setCell_same _ _ 0 _ _ _ (k _ (k _ h.rc (by omega)) (by omega)), k _ (k _ (k _ h.at_ (by omega)) (by omega)) (by omega)⟩

theorem KpB.drewn {m bx by_ : Nat} {A B : World} (h : KpB m bx by_ A B) : KpB m bx by_ A B.drew := ⟨h.1.drew, h.2.1, h.2.2⟩
/-- between two rounds of Get -/
structure GetI (w : World) (b : Nat) (P cs : List (List Nat)) (L : List Nat) (W : World) : Prop where
  below : Below w.heap.size w W
  size : w.heap.size + 7 ≤ W.heap.size
  mem : L ∈ P
  opn : Open cs L
  boxes : GetBoxes W w.heap.size b (place P L) 0 0 0
/-- Get's answer, at some bits -/
def GetA (cs : List ByteArray) (ns : List Int) (P : List (List Nat)) (L : List Nat) (g n e : Int) : Prop :=
  (∃ i, i < cs.length ∧ bitsL (cs[i]?.getD ⟨#[]⟩) = L ∧ g = ns[i]?.getD 0 ∧ n = L.length ∧ e = 0) ∨ (g = 0 ∧ n = 0 ∧ e = 7 ∧ ∃ L' x, L = L' ++ [x] ∧ L' ∈ P ∧ Open (cs.map bitsL) L' ∧ L ∉ P)
structure GetX (w : World) (b : Nat) (cs : List ByteArray) (ns : List Int) (P : List (List Nat)) (L : List Nat) (W : World) : Prop where
  below : Below w.heap.size w W
  is : ∃ g n e here, GetA cs ns P L g n e ∧ GetBoxes W w.heap.size b here g n e

set_option maxRecDepth 100000 in
set_option maxHeartbeats 4000000 in
theorem getP_in (n : Nat) (hn : 4 ≤ n) {n₀ m₁ n₁ : Nat} {w : World} {b : Nat} {cs : List ByteArray} {ns : List Int} (h : IsPT n₀ m₁ w b cs ns) {sv : Value} {zs : List UInt8} (hB : Byt n₁ w sv zs) (hn1 : n₁ ≤ w.heap.size) (hl : zs.length ≤ 1099511627776) (x : Nat) (hx : x ≤ 9223372036854775807) :
    CallsIn Fence.wide n Tryd.prog 15 #[.pointer (some ⟨b, 0, none⟩), sv, .int .i64 x] w fun e w' => e = .returned (getT cs ns zs (x : Int)) ∧ Below w.heap.size w w' := by
  have hn1' : 1 ≤ n := by omega
  have hn3 : 1 ≤ n - 1 - 1 := by omega
  have HBy := Lib.hid hB
  obtain ⟨a, cap, rfl, _, _⟩ := hB
  have hB4 : Below w.heap.size w ((((w.alloc (Obj.cells #[Value.pointer (some { block := b, off := 0 })] 28)).alloc (Obj.cells #[Value.int IntKind.i64 0] 3)).alloc (Obj.cells #[Value.int IntKind.i64 0] 3)).alloc (Obj.cells #[Value.int IntKind.i64 0] 29)) :=
    ((((Below.refl _ w).alloc (Nat.le_refl _) _).alloc (by simp) _).alloc (by simp; omega) _).alloc (by simp; omega) _
  have HM := Lib.hid (isPT_made (h.keep (S := fun _ => False) (bar_of_below hB4) (fun _ _ _ e => e)))
  have HPT := Lib.hid h
  have hd : decide ((x : Int) < 0) = false := by simp
  clear h
  refine callsIn_of_wp_marks Tryd.func15 rfl trivial ?_ rfl
  simp only [Tryd.ntmps15, List.size_toArray, List.length_cons, List.length_nil, Nat.reduceAdd, Nat.reduceSub, Array.replicate_succ, Array.replicate_zero, List.push_toArray, List.append_toArray, List.nil_append, List.cons_append]
  gi_wp2_with (first | (refine ⟨trivial, ?_⟩; gi_at_call 36; refine (callsIn_wide.2 HM.out).mono ?_; rintro e w' ⟨rfl, rfl⟩) | (refine ⟨trivial, ?_⟩; gi_at_call 37; refine (pbitsOn_in Fence.wide (n - 1) trivial rfl _ _ _ _ _).mono ?_; rintro e w' ⟨rfl, rfl⟩))
  have hB7 : Below w.heap.size w (((((((w.alloc (Obj.cells #[Value.pointer (some { block := b, off := 0 })] 28)).alloc (Obj.cells #[Value.int IntKind.i64 0] 3)).alloc (Obj.cells #[Value.int IntKind.i64 0] 3)).alloc (Obj.cells #[Value.int IntKind.i64 0] 29)).alloc (Obj.cells #[Value.int IntKind.i64 0] 3)).alloc (Obj.cells #[Value.slice a zs.length cap] 24)).alloc (Obj.cells #[Value.int IntKind.i64 x] 3)) :=
    ((hB4.alloc (by simp; omega) _).alloc (by simp; omega) _).alloc (by simp; omega) _
  obtain ⟨P, be, bf, g, fE, fF, nE, nF, cF, q1, hN, hH, hOk, hlen, hE, hEo, q2, q3⟩ := HPT.out
  clear q1 q2 q3
  have hb := hN.lt
  have hbe := hE.lt
  have hg : g < w.heap.size := by
    rcases hN.row with hr | hr
    · exact hr.1
    · have := hH.paths.pos; rw [hr] at this; simp at this
  have hPf := hN.few
  have HNo := Lib.hid hN
  have HHo := Lib.hid hH
  have HOk := Lib.hid hOk
  have HE := Lib.hid hE
  have HEo := Lib.hid hEo
  have hcl := hlen.1
  clear hN hH hOk hE hEo hlen
  refine wpIn_rangeFunc_ownF rfl hn1' (gf := 53) (lb := #[.pointer (some ⟨w.heap.size + 1 + 1 + 1 + 1 + 1 + 1, 0, none⟩), .pointer (some ⟨w.heap.size + 1 + 1 + 1 + 1 + 1, 0, none⟩)]) rfl trivial (enters_of Tryd.func53 (by kernel_rfl) rfl)
    (pbitsOn_stops (n - 1) (by omega) w.heap.size (w.heap.size + 1 + 1 + 1 + 1 + 1) (w.heap.size + 1 + 1 + 1 + 1 + 1 + 1) x n₁ (.slice a zs.length cap) zs _ hx (by simp; omega) hn1 (by simp) (by simp) (by go_simp) (by go_simp) (HBy.out.below (hB7.mono hn1))) KpB.t (KpB.b (by simp; omega) (by simp) (by simp)) (Below.refl _ _) (fun _ => rfl)
    (fun pre W => GetI w b P (cs.map bitsL) (bitsB zs x pre) W)
    (fun c pre W => c = .ret ∧ GetX w b cs ns P (bitsB zs x pre) W)
    ?own ?ownx
    ?start
    (fun k => { tmps := #[Value.pointer (some { block := b, off := 0 }), Value.slice a zs.length cap, Value.int IntKind.i64 x,
          Value.pointer (some { block := w.heap.size, off := 0 }), undef, undef,
          Value.pointer (some { block := w.heap.size + 1, off := 0 }),
          Value.pointer (some { block := w.heap.size + 1 + 1, off := 0 }),
          Value.pointer (some { block := w.heap.size + 1 + 1 + 1, off := 0 }),
          Value.pointer (some { block := w.heap.size + 1 + 1 + 1 + 1, off := 0 }), .int .i64 (bt zs (x + k)), undef,
          Value.pointer (some { block := b, off := 0 }), Value.bool true, Value.bool false, Value.int IntKind.i64 x,
          Value.bool false, Value.slice a zs.length cap, Value.int IntKind.i64 x,
          Value.func (Fn.func 53) #[]
            #[Value.pointer (some { block := w.heap.size + 1 + 1 + 1 + 1 + 1 + 1, off := 0 }),
              Value.pointer (some { block := w.heap.size + 1 + 1 + 1 + 1 + 1, off := 0 })],
          .int .i64 (bt zs (x + k)), undef, undef, undef, undef, undef, undef, undef, undef, undef, undef, undef, undef, undef, undef,
          undef, undef, undef, undef, undef, undef, undef, undef, undef, undef], defers := [] }) ?assign ?body ?done ?stop
  case own =>
    intro pre A B row hI hg' hr
    have hr2 : ∀ r, row = some r → ∃ o : Obj, A.heap[r]? = some o ∧ o.isCells = false := fun r e => (hr r e).2
    obtain ⟨h1, h2, h3, h4, h5⟩ := hI
    exact ⟨h1.grown hg' h1.size (fun r e => by have := (hr r e).1; simp at this; omega), Nat.le_trans h2 hg'.size, h3, h4, h5.kept hg' hr2⟩
  case ownx =>
    intro c pre A B row hI hg' hr
    have hr2 : ∀ r, row = some r → ∃ o : Obj, A.heap[r]? = some o ∧ o.isCells = false := fun r e => (hr r e).2
    obtain ⟨hc, h1, g1, n1, e1, here, h2, h3⟩ := hI
    exact ⟨hc, h1.grown hg' h1.size (fun r e => by have := (hr r e).1; simp at this; omega), g1, n1, e1, here, h2, h3.kept hg' hr2⟩
  case start =>
    refine ⟨hB7, by simp, HHo.out.paths.nil_mem, fun c hc hp => ?_, ?_⟩
    · exact HOk.out.2.1 c hc (List.prefix_nil.1 hp)
    · have e0 : place P (bitsB zs x []) = 0 := HHo.out.paths.place_of HHo.out.paths.root
      rw [e0]
      exact ⟨heap_keep (heap_keep (heap_keep (heap_keep (heap_keep (heap_keep (heap_new _ rfl _) _) _) _) _) _) _, heap_keep (heap_keep (heap_keep (heap_keep (heap_keep (heap_new _ (by simp) _) _) _) _) _) _, heap_keep (heap_keep (heap_keep (heap_keep (heap_new _ (by simp) _) _) _) _) _,
        heap_keep (heap_keep (heap_keep (heap_new _ (by simp) _) _) _) _, heap_keep (heap_keep (heap_new _ (by simp) _) _) _⟩
  case assign =>
    intro l k W K hK
    gi_wp2
    exact hK
  case body =>
    rintro l pre k W ⟨hBW, hW, hmem, hopn, hX⟩ hlt
    have hbb : bt zs (x + k) < 2 := by have := bt_le zs (x + k); omega
    have HL := Lib.hid (bitsB_snoc zs x pre k)
    have hN := HNo.out.keep (S := fun j => w.heap.size ≤ j) ⟨hBW.os, hBW.tape, hBW.output, hBW.size, fun j hj hn => hBW.block j (by omega)⟩ (by omega) (by omega)
    have hEW := HE.out.block (hBW.block be hbe)
    obtain ⟨c0, _⟩ := one_cell hX.tree
    obtain ⟨c1, f1⟩ := one_cell hX.ra
    obtain ⟨c2, f2⟩ := one_cell hX.rb
    obtain ⟨c3, f3⟩ := one_cell hX.rc
    obtain ⟨c4, f4⟩ := one_cell hX.at_
    have hpl := place_lt hmem
    have hLl : (bitsB zs x pre).length ≤ pre.length := by simp [bitsB]
    have hbk : W.cell? ⟨g, place P (bitsB zs x pre) * 2 + bt zs (x + k), none⟩ = some (.int .i64 (place P (bitsB zs x pre ++ [bt zs (x + k)]))) := by
      have hk := hN.kids hpl
      rw [kid_at hmem, kid_at hmem] at hk
      rcases (by omega : bt zs (x + k) = 0 ∨ bt zs (x + k) = 1) with e | e
      · rw [e]; exact hk.1
      · rw [e]; exact hk.2
    obtain ⟨cap4, xs, e1, _, _⟩ := hN.is
    obtain ⟨t0, t1, t2, t3⟩ := p_cells e1
    clear e1
    generalize bitsB zs x pre = L at *
    generalize bt zs (x + k) = bb at *
    generalize hq : place P (L ++ [bb]) = q at *
    generalize hpp : place P L = here at *
    have HQ := Lib.hid hq
    have HP := Lib.hid hpp
    have HBW := Lib.hid hBW
    clear hq hpp hBW
    gi_wp2
    refine wpIn_mono (Q := fun e aa w' => e = .normal ∧ aa = { tmps := #[Value.pointer (some { block := b, off := 0 }), Value.slice a zs.length cap, Value.int IntKind.i64 x,
          Value.pointer (some { block := w.heap.size, off := 0 }), undef, undef,
          Value.pointer (some { block := w.heap.size + 1, off := 0 }),
          Value.pointer (some { block := w.heap.size + 1 + 1, off := 0 }),
          Value.pointer (some { block := w.heap.size + 1 + 1 + 1, off := 0 }),
          Value.pointer (some { block := w.heap.size + 1 + 1 + 1 + 1, off := 0 }), .int .i64 bb, undef,
          Value.pointer (some { block := b, off := 0 }), Value.bool true, Value.bool false, Value.int IntKind.i64 x,
          Value.bool false, Value.slice a zs.length cap, Value.int IntKind.i64 x,
          Value.func (Fn.func 53) #[]
            #[Value.pointer (some { block := w.heap.size + 1 + 1 + 1 + 1 + 1 + 1, off := 0 }),
              Value.pointer (some { block := w.heap.size + 1 + 1 + 1 + 1 + 1, off := 0 })],
          .int .i64 bb, .pointer (some ⟨b, 0, none⟩), .pointer (some ⟨b, 0, none⟩), .pointer (some ⟨b, 1, none⟩), .slice (some ⟨g, 0, none⟩) P.length cap4, .int .i64 here, .int .i64 bb,
          .pointer (some ⟨g, here * 2, none⟩), .pointer (some ⟨g, here * 2 + bb, none⟩), .int .i64 q, undef, undef, undef, undef, undef,
          undef, undef, undef, undef, undef, undef, undef, undef, undef, undef], defers := [] } ∧ w' = (W.setCell ⟨w.heap.size + 1 + 1 + 1 + 1, 0, none⟩ (.int .i64 q)).drew) ?reg ?rest
    case reg =>
      gi_region
      all_goals exact ⟨rfl, rfl, rfl⟩
    case rest =>
      rintro e a' w' ⟨rfl, rfl, rfl⟩
      have hN2 := (hN.keep (bar_set1 W (w.heap.size + 1 + 1 + 1 + 1) (.int .i64 q)) (by omega) (by omega)).keep (S := fun _ => False) (Bar.refl _ _).drew id id
      have hX2 := (hX.setAt q).drew
      have hB2 : Below w.heap.size w (W.setCell ⟨w.heap.size + 1 + 1 + 1 + 1, 0, none⟩ (.int .i64 q)).drew := (HBW.out.setCell (p := ⟨w.heap.size + 1 + 1 + 1 + 1, 0, none⟩) (by simp; omega) _).drew
      have hE2 : CMap (W.setCell ⟨w.heap.size + 1 + 1 + 1 + 1, 0, none⟩ (.int .i64 q)).drew be nE fE cs.length := HE.out.block (hB2.block be hbe)
      by_cases hm : L ++ [bb] ∈ P
      · have hq1 : ((q : Int) == 0) = false := by
          rw [beq_eq_false_iff_ne, ← HQ.out]
          have := (HHo.out.paths.zero (q := L ++ [bb]) (by simp)).1
          exact fun e => this (by omega) hm
        have hql : q < P.length := by rw [← HQ.out]; exact place_lt hm
        have hEnd := isEnd_any hN2 hql
        have hleaf : leafB P q = decide (L ++ [bb] ∈ cs.map bitsL) := by
          unfold leafB
          rw [← HQ.out, kid_at hm, kid_at hm]
          exact decide_eq_decide.2 (HHo.out.leaf HOk.out.2 hm (by simp))
        rw [hleaf] at hEnd
        by_cases hc : L ++ [bb] ∈ cs.map bitsL
        · rw [decide_eq_true hc] at hEnd
          have HEnd := Lib.hid hEnd
          obtain ⟨i, hi, hie⟩ := List.getElem_of_mem hc
          rw [List.length_map] at hi
          have hi2 : bitsL (cs[i]?.getD ⟨#[]⟩) = L ++ [bb] := by rw [List.getElem?_eq_getElem hi, Option.getD_some, ← hie, List.getElem_map]
          have hfe := HEo.out.1 i hi
          rw [hi2, HQ.out] at hfe
          have z0 : w.heap.size < W.heap.size := by omega
          have z1 : w.heap.size + 1 < W.heap.size := by omega
          have z2 : w.heap.size + 1 + 1 < W.heap.size := by omega
          have z3 : w.heap.size + 1 + 1 + 1 < W.heap.size := by omega
          have z4 : w.heap.size + 1 + 1 + 1 + 1 < W.heap.size := by omega
          have zb : b < W.heap.size := by omega
          have hl1 := hE2.drew.look (x := (q : Int)) (by omega) (by omega)
          have hE3 : CMap (W.setCell ⟨w.heap.size + 1 + 1 + 1 + 1, 0, none⟩ (.int .i64 q)) be nE fE cs.length := hE2
          have hl2 := (hE3.alloc (.cells #[.int .i64 0, .int .i64 0, .int .i64 0] 70)).drew.drew.look (x := (q : Int)) (by omega) (by omega)
          rw [hfe] at hl1 hl2
          have HI2 := Lib.hid hi2
          have hm24 : (cs[i]?.getD ⟨#[]⟩).size = (L ++ [bb]).length := by rw [← hi2, bitsL_len]
          have HSz := Lib.hid hm24
          unfold codeOf at hl1 hl2
          simp only [Option.getD_some] at hl1 hl2
          clear hEnd hc hm hleaf hie hi2 hfe hm24 hX2 hB2 hN2 hE2 hE3
          generalize hnum : ns[i]?.getD 0 = num at *
          have HNum := Lib.hid hnum
          clear hnum
          generalize (cs[i]?.getD ⟨#[]⟩).size = sz at *
          generalize numOf (bitsL (cs[i]?.getD ⟨#[]⟩)) = nu at *
          gi_wp2_with (refine ⟨trivial, ?_⟩; gi_at_call 38; refine (CallsIn.inRound l (callsIn_wide.2 HEnd.out)).mono ?_; rintro e w2 ⟨rfl, rfl⟩)
          refine wpIn_mono (Q := fun e aa w' => e = .normal ∧ aa = { tmps := #[Value.pointer (some { block := b, off := 0 }), Value.slice a zs.length cap, Value.int IntKind.i64 x,
            Value.pointer (some { block := w.heap.size, off := 0 }), undef, undef,
            Value.pointer (some { block := w.heap.size + 1, off := 0 }),
            Value.pointer (some { block := w.heap.size + 1 + 1, off := 0 }),
            Value.pointer (some { block := w.heap.size + 1 + 1 + 1, off := 0 }),
            Value.pointer (some { block := w.heap.size + 1 + 1 + 1 + 1, off := 0 }), .int .i64 bb, .pointer (some ⟨W.heap.size, 0, none⟩),
            Value.pointer (some { block := b, off := 0 }), Value.bool true, Value.bool false, Value.int IntKind.i64 x,
            Value.bool false, Value.slice a zs.length cap, Value.int IntKind.i64 x,
            Value.func (Fn.func 53) #[]
              #[Value.pointer (some { block := w.heap.size + 1 + 1 + 1 + 1 + 1 + 1, off := 0 }),
                Value.pointer (some { block := w.heap.size + 1 + 1 + 1 + 1 + 1, off := 0 })],
            .int .i64 bb, .pointer (some ⟨b, 0, none⟩), .pointer (some ⟨b, 0, none⟩), .pointer (some ⟨b, 1, none⟩), .slice (some ⟨g, 0, none⟩) P.length cap4, .int .i64 here, .int .i64 bb,
            .pointer (some ⟨g, here * 2, none⟩), .pointer (some ⟨g, here * 2 + bb, none⟩), .int .i64 q, .int .i64 q, .bool false, .pointer (some ⟨b, 0, none⟩), .int .i64 q, .bool true,
            .pointer (some ⟨b, 0, none⟩), .pointer (some ⟨b, 0, none⟩), .pointer (some ⟨b, 2, none⟩), .map (some be), .int .i64 q, .agg #[.int .i64 num, .int .i64 nu, .int .i64 sz], undef, undef, undef, undef], defers := [] } ∧
              w' = ((W.setCell ⟨w.heap.size + 1 + 1 + 1 + 1, 0, none⟩ (.int .i64 q)).alloc (.cells #[.int .i64 num, .int .i64 nu, .int .i64 sz] 70)).drew.drew) ?reg2 ?rest2
          case reg2 =>
            gi_region
            all_goals exact ⟨rfl, rfl, rfl⟩
          case rest2 =>
            rintro e a' w' ⟨rfl, rfl, rfl⟩
            gi_wp2
            gi_region
            all_goals gi_wp2
            all_goals exact ⟨(((((KeepsOthers.setCell _ _ _).trans (KeepsOthers.setCell _ _ _)).trans (KeepsOthers.setCell _ _ _)).trans (KeepsOthers.setCell _ _ _)).trans (KeepsOthers.alloc _ _)).trans (((KeepsOthers.drew _).trans (KeepsOthers.drew _)).trans (KeepsOthers.drew _)), rfl,
              (((((((HBW.out.setCell (p := ⟨w.heap.size + 1 + 1 + 1 + 1, 0, none⟩) (by simp; omega) _).setCell (p := ⟨w.heap.size + 1, 0, none⟩) (by simp) _).setCell (p := ⟨w.heap.size + 1 + 1, 0, none⟩) (by simp; omega) _).setCell (p := ⟨w.heap.size + 1 + 1 + 1, 0, none⟩) (by simp; omega) _).alloc (by simp; omega) _).drew).drew).drew,
              num, sz, 0, q, .inl ⟨i, hi, by rw [HL.out]; exact HI2.out, HNum.out.symm, by rw [HL.out, HSz.out], rfl⟩, ((((((hX.setAt q).setR num sz 0).alloc _).drew).drew).drew)⟩
        · rw [decide_eq_false hc] at hEnd
          have HEnd := Lib.hid hEnd
          have HC := Lib.hid hc
          have HM2 := Lib.hid hm
          clear hEnd hc hm hleaf hX2 hB2 hN2 hE2
          gi_wp2_with (refine ⟨trivial, ?_⟩; gi_at_call 38; refine (CallsIn.inRound l (callsIn_wide.2 HEnd.out)).mono ?_; rintro e w2 ⟨rfl, rfl⟩)
          refine ⟨(KeepsOthers.setCell _ _ _).trans (KeepsOthers.drew _), (KpB.rfl.set (p := ⟨w.heap.size + 1 + 1 + 1 + 1, 0, none⟩) _ (by simp; omega) (by simp) (by simp)).drewn, ?_⟩
          refine ⟨(HBW.out.setCell (p := ⟨w.heap.size + 1 + 1 + 1 + 1, 0, none⟩) (by simp; omega) _).drew, by simpa using hW, by rw [HL.out]; exact HM2.out, ?_, ?_⟩
          · rw [HL.out]
            intro c hcc hp
            rcases List.prefix_concat_iff.1 hp with e | e
            · subst e; exact HC.out hcc
            · exact hopn c hcc e
          · rw [HL.out, HQ.out]
            exact (hX.setAt q).drew
      · have hq0 : q = 0 := by rw [← HQ.out]; exact place_no hm
        subst hq0
        have HMm := Lib.hid hm
        have HX2 := Lib.hid hX2
        have HB2 := Lib.hid hB2
        clear hm hX2 hB2 hN2 hE2
        gi_wp2
        exact ⟨((((KeepsOthers.setCell _ _ _).trans (KeepsOthers.setCell _ _ _)).trans (KeepsOthers.setCell _ _ _)).trans (KeepsOthers.setCell _ _ _)).trans (KeepsOthers.drew _), rfl,
          ((((HBW.out.setCell (p := ⟨w.heap.size + 1 + 1 + 1 + 1, 0, none⟩) (by simp; omega) _).setCell (p := ⟨w.heap.size + 1, 0, none⟩) (by simp) _).setCell (p := ⟨w.heap.size + 1 + 1, 0, none⟩) (by simp; omega) _).setCell (p := ⟨w.heap.size + 1 + 1 + 1, 0, none⟩) (by simp; omega) _).drew,
          0, 0, 7, 0, .inr ⟨rfl, rfl, rfl, L, bb, HL.out, hmem, hopn, by rw [HL.out]; exact HMm.out⟩, ((hX.setAt 0).setR 0 0 7).drew⟩
  case done =>
    rintro D ys W hD rfl ⟨hBW, hW, hmem, hopn, hX⟩ hK
    rw [bitsB_range] at hmem hopn hX
    have hD' : w.heap.size ≤ D := by simp only [World.size_alloc] at hD; omega
    have hpre : ∃ c ∈ cs.map bitsL, zbits zs x (zs.length * 8 - x) <+: c := by
      rcases (HHo.out.mem _).1 hmem with e | e
      · rw [e]
        exact ⟨bitsL cs[0], CodesOk.mem hcl, List.nil_prefix⟩
      · exact e
    have HT := Lib.hid (getT_more (nums := ns) HOk.out (by omega : zs.length * 8 - x = 8 * zs.length - x) hopn hpre)
    obtain ⟨c1, f1⟩ := one_cell hX.ra
    obtain ⟨c2, f2⟩ := one_cell hX.rb
    obtain ⟨c3, f3⟩ := one_cell hX.rc
    clear hpre hopn hmem
    gi_wp2
    have hKO : KeepsOthers W (((W.setCell ⟨w.heap.size + 1, 0, none⟩ (.int .i64 0)).setCell ⟨w.heap.size + 1 + 1, 0, none⟩ (.int .i64 0)).setCell ⟨w.heap.size + 1 + 1 + 1, 0, none⟩ (.int .i64 5)) := ((KeepsOthers.setCell _ _ _).trans (KeepsOthers.setCell _ _ _)).trans (KeepsOthers.setCell _ _ _)
    have hK' := hKO.same D _ hK rfl
    refine ⟨by simp, .inl ⟨_, _, rfl, run_takeDeferred hK', ?_⟩⟩
    have hX5 := (hX.setR 0 0 5).kept (grownBy_putObj' _ D (.deferred none)) (fun r e => by cases e; exact ⟨_, hK', rfl⟩)
    have g0 := (one_cell hX5.ra).1
    have g1 := (one_cell hX5.rb).1
    have g2 := (one_cell hX5.rc).1
    refine ⟨.tuple #[.int .i64 0, .int .i64 0, .int .i64 5], by simp [results, Tryd.f15, go_sem, g0, g1, g2], by rw [HT.out], ?_⟩
    exact (((hBW.setCell (p := ⟨w.heap.size + 1, 0, none⟩) (by simp) _).setCell (p := ⟨w.heap.size + 1 + 1, 0, none⟩) (by simp; omega) _).setCell (p := ⟨w.heap.size + 1 + 1 + 1, 0, none⟩) (by simp; omega) _).trans (belowK_b (w := w) (Nat.le_refl _) _ D _ _ hD' hK' rfl rfl)
  case stop =>
    rintro D c pre W hD ⟨k, hk, rfl⟩ ⟨rfl, hBW, g', n', e', here, hA, hX⟩ hK
    rw [bitsB_range] at hA
    have hD' : w.heap.size ≤ D := by simp only [World.size_alloc] at hD; omega
    have HT : Hid (getT cs ns zs (x : Int) = .tuple #[.int .i64 g', .int .i64 n', .int .i64 e']) := by
      show getT cs ns zs (x : Int) = _
      rcases hA with ⟨i, hi, h1, rfl, rfl, rfl⟩ | ⟨rfl, rfl, rfl, L', y, h1, h2, h3, h4⟩
      · rw [List.getElem?_eq_getElem hi, Option.getD_some] at h1
        rw [getT_found HOk.out hi (by omega : k + 1 ≤ 8 * zs.length - x) h1, zbits_len]
      · rw [zbits_succ] at h1
        have h5 := (List.append_inj' h1 rfl).1
        subst h5
        refine getT_code HOk.out hcl (by omega : k < 8 * zs.length - x) h3 ?_ ?_
        · rcases (HHo.out.mem _).1 h2 with e | e
          · left
            have := congrArg List.length e
            rw [zbits_len] at this
            exact this
          · exact .inr e
        · intro c hc hp
          exact h4 ((HHo.out.mem _).2 (.inr ⟨c, hc, hp⟩))
    clear hA
    gi_wp2
    refine ⟨by simp, .inl ⟨_, _, rfl, run_takeDeferred hK, ?_⟩⟩
    have hX5 := hX.kept (grownBy_putObj' _ D (.deferred none)) (fun r e => by cases e; exact ⟨_, hK, rfl⟩)
    have g0 := (one_cell hX5.ra).1
    have g1 := (one_cell hX5.rb).1
    have g2 := (one_cell hX5.rc).1
    refine ⟨.tuple #[.int .i64 g', .int .i64 n', .int .i64 e'], by simp [results, Tryd.f15, go_sem, g0, g1, g2], by rw [HT.out], ?_⟩
    exact hBW.trans (belowK_b (w := w) (Nat.le_refl _) _ D _ _ hD' hK rfl rfl)

theorem getP_any {n₀ m₁ n₁ : Nat} {w : World} {b : Nat} {cs : List ByteArray} {ns : List Int} (h : IsPT n₀ m₁ w b cs ns) {sv : Value} {zs : List UInt8} (hB : Byt n₁ w sv zs) (hn1 : n₁ ≤ w.heap.size) (hl : zs.length ≤ 1099511627776) (x : Int) (hx : x ≤ 9223372036854775807) :
    Calls Tryd.prog 15 #[.pointer (some ⟨b, 0, none⟩), sv, .int .i64 x] w fun e w' => e = .returned (getT cs ns zs x) ∧ Below w.heap.size w w' := by
  by_cases h0 : x < 0
  · have e : getT cs ns zs x = .tuple #[.int .i64 0, .int .i64 0, .int .i64 3] := by unfold getT; rw [if_pos h0]
    obtain ⟨a, cap, rfl, _, _⟩ := hB
    rw [e]
    exact getP_range h a _ cap x h0
  · obtain ⟨y, rfl⟩ := Int.eq_ofNat_of_zero_le (a := x) (by omega)
    exact callsIn_wide.1 (getP_in 4 (by omega) h hB hn1 hl y (by omega))

/-- prefix's tree, as the laws want it -/
def treeI : TreeI where
  IsP := IsPT
  keep := fun h hb hS => h.keep hb hS
  make := fun hC hN hsz hns => makeP_any hC hN hsz hns
  get := fun h hB hn hl x hx => getP_any h hB hn hl x hx
  put := fun h x h1 h2 => putP_any h x h1 h2
  codes := fun h => codesP_any h

end Go.Proofs.YtdadmoefmaojlaaDoor
