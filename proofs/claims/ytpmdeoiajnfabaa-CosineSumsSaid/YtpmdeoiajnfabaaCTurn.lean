/- cosine's (*numbers).turn: one line of a block, summed. -/
import Derived.Test.YtpmdeoiajnfabaaCStr
namespace Go.Proofs.Ytpmdeoiajnfabaa
open Go.RowKit Go.Shelf
set_option linter.unusedVariables false
attribute [local go_sem] Oper.semAt_some

theorem Bar.grownC {S : Nat → Prop} {a w w' : World} {row : Option Nat} (h : Bar S a w) (hg : w.grownBy w' row) (hr : ∀ k, row = some k → a.heap.size ≤ k) : Bar S a w' :=
  h.trans (T := fun k => a.heap.size ≤ k) (bar_of_grown hg (fun k e => hr k e)) (fun j hj e => by omega)
theorem num11_under : Try.prog.underlying 42 = some (.array 64 3) := by kernel_rfl
theorem num11_info : (Try.prog.info? 42).map (·.size) = some 64 := by kernel_rfl
theorem num11_zero : (Try.prog.info? 42).map (·.zero) = some (some (.agg (numsA zeros64))) := by kernel_rfl

def stpC (d : Bool) : Nat := if d then 8 else 1
theorem plC_eq (d : Bool) (f : Nat) : (fun i => plC d f 0 + stpC d * i) = plC d f := by
  funext i
  unfold plC stpC
  cases d <;> simp <;> omega
/-- what is gathered of a line; what is put back -/
def gatC (d : Bool) (B : List Int) (f : Nat) (pre : List (Fin 8)) : List Int := pre.foldl (fun l x => l.set x.val (nthC B (plC d f x.val))) zeros8
def putC (d : Bool) (B : List Int) (f : Nat) (L : List Int) (pre : List (Fin 8)) : List Int := pre.foldl (fun b x => b.set (plC d f x.val) (nthC L x.val)) B
theorem gatC_snoc (d : Bool) (B : List Int) (f : Nat) (pre : List (Fin 8)) (x : Fin 8) : gatC d B f (pre ++ [x]) = (gatC d B f pre).set x.val (nthC B (plC d f x.val)) := by simp [gatC]
theorem putC_snoc (d : Bool) (B : List Int) (f : Nat) (L : List Int) (pre : List (Fin 8)) (x : Fin 8) : putC d B f L (pre ++ [x]) = (putC d B f L pre).set (plC d f x.val) (nthC L x.val) := by simp [putC]
theorem fold_setC {g : Fin 8 → Nat} {v : Fin 8 → Int} : ∀ (pre : List (Fin 8)) (l : List Int), (pre.foldl (fun l x => l.set (g x) (v x)) l).length = l.length
  | [], l => rfl
  | x :: pre, l => by rw [List.foldl_cons, fold_setC pre]; simp
theorem gatC_length (d : Bool) (B : List Int) (f : Nat) (pre : List (Fin 8)) : (gatC d B f pre).length = 8 := fold_setC pre zeros8
theorem putC_length (d : Bool) {B : List Int} (hB : B.length = 64) (f : Nat) (L : List Int) (pre : List (Fin 8)) : (putC d B f L pre).length = 64 := (fold_setC pre B).trans hB
theorem gatC_all (d : Bool) (B : List Int) (f : Nat) : ∀ k, k ≤ 8 → gatC d B f (fromC k) = pickC d B f k := by
  intro k
  induction k with
  | zero => intro _; rw [pick_zero]; rfl
  | succ k ih =>
    intro hk
    rw [fromC_step ⟨k, by omega⟩, gatC_snoc, ih (by omega)]
    exact pick_step d B (by omega)
theorem putC_all (d : Bool) {B : List Int} (hB : B.length = 64) {f : Nat} (hf : f < 8) : ∀ k, k ≤ 8 → putC d B f (lineS (pickC d B f 8)) (fromC k) = turnC d B f k := by
  intro k
  induction k with
  | zero => intro _; exact (turn_zero d f hB).symm
  | succ k ih =>
    intro hk
    rw [fromC_step ⟨k, by omega⟩, putC_snoc, ih (by omega)]
    simp only
    rw [lineS_pick d B hf (by omega)]
    exact turn_step d B hf (by omega)
theorem pick_nth (d : Bool) (B : List Int) (f j : Nat) : nthC (pickC d B f 8) j = if j < 8 then nthC B (plC d f j) else 0 := by
  by_cases h : j < 8
  · unfold pickC
    rw [ofC_get h, if_pos h]
  · rw [if_neg h]
    exact ofC_out (by omega)

/-- between two rounds of the first range, and of the second one -/
structure Tn1 (W0 : World) (gb : Nat) (acc : List Int) (W : World) : Prop where
  below : Below W0.heap.size W0 W
  size : W0.heap.size + 4 ≤ W.heap.size
  box : W.heap[W0.heap.size]? = some (.cells #[.pointer (some ⟨gb, 0, none⟩)] 54 (0, 0))
  line : NumsAt W (W0.heap.size + 1) 48 acc
structure Tn2 (W0 : World) (gb : Nat) (L cur : List Int) (W : World) : Prop where
  bar : Bar (fun k => k = gb) W0 W
  size : W0.heap.size + 4 ≤ W.heap.size
  box : W.heap[W0.heap.size]? = some (.cells #[.pointer (some ⟨gb, 0, none⟩)] 54 (0, 0))
  line : NumsAt W (W0.heap.size + 1) 48 L
  blk : NumsAt W gb 42 cur

set_option maxRecDepth 100000 in
set_option maxHeartbeats 4000000 in
theorem turn_in (n : Nat) (hn : 4 ≤ n) {W : World} {gb gw : Nat} {B : List Int} (hB : NumsAt W gb 42 B) (hBl : B.length = 64) (hN : NumsAt W gw 46 wtL) (hin : ∀ j, -1099511627776 ≤ nthC B j ∧ nthC B j ≤ 1099511627776) (d : Bool) {f : Nat} (hf : f < 8) :
    CallsIn Fence.wide n Try.prog 31 #[.pointer (some ⟨gb, 0, none⟩), .pointer (some ⟨gw, 0, none⟩), .int .i64 (plC d f 0 : Nat), .int .i64 (stpC d : Nat)] W fun e w' => e = .returned (.tuple #[]) ∧ NumsAt w' gb 42 (turnC d B f 8) ∧ Bar (fun k => k = gb) W w' := by
  have hn1 : 1 ≤ n := by omega
  have HS := Lib.hid (fun a b W => strided_in Fence.wide (n - 1) trivial rfl a b W)
  have HSt := Lib.hid (fun p q w hp hq => strided_stops (n - 1) (by omega) p q (plC d f 0) (stpC d) (by have := pl_lt d hf (i := 0) (by omega); omega) (by unfold stpC; cases d <;> simp) w hp hq)
  rw [plC_eq d f] at HSt
  have HBx := Lib.hid (fun w' (hb : Below W.heap.size W w') => hB.below hb hB.lt)
  have HNx := Lib.hid (fun w' (hb : Below W.heap.size W w') => hN.below hb hN.lt)
  have hgb := hB.lt
  have HGa := Lib.hid (gatC_all d B f 8 (Nat.le_refl _))
  have HPu := Lib.hid (putC_all d hBl hf 8 (Nat.le_refl _))
  have HLi := Lib.hid (fun w (hN : NumsAt w gw 46 wtL) => line_any hN (pickC d B f 8) (pick_length _ _ _ _) (fun j => by rw [pick_nth]; split; exact hin _; omega))
  have HPl := Lib.hid (fun x : Fin 8 => pl_lt d hf x.isLt)
  have HGl := Lib.hid (fun pre => gatC_length d B f pre)
  have HPlen := Lib.hid (fun L pre => putC_length d hBl f L pre)
  clear hB hN hin
  generalize plC d f 0 = F0 at *
  generalize stpC d = s0 at *
  refine callsIn_of_wp_marks Try.func31 rfl trivial ?_ rfl
  simp only [Try.ntmps31, List.size_toArray, List.length_nil, List.length_cons, Nat.reduceAdd, Nat.reduceSub, Array.replicate_succ, Array.replicate_zero, List.push_toArray, List.append_toArray, List.nil_append, List.cons_append]
  gi_wp2_with (first
    | (with_reducible refine wpListIn_allocZ rfl 48 (numsA zeros8) rfl eight_zero ?_)
    | (refine ⟨trivial, ?_⟩; gi_at_call 35; refine (HS.out _ _ _).mono ?_; rintro e w' ⟨rfl, rfl⟩))
  have hB4 : Below W.heap.size W ((((W.alloc (.cells #[.pointer (some ⟨gb, 0, none⟩)] 54)).alloc (.cells (numsA zeros8) 48)).alloc (.cells #[.int .i64 F0] 3)).alloc (.cells #[.int .i64 s0] 3)) :=
    ((((Below.refl _ W).alloc (Nat.le_refl _) _).alloc (by simp) _).alloc (by simp; omega) _).alloc (by simp; omega) _
  have hT : Tn1 W gb zeros8 ((((W.alloc (.cells #[.pointer (some ⟨gb, 0, none⟩)] 54)).alloc (.cells (numsA zeros8) 48)).alloc (.cells #[.int .i64 F0] 3)).alloc (.cells #[.int .i64 s0] 3)) := by
    refine ⟨hB4, by simp, ?_, ?_⟩
    · exact heap_keep (heap_keep (heap_keep (World.alloc_heap_new W _) _) _) _
    · have := ((numsAt_new (W.alloc (.cells #[.pointer (some ⟨gb, 0, none⟩)] 54)) 48 zeros8).alloc (.cells #[.int .i64 F0] 3)).alloc (.cells #[.int .i64 s0] 3)
      rwa [World.size_alloc] at this
  have hc1 : ((((W.alloc (.cells #[.pointer (some ⟨gb, 0, none⟩)] 54)).alloc (.cells (numsA zeros8) 48)).alloc (.cells #[.int .i64 F0] 3)).alloc (.cells #[.int .i64 s0] 3)).cell? ⟨W.heap.size + 1 + 1, 0, none⟩ = some (.int .i64 F0) := by
    refine (one_cell (t := 3) ?_).1
    have := heap_keep (World.alloc_heap_new ((W.alloc (.cells #[.pointer (some ⟨gb, 0, none⟩)] 54)).alloc (.cells (numsA zeros8) 48)) (.cells #[.int .i64 F0] 3)) (.cells #[.int .i64 s0] 3)
    simpa using this
  have hc2 : ((((W.alloc (.cells #[.pointer (some ⟨gb, 0, none⟩)] 54)).alloc (.cells (numsA zeros8) 48)).alloc (.cells #[.int .i64 F0] 3)).alloc (.cells #[.int .i64 s0] 3)).cell? ⟨W.heap.size + 1 + 1 + 1, 0, none⟩ = some (.int .i64 s0) := by
    refine (one_cell (t := 3) ?_).1
    have := World.alloc_heap_new (((W.alloc (.cells #[.pointer (some ⟨gb, 0, none⟩)] 54)).alloc (.cells (numsA zeros8) 48)).alloc (.cells #[.int .i64 F0] 3)) (.cells #[.int .i64 s0] 3)
    simpa using this
  have HT := Lib.hid hT
  have HQ := Lib.hid (HSt.out _ _ _ hc1 hc2)
  have hsz : W.heap.size + 4 ≤ ((((W.alloc (.cells #[.pointer (some ⟨gb, 0, none⟩)] 54)).alloc (.cells (numsA zeros8) 48)).alloc (.cells #[.int .i64 F0] 3)).alloc (.cells #[.int .i64 s0] 3)).heap.size := by simp
  clear hB4 hT hc1 hc2
  generalize (((W.alloc (.cells #[.pointer (some ⟨gb, 0, none⟩)] 54)).alloc (.cells (numsA zeros8) 48)).alloc (.cells #[.int .i64 F0] 3)).alloc (.cells #[.int .i64 s0] 3) = W4 at *
  refine wpIn_rangeFunc_ownF rfl hn1 (gf := 36) (lb := #[.pointer (some ⟨W.heap.size + 1 + 1, 0, none⟩), .pointer (some ⟨W.heap.size + 1 + 1 + 1, 0, none⟩)]) rfl trivial (enters_of Try.func36 (by kernel_rfl) rfl)
    HQ.out (fun h k => h.t k) ?kb (Below.refl _ _) (fun _ => rfl)
    (fun pre W' => Tn1 W gb (gatC d B f pre) W')
    (fun _ _ _ => False)
    ?own (fun _ _ _ _ _ hs _ _ => hs) ?start
    (fun x => { tmps := #[.pointer (some ⟨gb, 0, none⟩), .pointer (some ⟨gw, 0, none⟩), .int .i64 F0, .int .i64 s0, .pointer (some ⟨W.heap.size, 0, none⟩), undef, undef, undef, .pointer (some ⟨W.heap.size + 1, 0, none⟩), .int .i64 (x.val : Nat), .int .i64 (plC d f x.val : Nat), undef, undef, .int .i64 F0, .int .i64 s0, .func (.func 36) #[] #[.pointer (some ⟨W.heap.size + 1 + 1, 0, none⟩), .pointer (some ⟨W.heap.size + 1 + 1 + 1, 0, none⟩)], .int .i64 (x.val : Nat), .int .i64 (plC d f x.val : Nat), undef, undef, undef, undef, undef, undef, undef, undef, undef, undef, undef, undef, undef, undef, undef, undef, undef, undef, undef, undef, undef, undef], defers := [] }) ?assign ?body ?done (fun _ _ _ _ _ _ h _ => h.elim)
  case kb =>
    intro W' l o o' hl h1 h2 h3
    refine ⟨World.cell?_of_block (World.putObj_heap_other (by simp; omega)), World.cell?_of_block (World.putObj_heap_other (by simp; omega))⟩
  case own =>
    intro pre A B' row hI hg' hr
    have hr2 : ∀ r, row = some r → ∃ o : Obj, A.heap[r]? = some o ∧ o.isCells = false := fun r e => (hr r e).2
    obtain ⟨h1, h2, h3, h4⟩ := hI
    exact ⟨h1.grown hg' h1.size (fun r e => by have := (hr r e).1; omega), Nat.le_trans h2 hg'.size, (grownBy_keeps_cells hg' hr2 h3 rfl).trans h3, (grownBy_keeps_cells hg' hr2 h4 rfl).trans h4⟩
  case start => exact HT.out
  case assign =>
    intro l x W' K hK
    unfold encC
    gi_wp2
    exact hK
  case body =>
    rintro l pre x W' hI hlt
    have hp := HPl.out x
    have hx := x.isLt
    have c0 := (one_cell hI.box).1
    have c1 := (HBx.out W' hI.below).cell (k := plC d f x.val) (by omega)
    have c2 := hI.line.cell (k := x.val) (by rw [HGl.out]; omega)
    have f2 := hI.line.frozen x.val
    have HI := Lib.hid hI
    have HSn := Lib.hid (gatC_snoc d B f pre x)
    change W'.cell? _ = some (.int .i64 (nthC B (plC d f x.val))) at c1
    have z1 : ((plC d f x.val : Nat) : Int) < 64 := by omega
    have z2 : (0 : Int) ≤ ((plC d f x.val : Nat) : Int) := by omega
    have z3 : ((x.val : Nat) : Int) < 8 := by omega
    have z4 : (0 : Int) ≤ ((x.val : Nat) : Int) := by omega
    clear hI
    generalize plC d f x.val = P at *
    generalize x.val = X at *
    generalize nthC B P = v at *
    gi_wp2
    have hI := HI.out
    refine ⟨KeepsOthers.setCell _ _ _, ⟨World.cell?_of_block (heap_setCell_other _ _ _ _ (by simp)), World.cell?_of_block (heap_setCell_other _ _ _ _ (by simp; omega))⟩, ?_⟩
    refine ⟨hI.below.setCell (p := ⟨W.heap.size + 1, X, none⟩) (by simp) _, by simpa using hI.size, (heap_setCell_other _ _ _ _ (by simp)).trans hI.box, ?_⟩
    rw [HSn.out]
    exact hI.line.set _ _
  case done =>
    rintro D ys W' hD rfl hI hK
    have HI := Lib.hid hI
    have hl := hI.line
    rw [HGa.out] at hl
    have HLs := Lib.hid hl.cells
    have HLz := Lib.hid (show W'.heap[W.heap.size + 1]? = some (.cells (numsA (pickC d B f 8)) 48 (0, 0)) from hl)
    have HPk := Lib.hid (show (intV (pickC d B f 8)).length = 8 by simp [pick_length])
    have HLn := Lib.hid (HLi.out W' (HNx.out W' hI.below))
    clear hI hl
    gi_wp2_with (first
      | (with_reducible refine wpListIn_loadZ rfl 48 _ rfl ⟨W.heap.size + 1, 0, none⟩ rfl (intV (pickC d B f 8)) HLs.out 8 3 eight_under 8 HPk.out eight_info ?_)
      | (refine ⟨trivial, ?_⟩; gi_at_call 29; refine (callsIn_wide.2 HLn.out).mono ?_; rintro e w5 ⟨rfl, b5⟩)
      | (with_reducible refine stopIn_storeZ 48 _ _ rfl ?_; refine Hid.out ?_))
    have hs4 := HI.out.size
    have hs5 := b5.size
    have HZ5 := Lib.hid ((b5.block _ (by omega)).trans HLz.out)
    have HLl := Lib.hid (lineS_length (pickC d B f 8))
    have HLlz := Lib.hid (show (numsA (lineS (pickC d B f 8))).size = 8 by simp [lineS_length])
    have HPz := Lib.hid (show (numsA (pickC d B f 8)).size = 8 by simp [pick_length])
    refine Lib.hid ?_
    refine wpListIn_storeZ rfl 48 _ _ rfl (W.heap.size + 1) (numsA (lineS (pickC d B f 8))) rfl rfl 48 (numsA (pickC d B f 8)) HZ5.out 8 HLlz.out eight_info HPz.out (numsA_one _) ?_
    have hB5 := HI.out.below.trans (b5.mono HI.out.below.size)
    have hB6 : Below W.heap.size W (w5.setRow (W.heap.size + 1) (numsA (lineS (pickC d B f 8)))) := below_setRowZ hB5 (by omega) _
    have hN6 : NumsAt (w5.setRow (W.heap.size + 1) (numsA (lineS (pickC d B f 8)))) (W.heap.size + 1) 48 (lineS (pickC d B f 8)) := NumsAt.setRow (b := pickC d B f 8) HZ5.out
    have hx5 : w5.heap[W.heap.size]? = some (.cells #[.pointer (some ⟨gb, 0, none⟩)] 54 (0, 0)) := (b5.block _ (by omega)).trans HI.out.box
    have hx6 : (w5.setRow (W.heap.size + 1) (numsA (lineS (pickC d B f 8)))).heap[W.heap.size]? = some (.cells #[.pointer (some ⟨gb, 0, none⟩)] 54 (0, 0)) := (setRow_other _ _ _ _ (by omega)).trans hx5
    have hK6 : (w5.setRow (W.heap.size + 1) (numsA (lineS (pickC d B f 8)))).heap[D]? = some (.deferred (some [])) := (setRow_other _ _ _ _ (by omega)).trans ((b5.block _ (Array.getElem?_eq_some_iff.1 hK).1).trans hK)
    have hs6 : W.heap.size + 4 ≤ (w5.setRow (W.heap.size + 1) (numsA (lineS (pickC d B f 8)))).heap.size := by simp; omega
    have hD6 := (Array.getElem?_eq_some_iff.1 hK6).1
    clear hK hB5 hx5 HZ5 HLs HLz HPk HLn hs5 b5 HI HLlz HPz
    generalize lineS (pickC d B f 8) = L at *
    generalize w5.setRow (W.heap.size + 1) (numsA L) = W6 at *
    have HB6 := Lib.hid hB6
    have HN6 := Lib.hid hN6
    have HX6 := Lib.hid hx6
    have HK6 := Lib.hid hK6
    clear hB6 hN6 hx6 hK6
    gi_wp2_with (refine ⟨trivial, ?_⟩; gi_at_call 35; refine (HS.out _ _ _).mono ?_; rintro e w' ⟨rfl, rfl⟩)
    have HT2 : Hid (Tn2 W gb L B ((W6.alloc (.cells #[.int .i64 F0] 3)).alloc (.cells #[.int .i64 s0] 3))) :=
      Lib.hid ⟨((bar_of_below HB6.out).alloc _).alloc _, by simp; omega, heap_keep (heap_keep HX6.out _) _, (HN6.out.alloc _).alloc _, ((HBx.out _ HB6.out).alloc _).alloc _⟩
    have hc1 : ((W6.alloc (.cells #[.int .i64 F0] 3)).alloc (.cells #[.int .i64 s0] 3)).cell? ⟨W6.heap.size, 0, none⟩ = some (.int .i64 F0) := (one_cell (t := 3) (heap_keep (World.alloc_heap_new W6 (.cells #[.int .i64 F0] 3)) (.cells #[.int .i64 s0] 3))).1
    have hc2 : ((W6.alloc (.cells #[.int .i64 F0] 3)).alloc (.cells #[.int .i64 s0] 3)).cell? ⟨W6.heap.size + 1, 0, none⟩ = some (.int .i64 s0) := by
      refine (one_cell (t := 3) ?_).1
      have := World.alloc_heap_new (W6.alloc (.cells #[.int .i64 F0] 3)) (.cells #[.int .i64 s0] 3)
      simpa using this
    have HQ2 := Lib.hid (HSt.out _ _ _ hc1 hc2)
    have HK8 := Lib.hid (show ((W6.alloc (.cells #[.int .i64 F0] 3)).alloc (.cells #[.int .i64 s0] 3)).heap[D]? = some (.deferred (some [])) from heap_keep (heap_keep HK6.out _) _)
    have hsz8 : W6.heap.size + 2 ≤ ((W6.alloc (.cells #[.int .i64 F0] 3)).alloc (.cells #[.int .i64 s0] 3)).heap.size := by simp
    clear hc1 hc2
    generalize (W6.alloc (.cells #[.int .i64 F0] 3)).alloc (.cells #[.int .i64 s0] 3) = W8 at *
    generalize pickC d B f 8 = PL at *
    refine wpIn_rangeFunc_ownF rfl hn1 (gf := 36) (lb := #[.pointer (some ⟨W6.heap.size, 0, none⟩), .pointer (some ⟨W6.heap.size + 1, 0, none⟩)]) rfl trivial (enters_of Try.func36 (by kernel_rfl) rfl)
      HQ2.out (fun h k => h.t k) ?kb2 (Below.refl _ _) (fun _ => rfl)
      (fun pre W' => Tn2 W gb L (putC d B f L pre) W' ∧ W'.heap[D]? = some (.deferred (some [])) ∧ W8.heap.size ≤ W'.heap.size)
      (fun _ _ _ => False)
      ?own2 (fun _ _ _ _ _ hs _ _ => hs) ?start2
      (fun x => { tmps := #[.pointer (some ⟨gb, 0, none⟩), .pointer (some ⟨gw, 0, none⟩), .int .i64 F0, .int .i64 s0, .pointer (some ⟨W.heap.size, 0, none⟩), undef, undef, undef, .pointer (some ⟨W.heap.size + 1, 0, none⟩), undef, undef, .int .i64 (x.val : Nat), .int .i64 (plC d f x.val : Nat), .int .i64 F0, .int .i64 s0, .func (.func 36) #[] #[.pointer (some ⟨W.heap.size + 1 + 1, 0, none⟩), .pointer (some ⟨W.heap.size + 1 + 1 + 1, 0, none⟩)], undef, undef, undef, undef, undef, undef, undef, undef, undef, .pointer (some ⟨gw, 0, none⟩), .agg (intV PL).toArray, .agg (numsA L), .int .i64 F0, .int .i64 s0, .func (.func 36) #[] #[.pointer (some ⟨W6.heap.size, 0, none⟩), .pointer (some ⟨W6.heap.size + 1, 0, none⟩)], .int .i64 (x.val : Nat), .int .i64 (plC d f x.val : Nat), undef, undef, undef, undef, undef, undef, undef], defers := [] }) ?assign2 ?body2 ?done2 (fun _ _ _ _ _ _ h _ => h.elim)
    case kb2 =>
      intro W' l o o' hl h1 h2 h3
      exact ⟨World.cell?_of_block (World.putObj_heap_other (by simp; omega)), World.cell?_of_block (World.putObj_heap_other (by simp; omega))⟩
    case own2 =>
      intro pre A B' row hI hg' hr
      have hr2 : ∀ r, row = some r → ∃ o : Obj, A.heap[r]? = some o ∧ o.isCells = false := fun r e => (hr r e).2
      obtain ⟨⟨h1, h2, h3, h4, h5⟩, h6, h7⟩ := hI
      refine ⟨⟨h1.grownC hg' (fun r e => by have := (hr r e).1; omega), Nat.le_trans h2 hg'.size, (grownBy_keeps_cells hg' hr2 h3 rfl).trans h3, (grownBy_keeps_cells hg' hr2 h4 rfl).trans h4, (grownBy_keeps_cells hg' hr2 h5 rfl).trans h5⟩, ?_, Nat.le_trans h7 hg'.size⟩
      refine (hg'.block D (Array.getElem?_eq_some_iff.1 h6).1 ?_).trans h6
      intro e
      have := (hr D e.symm).1
      omega
    case start2 => exact ⟨HT2.out, HK8.out, Nat.le_refl _⟩
    case assign2 =>
      intro l x W' K hK
      unfold encC
      gi_wp2
      exact hK
    case body2 =>
      rintro l pre x W' ⟨hI, hKD, hKs⟩ hlt
      have hp := HPl.out x
      have hx := x.isLt
      have c0 := (one_cell hI.box).1
      have c1 := hI.line.cell (k := x.val) (by rw [HLl.out]; omega)
      have c2 := hI.blk.cell (k := plC d f x.val) (by rw [HPlen.out]; omega)
      have f2 := hI.blk.frozen (plC d f x.val)
      have HI := Lib.hid hI
      have HKD := Lib.hid hKD
      have HSn := Lib.hid (putC_snoc d B f L pre x)
      change W'.cell? _ = some (.int .i64 (nthC L x.val)) at c1
      have z1 : ((plC d f x.val : Nat) : Int) < 64 := by omega
      have z2 : (0 : Int) ≤ ((plC d f x.val : Nat) : Int) := by omega
      have z3 : ((x.val : Nat) : Int) < 8 := by omega
      have z4 : (0 : Int) ≤ ((x.val : Nat) : Int) := by omega
      clear hI hKD
      generalize plC d f x.val = P at *
      generalize x.val = X at *
      generalize nthC L X = v at *
      have hFin : ∀ a, ownPostK (KpC W6.heap.size (W6.heap.size + 1)) (fun pre W' => Tn2 W gb L (putC d B f L pre) W' ∧ W'.heap[D]? = some (.deferred (some [])) ∧ W8.heap.size ≤ W'.heap.size) (fun _ _ _ => False) (pre ++ [x]) W' .normal a (W'.setCell ⟨gb, P, none⟩ (.int .i64 v)).drew := by
        intro a
        have hI := HI.out
        refine ⟨(KeepsOthers.setCell _ _ _).trans (KeepsOthers.drew _), ⟨World.cell?_of_block (heap_setCell_other W' _ _ _ (by simp; omega)), World.cell?_of_block (heap_setCell_other W' _ _ _ (by simp; omega))⟩, ⟨(hI.bar.setCell (p := ⟨gb, P, none⟩) (fun _ => rfl) _).drew, by simpa [World.drew] using hI.size, (heap_setCell_other W' _ _ _ (by simp; omega)).trans hI.box, (hI.line.other (p := ⟨gb, P, none⟩) (by simp; omega) _), ?_⟩, (heap_setCell_other W' _ _ _ (by simp; omega)).trans HKD.out, by simpa [World.drew] using hKs⟩
        rw [HSn.out]
        exact hI.blk.set P v
      have HFin := Lib.hid hFin
      clear hFin
      gi_wp2
      refine wpIn_mono (Q := fun e _ w9 => e = .normal ∧ w9 = (W'.setCell ⟨gb, P, none⟩ (.int .i64 v)).drew) ?_ ?_
      · clear HFin HSn HI HKD HT2 HQ2 HK8 HX6 HK6 HN6 HB6 HS HSt HBx HNx HGa HPu HLi HPl HGl HPlen HQ HT
        gi_region
        all_goals exact ⟨rfl, rfl⟩
      · rintro e a9 w9 ⟨rfl, rfl⟩
        gi_wp2
        exact HFin.out _
    case done2 =>
      rintro D2 ys W' hD2 rfl ⟨hI, hKD, hKs⟩ hK2
      have hb := hI.blk
      rw [HPu.out] at hb
      refine leaves_marks (B := W.heap.size) _ W'.heap.size _ ?_ ?_
      · exact ⟨D2, rfl, by omega, (Array.getElem?_eq_some_iff.1 hK2).1, hK2, D, rfl, by omega, by omega, hKD, trivial⟩
      · intro W9 hb9
        exact ⟨_, results_none rfl _ _ _, rfl, (hb9.block _ hgb).trans hb, ⟨hb9.os.trans hI.bar.os, hb9.tape.trans hI.bar.tape, hb9.output.trans hI.bar.output, Nat.le_trans hI.bar.size hb9.size, fun k hk hn => (hb9.block k hk).trans (hI.bar.block k hk hn)⟩⟩

theorem turn_any {W : World} {gb gw : Nat} {B : List Int} (hB : NumsAt W gb 42 B) (hBl : B.length = 64) (hN : NumsAt W gw 46 wtL) (hin : ∀ j, -1099511627776 ≤ nthC B j ∧ nthC B j ≤ 1099511627776) (d : Bool) {f : Nat} (hf : f < 8) :
    Calls Try.prog 31 #[.pointer (some ⟨gb, 0, none⟩), .pointer (some ⟨gw, 0, none⟩), .int .i64 (plC d f 0 : Nat), .int .i64 (stpC d : Nat)] W fun e w' => e = .returned (.tuple #[]) ∧ NumsAt w' gb 42 (turnC d B f 8) ∧ Bar (fun k => k = gb) W w' :=
  callsIn_wide.1 (turn_in 4 (by omega) hB hBl hN hin d hf)

end Go.Proofs.Ytpmdeoiajnfabaa
