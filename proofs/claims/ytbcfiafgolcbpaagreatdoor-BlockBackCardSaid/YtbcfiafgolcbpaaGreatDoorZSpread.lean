/- scan's order, place by place: begin, order and what its func hands to a round; places. scan.places: the order as a table. scan.spread and scan.Spread: the block of pairs. -/
import Derived.Test.YtbcfiafgolcbpaaGreatDoorZArr
import Derived.Sort.LoopGhostIn
/- scan's order, place by place: begin, order and what its func hands to a round; places. -/
namespace Go.Proofs.YtbcfiafgolcbpaaGreatDoor
open Go.RowKit Go.Shelf
set_option linter.unusedVariables false
attribute [local go_sem] Oper.semAt_some

/-- how many places stand ahead of a diagonal -/
def dS (s : Nat) : Nat := [0, 1, 3, 6, 10, 15, 21, 28, 36, 43, 49, 54, 58, 61, 63][s]?.getD 64
def dX0 (s : Nat) : Int := if s % 2 = 0 then (s : Int) - min (s : Int) 7 else min (s : Int) 7
def dY0 (s : Nat) : Int := if s % 2 = 0 then min (s : Int) 7 else (s : Int) - min (s : Int) 7
def dSt (s : Nat) : Int := if s % 2 = 0 then 1 else -1
/-- the place that stands k-th, on a diagonal -/
def dX (s k : Nat) : Int := dX0 s + dSt s * ((k : Int) - dS s)
def dY (s k : Nat) : Int := dY0 s - dSt s * ((k : Int) - dS s)
theorem d_in : ∀ s : Fin 15, ∀ k : Fin 65, dS s ≤ k.val → k.val < dS (s + 1) → (0 ≤ dX s k ∧ dX s k < 8) ∧ (0 ≤ dY s k ∧ dY s k < 8) ∧ 8 * dY s k + dX s k = (ordAt k : Nat) := by decide +kernel
theorem d_out : ∀ s : Fin 15, dX s (dS (s + 1)) < 0 ∨ dY s (dS (s + 1)) < 0 ∨ 8 ≤ dX s (dS (s + 1)) ∨ 8 ≤ dY s (dS (s + 1)) := by decide +kernel
theorem d_le : ∀ s : Fin 15, dS s ≤ dS (s + 1) ∧ dS (s + 1) ≤ 64 ∧ (dSt s = 1 ∨ dSt s = -1) := by decide +kernel
theorem d_small : ∀ s : Fin 15, ∀ k : Fin 65, dS s ≤ k.val → k.val ≤ dS (s + 1) → (-2 ≤ dX s k ∧ dX s k ≤ 20) ∧ (-2 ≤ dY s k ∧ dY s k ≤ 20) := by decide +kernel
theorem dX_succ (s k : Nat) : dX s (k + 1) = dX s k + dSt s := by
  unfold dX dSt
  split <;> omega
theorem dY_succ (s k : Nat) : dY s (k + 1) = dY s k - dSt s := by
  unfold dY dSt
  split <;> omega
theorem dX_start (s : Nat) : dX s (dS s) = dX0 s := by unfold dX; simp
theorem dY_start (s : Nat) : dY s (dS s) = dY0 s := by unfold dY; simp

set_option maxHeartbeats 1000000 in
theorem begin_any (s : Nat) (hs : s < 15) (w : World) : Calls Tryz.prog 135 #[.int .i64 s] w fun e w' => e = .returned (.tuple #[.int .i64 (dX0 s), .int .i64 (dY0 s), .int .i64 (dSt s)]) ∧ w = w' := by
  have h : s = 0 ∨ s = 1 ∨ s = 2 ∨ s = 3 ∨ s = 4 ∨ s = 5 ∨ s = 6 ∨ s = 7 ∨ s = 8 ∨ s = 9 ∨ s = 10 ∨ s = 11 ∨ s = 12 ∨ s = 13 ∨ s = 14 := by omega
  rcases h with rfl | rfl | rfl | rfl | rfl | rfl | rfl | rfl | rfl | rfl | rfl | rfl | rfl | rfl | rfl
  all_goals
    go_enter Tryz.func135, Tryz.ntmps135
    go_wp2
    go_ret3
    exact ⟨rfl, rfl⟩

theorem order_in (F : Fence) (n : Nat) (hf : F.fn 118) (hro : F.round = none) (w : World) :
    CallsIn F n Tryz.prog 118 #[] w fun e w' => e = .returned (.func (.func 134) #[] #[]) ∧ w' = w := by
  refine callsIn_of_wp Tryz.func118 rfl hf ?_ hro
  simp only [Tryz.ntmps118, List.size_toArray, List.length_nil, Nat.reduceSub, Array.replicate_succ, Array.replicate_zero, List.push_toArray, List.append_toArray, List.nil_append]
  gi_wp2
  go_ret
  exact ⟨rfl, rfl⟩

set_option maxRecDepth 100000 in
set_option maxHeartbeats 2000000 in
theorem order1_in (n : Nat) (hn : 1 ≤ n) (l m : Nat) (J Jx : List Nat → World → Prop)
    (hY : ∀ pre x W, J pre W → pre.length < 64 → YieldAt Fence.wide (n - 1) Tryz.prog l #[.int .i64 (ordAt x : Nat)] W fun e W' =>
      (e = .returned (.bool true) ∧ J (pre ++ [x]) W' ∧ Below m W W') ∨ (e = .returned (.bool false) ∧ Jx (pre ++ [x]) W'))
    (W : World) (h0 : J [] W) :
    CallsIn Fence.wide n Tryz.prog 134 #[.func (.yield l) #[] #[]] W fun e W' => (∃ v, e = .returned v) ∧
      ((∃ ys, ys = List.range 64 ∧ J ys W') ∨ (∃ pre, (∃ k, k < 64 ∧ pre = List.range (k + 1)) ∧ Jx pre W')) := by
  refine callsIn_of_wp Tryz.func134 rfl trivial ?_ rfl
  simp only [Tryz.ntmps134, List.size_toArray, List.length_cons, List.length_nil, Nat.reduceAdd, Nat.reduceSub, Array.replicate_succ, Array.replicate_zero, List.push_toArray, List.append_toArray, List.nil_append, List.cons_append]
  have HY := Lib.hid hY
  clear hY
  gi_wp2
  refine wpIn_wide.2 (wp_scope_straight ((wpIn_wide (n := n)).1 ?_))
  gi_wp2
  refine wpIn_label ?_
  gi_wp2
  gi_loopw [6] (fun p wr => ∃ s : Nat, s ≤ 15 ∧ p = .int .i64 (s : Int) ∧ J (List.range (dS s)) wr) (fun p _ => 15 - (intOf p).toNat)
  case atStart => exact ⟨0, by omega, rfl, h0⟩
  case round =>
    obtain ⟨s, hs, rfl, hJs⟩ := hrel
    have HJs := Lib.hid hJs
    clear hJs
    by_cases hs2 : s < 15
    · have hb := begin_any s hs2
      have HB := Lib.hid hb
      obtain ⟨l1, l2, l3⟩ := d_le ⟨s, hs2⟩
      simp only at l1 l2 l3
      have HX := Lib.hid (fun k => dX_succ s k)
      have HYs := Lib.hid (fun k => dY_succ s k)
      clear hb
      gi_wp2_with (refine ⟨trivial, ?_⟩; gi_at_call 135; refine (callsIn_wide.2 (HB.out _)).mono ?_; rintro e w' ⟨rfl, rfl⟩)
      have F0 := Lib.hid (d_small ⟨s, hs2⟩)
      have F1 := Lib.hid (d_in ⟨s, hs2⟩)
      have F2 := Lib.hid (d_out ⟨s, hs2⟩)
      gi_loopg [3, 4] (dS (s + 1) - dS s) (fun gh x y wy => ∃ k : Nat, k + gh = dS (s + 1) ∧ dS s ≤ k ∧ x = .int .i64 (dX s k) ∧ y = .int .i64 (dY s k) ∧ J (List.range k) wy)
      case atStart => exact ⟨dS s, by omega, Nat.le_refl _, by rw [dX_start], by rw [dY_start], HJs.out⟩
      case round =>
        obtain ⟨k, hkg, hk0, rfl, rfl, hJk⟩ := hrel
        obtain ⟨⟨m1, m2⟩, m3, m4⟩ := F0.out ⟨k, by omega⟩ hk0 (show k ≤ dS (s + 1) by omega)
        simp only at m1 m2 m3 m4
        cases gk with
        | zero =>
          have hke : k = dS (s + 1) := by omega
          have HJk := Lib.hid hJk
          have ho := F2.out
          simp only at ho
          rw [← hke] at ho
          rw [hke] at HJk
          clear hJk hke hkg hk0
          generalize dX s k = x at *
          generalize dY s k = y at *
          have fin : ∀ wy, J (List.range (dS (s + 1))) wy → (∃ s_1 : Nat, s_1 ≤ 15 ∧ Value.int IntKind.i64 ((s : Int) + 1) = Value.int IntKind.i64 (s_1 : Int) ∧ J (List.range (dS s_1)) wy) ∧ 15 - (intOf (Value.int IntKind.i64 ((s : Int) + 1))).toNat < 15 - (intOf (Value.int IntKind.i64 (s : Int))).toNat :=
            fun wy hj => ⟨⟨s + 1, by omega, by go_num, hj⟩, by simp [intOf]; omega⟩
          have FIN := Lib.hid fin
          clear fin
          by_cases a1 : x < 0
          · gi_wp2
            exact FIN.out _ HJk.out
          · by_cases a2 : y < 0
            · gi_wp2
              exact FIN.out _ HJk.out
            · by_cases a3 : 8 ≤ x
              · gi_wp2
                exact FIN.out _ HJk.out
              · have a4 : 8 ≤ y := by omega
                gi_wp2
                exact FIN.out _ HJk.out
        | succ gh =>
          have hlt : k < dS (s + 1) := by omega
          obtain ⟨⟨i1, i2⟩, ⟨i3, i4⟩, i5⟩ := F1.out ⟨k, by omega⟩ hk0 hlt
          obtain ⟨fn, tmps, assign, body, hy, hR⟩ := HY.out _ k wr hJk (by simp; omega)
          simp only at i1 i2 i3 i4 i5
          rw [← i5] at hy
          have HXk := Lib.hid (HX.out k)
          have HYk := Lib.hid (HYs.out k)
          have b1 : -1 ≤ dSt s := by omega
          have b2 : dSt s ≤ 1 := by omega
          have HE := Lib.hid (show k + 1 + gh = dS (s + 1) by omega)
          clear i5 hJk l3 hkg
          generalize dX s k = x at *
          generalize dY s k = y at *
          generalize dSt s = st at *
          gi_wp2
          refine hR.mono ?_
          rintro e W3 (⟨rfl, hJ3, hk3⟩ | ⟨rfl, hJx3⟩)
          · have HJ3 := Lib.hid hJ3
            clear hJ3 hk3
            gi_wp2
            gi_roundg gh
            case measure => omega
            case rel => exact ⟨k + 1, HE.out, by omega, by rw [HXk.out], by rw [HYk.out], by rw [List.range_succ]; exact HJ3.out⟩
          · have HJx3 := Lib.hid hJx3
            clear hJx3
            gi_wp2
            try rw [Exit.noGoto_ret]
            refine bodyPost_ret (results_none rfl _ _ _) rfl ?_
            exact ⟨⟨_, rfl⟩, .inr ⟨_, ⟨k, by omega, by rw [List.range_succ]⟩, HJx3.out⟩⟩
    · obtain rfl : s = 15 := by omega
      gi_wp2
      refine show _ from Exit.noGoto_normal ▸ ?_
      gi_wp2
      go_end0
      exact ⟨⟨_, rfl⟩, .inl ⟨_, rfl, HJs.out⟩⟩

theorem order_stops (n : Nat) (hn : 1 ≤ n) (m : Nat) (w : World) :
    SeqStopsK Fence.wide n Tryz.prog 134 #[] (fun x : Nat => #[.int .i64 (ordAt x : Nat)]) (Below m) (fun ys => ys = List.range 64) (fun pre => ∃ k, k < 64 ∧ pre = List.range (k + 1)) 64 w := fun l J Jx W hW _ _ hY h0 =>
  order1_in n hn l m J Jx hY W h0

end Go.Proofs.YtbcfiafgolcbpaaGreatDoor

/- scan.places: the order as a table. -/
namespace Go.Proofs.YtbcfiafgolcbpaaGreatDoor
open Go.RowKit Go.Shelf
set_option linter.unusedVariables false
attribute [local go_sem] Oper.semAt_some

/-- the order as numbers -/
def orderI : List Int := orderL.map fun n => Int.ofNat n
theorem orderI_length : orderI.length = 64 := rfl
theorem orderV_length : (intV orderI).length = 64 := rfl
theorem orderA_size : (numsA orderI).size = 64 := rfl
theorem zerosA_size : (numsA zeros64).size = 64 := rfl
theorem orderI_get {k : Nat} (hk : k < 64) : orderI[k]?.getD 0 = (ordAt k : Nat) := by
  unfold orderI ordAt
  rw [List.getElem?_map]
  cases orderL[k]? <;> rfl
/-- the table, filled with so many places -/
def fillO (pre : List Nat) : List Int := pre.map (fun x => ((ordAt x : Nat) : Int)) ++ List.replicate (64 - pre.length) 0
theorem fillO_nil : fillO [] = zeros64 := rfl
theorem fillO_length {pre : List Nat} (h : pre.length ≤ 64) : (fillO pre).length = 64 := by simp [fillO]; omega
theorem fillO_snoc {pre : List Nat} {x : Nat} (h : pre.length < 64) : (fillO pre).set pre.length ((ordAt x : Nat) : Int) = fillO (pre ++ [x]) := by
  unfold fillO
  rw [show 64 - pre.length = (63 - pre.length) + 1 by omega, List.replicate_succ, List.set_append_right _ _ (by simp)]
  simp
theorem fillO_all : fillO (List.range 64) = orderI := by
  unfold fillO orderI
  rw [← ordAt_all]
  simp

/-- between two rounds of places -/
structure TabW (w : World) (pre : List Nat) (W : World) : Prop where
  below : Below w.heap.size w W
  size : w.heap.size + 3 ≤ W.heap.size
  res : NumsAt W w.heap.size 106 zeros64
  all : NumsAt W (w.heap.size + 1) 106 (fillO pre)
  cnt : W.heap[w.heap.size + 1 + 1]? = some (.cells #[.int .i64 (pre.length : Nat)] 3 (0, 0))
  le : pre.length ≤ 64

set_option maxRecDepth 100000 in
set_option maxHeartbeats 4000000 in
theorem places_in (n : Nat) (hn : 4 ≤ n) (w : World) :
    CallsIn Fence.wide n Tryz.prog 94 #[] w fun e w' => e = .returned (.agg (numsA orderI)) ∧ Below w.heap.size w w' := by
  have hn1 : 1 ≤ n := by omega
  have HO := Lib.hid (fun W => order_in Fence.wide (n - 1) trivial rfl W)
  refine callsIn_of_wp_marks Tryz.func94 rfl trivial ?_ rfl
  simp only [Tryz.ntmps94, List.size_toArray, List.length_nil, Nat.reduceSub, Array.replicate_succ, Array.replicate_zero, List.push_toArray, List.append_toArray, List.nil_append]
  gi_wp2_with (first | (with_reducible refine wpListIn_allocZ rfl 106 (numsA zeros64) rfl a64_zero ?_) | (refine ⟨trivial, ?_⟩; gi_at_call 118; refine (HO.out _).mono ?_; rintro e w' ⟨rfl, rfl⟩))
  have hB3 : Below w.heap.size w (((w.alloc (.cells (numsA zeros64) 106)).alloc (.cells (numsA zeros64) 106)).alloc (.cells #[.int .i64 0] 3)) :=
    (((Below.refl _ w).alloc (Nat.le_refl _) _).alloc (by simp) _).alloc (by simp; omega) _
  refine wpIn_rangeFunc_ownF rfl hn1 (gf := 134) (lb := #[]) rfl trivial (enters_of Tryz.func134 (by kernel_rfl) rfl)
    (order_stops (n - 1) (by omega) w.heap.size _) (fun h k => h.trans k) ?kb (Below.refl _ _) (fun _ => rfl)
    (fun pre W => TabW w pre W)
    (fun _ _ _ => False)
    ?own (fun _ _ _ _ _ hs _ _ => hs) ?start
    (fun x => { tmps := #[.pointer (some ⟨w.heap.size, 0, none⟩), .pointer (some ⟨w.heap.size + 1, 0, none⟩), .pointer (some ⟨w.heap.size + 1 + 1, 0, none⟩), .int .i64 (ordAt x : Nat), .func (.func 134) #[] #[], .int .i64 (ordAt x : Nat), undef, undef, undef, undef, undef, undef], defers := [] }) ?assign ?body ?done (fun _ _ _ _ _ _ h _ => h.elim)
  case kb =>
    intro W l o o' hl h1 h2 h3
    exact (Below.refl _ W).grown (grownBy_putObj' W l o') (by simp at hl; have := (Array.getElem?_eq_some_iff.1 h1).1; omega) (fun r e => by cases e; simp at hl; omega)
  case own =>
    intro pre A B row hI hg' hr
    have hr2 : ∀ r, row = some r → ∃ o : Obj, A.heap[r]? = some o ∧ o.isCells = false := fun r e => (hr r e).2
    obtain ⟨h1, h2, h3, h4, h5, h6⟩ := hI
    exact ⟨h1.grown hg' h1.size (fun r e => by have := (hr r e).1; simp at this; omega), Nat.le_trans h2 hg'.size, (grownBy_keeps_cells hg' hr2 h3 rfl).trans h3, (grownBy_keeps_cells hg' hr2 h4 rfl).trans h4, (grownBy_keeps_cells hg' hr2 h5 rfl).trans h5, h6⟩
  case start =>
    exact ⟨hB3, by simp, ((numsAt_new w _ _).alloc _).alloc _, (by have := (numsAt_new (w.alloc (.cells (numsA zeros64) 106)) 106 zeros64).alloc (.cells #[.int .i64 0] 3); rw [World.size_alloc] at this; exact this), (by have := World.alloc_heap_new ((w.alloc (.cells (numsA zeros64) 106)).alloc (.cells (numsA zeros64) 106)) (.cells #[.int .i64 0] 3); simpa using this), Nat.zero_le _⟩
  case assign =>
    intro l x W K hK
    gi_wp2
    exact hK
  case body =>
    rintro l pre x W hI hlt
    have c2 := (one_cell hI.cnt).1
    have f2 := (one_cell hI.cnt).2
    have c1 := hI.all.cell (k := pre.length) (by rw [fillO_length hI.le]; omega)
    have f1 := hI.all.frozen pre.length
    have HI := Lib.hid hI
    have hl1 : (pre ++ [x]).length = pre.length + 1 := by simp
    have HL1 := Lib.hid hl1
    have z1 : (0 : Int) ≤ ((pre.length : Nat) : Int) := by omega
    have z2 : ((pre.length : Nat) : Int) < 64 := by omega
    clear hI hl1
    gi_wp2
    have hI := HI.out
    refine ⟨(KeepsOthers.setCell _ _ _).trans (KeepsOthers.setCell _ _ _), ((Below.refl _ W).setCell (p := ⟨w.heap.size + 1, pre.length, none⟩) (by simp) _).setCell (p := ⟨w.heap.size + 1 + 1, 0, none⟩) (by simp; omega) _, ?_⟩
    refine ⟨(hI.below.setCell (p := ⟨w.heap.size + 1, pre.length, none⟩) (by simp) _).setCell (p := ⟨w.heap.size + 1 + 1, 0, none⟩) (by simp; omega) _, by simpa using hI.size, (hI.res.other (by simp) _).other (by simp; omega) _, ?_, ?_, by rw [HL1.out]; omega⟩
    · rw [← fillO_snoc hlt]
      exact (hI.all.set _ _).other (by simp) _
    · rw [HL1.out]
      exact heap_setCell_same _ (w.heap.size + 1 + 1) 0 _ _ _ ((heap_setCell_other _ _ _ _ (by simp)).trans hI.cnt)
  case done =>
    rintro D ys W hD rfl hI hK
    have hD' : w.heap.size ≤ D := by simp only [World.size_alloc] at hD; omega
    have HI := Lib.hid hI
    have HA := Lib.hid hI.all
    rw [fillO_all] at HA
    have HRes := Lib.hid (show W.heap[w.heap.size]? = some (.cells (numsA zeros64) 106 (0, 0)) from hI.res)
    clear hI
    gi_wp2_with (first | (with_reducible refine wpListIn_loadZ rfl 106 _ rfl ⟨w.heap.size + 1, 0, none⟩ rfl (intV orderI) HA.out.cells 64 3 a64_under 64 orderV_length a64_info ?_) | (with_reducible refine wpListIn_storeZ rfl 106 _ _ rfl w.heap.size (numsA orderI) rfl rfl 106 (numsA zeros64) HRes.out 64 orderA_size a64_info zerosA_size (numsA_one _) ?_))
    have hD3 : w.heap.size + 3 ≤ D := by simp only [World.size_alloc] at hD; omega
    have hK5 : (W.setRow w.heap.size (numsA orderI)).heap[D]? = some (.deferred (some [])) := (setRow_other W w.heap.size D _ (by omega)).trans hK
    have hR5 : (W.setRow w.heap.size (numsA orderI)).heap[w.heap.size]? = some (.cells (numsA orderI) 106 (0, 0)) := setRow_heap W w.heap.size _ _ _ _ HRes.out
    refine ⟨by simp, .inl ⟨_, _, rfl, run_takeDeferred hK5, ?_⟩⟩
    have hR6 := (grownBy_keeps_cells (grownBy_putObj' (W.setRow w.heap.size (numsA orderI)) D (.deferred none)) (fun r e => by cases e; exact ⟨_, hK5, rfl⟩) hR5 rfl).trans hR5
    refine ⟨.agg (numsA orderI), results_cell_row rfl _ _ w.heap.size 106 (numsA orderI) (0, 0) (.array 64 3) rfl hR6 a64_under rfl a64_info, rfl, ?_⟩
    exact (below_setRowZ HI.out.below (Nat.le_refl _) _).trans (belowK_b (w := w) (Nat.le_refl _) _ D _ _ hD' hK5 rfl rfl)

theorem places_any (w : World) : Calls Tryz.prog 94 #[] w fun e w' => e = .returned (.agg (numsA orderI)) ∧ Below w.heap.size w w' := callsIn_wide.1 (places_in 4 (by omega) w)

/-! ### the small functions -/
theorem isFirst_any (x : Int) (w : World) : Calls Tryz.prog 68 #[.int .i64 x] w fun e w' => e = .returned (.bool (decide (x = 0 ∨ x = 1))) ∧ w = w' := by
  have h : x = 0 ∨ x = 1 ∨ (x ≠ 0 ∧ x ≠ 1) := by omega
  rcases h with rfl | rfl | ⟨h1, h2⟩
  · go_enter Tryz.func68, Tryz.ntmps68
    go_wp2
    go_ret
    exact ⟨rfl, rfl⟩
  · go_enter Tryz.func68, Tryz.ntmps68
    go_wp2
    go_ret
    exact ⟨rfl, rfl⟩
  · have e0 : (x == 0) = false := by simpa using h1
    have e1 : (x == 1) = false := by simpa using h2
    have hd : decide (x = 0 ∨ x = 1) = false := by simp [h1, h2]
    rw [hd]
    clear h1 h2 hd
    go_enter Tryz.func68, Tryz.ntmps68
    go_wp2
    go_ret
    exact ⟨rfl, rfl⟩
theorem isLevel_any (x : Int) (w : World) : Calls Tryz.prog 95 #[.int .i64 x] w fun e w' => e = .returned (.bool (okLv x)) ∧ w = w' := by
  by_cases h0 : x = 0
  · subst h0
    go_enter Tryz.func95, Tryz.ntmps95
    go_wp2
    go_ret
    exact ⟨rfl, rfl⟩
  · have e0 : (x != 0) = true := by simpa using h0
    by_cases h1 : -127 ≤ x
    · have hr : okLv x = decide (x ≤ 127) := by simp [okLv, h0, h1]
      rw [hr]
      clear h0 hr
      by_cases h2 : x ≤ 127
      · go_enter Tryz.func95, Tryz.ntmps95
        go_wp2
        go_ret
        exact ⟨by simp [h2], rfl⟩
      · go_enter Tryz.func95, Tryz.ntmps95
        go_wp2
        go_ret
        exact ⟨by simp [h2], rfl⟩
    · have hr : okLv x = false := by simp [okLv, h1]
      rw [hr]
      clear h0 hr
      go_enter Tryz.func95, Tryz.ntmps95
      go_wp2
      go_ret
      exact ⟨rfl, rfl⟩
end Go.Proofs.YtbcfiafgolcbpaaGreatDoor

/- scan.spread and scan.Spread: the block of pairs. -/
namespace Go.Proofs.YtbcfiafgolcbpaaGreatDoor
open Go.RowKit Go.Shelf
set_option linter.unusedVariables false

theorem built_nums : Tryz.prog.built 107 [] = some (numsA zeros64) := by kernel_rfl
theorem zerosN_size : (numsA zeros64).size = 64 := rfl
section
variable {P : Program} {ops : Array Oper} {rest : List Oper} {o : Oper} {a : Act} {w : World} {Q : Exit → Act → World → Prop}
theorem wpList_buildZ (hg : o.guard = none) (t : TypeId) (ho : o.op = .build t #[]) (cells : Array Value) (hb : P.built t [] = some cells)
    (h : wpList P ops Q rest (a.put o.dst (.agg cells)) w) : wpList P ops Q (o :: rest) a w := by
  refine wpList_build hg t #[] ho ?_ ?_
  · simp [hb]
  · simpa [hb] using h
theorem results_cell_tmp {fn : Func} {p q : Tmp} {ty : TypeId} (h : fn.results = #[.cell p ty, .tmp q]) (tmps : Array Value) (w : World) (g : Nat) (t : TypeId) (cs : Array Value) (fr : Nat × Nat) (d : TypeDesc)
    (hp : tmps.getD p undef = .pointer (some ⟨g, 0, none⟩)) (v : Value) (hq : tmps.getD q undef = v) (hg : w.heap[g]? = some (.cells cs t fr))
    (hu : P.underlying ty = some d) (hd : (match d with | .struct _ | .array _ _ => true | _ => false) = true) (hi : (P.info? ty).map (·.size) = some cs.size) :
    (results fn tmps).run P w = .ok (.tuple #[.agg cs, v]) w := by
  have hq' : tmps[q]?.getD undef = v := by simpa using hq
  have hp' : tmps[p]?.getD undef = .pointer (some ⟨g, 0, none⟩) := by simpa using hp
  simp [results, h, hp', hq', asAddr, run_loadVar_row w g t ty cs fr d hg hu hd hi]
end

/-- what spread answers: the block, noughts where there is none -/
def sprB (R : Int × List Int) : List Int := if R.1 = 0 then R.2 else zeros64
theorem spr_step {r l : Int} {rest : List (Int × Int)} {a : Nat} {b : List Int} (h1 : okLv l = true) (h2 : 0 ≤ r) (h3 : (a : Int) + r < 64) : spr ((r, l) :: rest) a b = spr rest (a + r.toNat + 1) (b.set (ordAt (a + r.toNat)) l) := by
  conv => lhs; unfold spr
  rw [if_neg (by simp [h1]), if_neg (by omega)]
theorem spr_lv {r l : Int} {rest : List (Int × Int)} {a : Nat} {b : List Int} (h1 : okLv l = false) : spr ((r, l) :: rest) a b = (10, []) := by
  unfold spr
  rw [if_pos h1]
theorem spr_run {r l : Int} {rest : List (Int × Int)} {a : Nat} {b : List Int} (h1 : okLv l = true) (h2 : r < 0 ∨ 64 - (a : Int) ≤ r) : spr ((r, l) :: rest) a b = (11, []) := by
  unfold spr
  rw [if_neg (by simp [h1]), if_pos h2]

/-- between two rounds of spread -/
structure SprW (w : World) (G : Nat) (blk : List Int) (W : World) : Prop where
  below : Below w.heap.size w W
  res : NumsAt W w.heap.size 107 zeros64
  blk : NumsAt W (w.heap.size + 1) 107 blk
  tab : NumsAt W G 106 orderI
  lo : w.heap.size + 2 ≤ G
theorem SprW.alloc {w W : World} {G : Nat} {blk : List Int} (h : SprW w G blk W) (o : Obj) : SprW w G blk (W.alloc o) := ⟨h.below.alloc h.below.size o, h.res.alloc o, h.blk.alloc o, h.tab.alloc o, h.lo⟩
theorem SprW.drew {w W : World} {G : Nat} {blk : List Int} (h : SprW w G blk W) : SprW w G blk W.drew := ⟨h.below.drew, h.res, h.blk, h.tab, h.lo⟩
theorem SprW.set {w W : World} {G : Nat} {blk : List Int} (h : SprW w G blk W) (k : Nat) (x : Int) : SprW w G (blk.set k x) (W.setCell ⟨w.heap.size + 1, k, none⟩ (.int .i64 x)) :=
  ⟨h.below.setCell (p := ⟨w.heap.size + 1, k, none⟩) (by simp) _, h.res.other (by simp) _, h.blk.set k x, h.tab.other (by have := h.lo; simp; omega) _, h.lo⟩
theorem SprW.pair {w W : World} {G p i : Nat} {blk : List Int} (h : SprW w G blk W) (hp : G < p) (v : Value) : SprW w G blk (W.setCell ⟨p, i, none⟩ v) := by
  have := h.lo
  exact ⟨h.below.setCell (p := ⟨p, i, none⟩) (by simp; omega) _, h.res.other (by simp; omega) _, h.blk.other (by simp; omega) _, h.tab.other (by simp; omega) _, h.lo⟩

set_option maxRecDepth 100000 in
set_option maxHeartbeats 4000000 in
theorem zspread_any {n₀ : Nat} {w : World} {av : Option Addr} {len cap : Nat} {ps : List (Int × Int)} (hR : RowP n₀ w av len cap ps) (hn : n₀ ≤ w.heap.size) (hlen : len ≤ 1000000) (first : Nat) (hf : first ≤ 1) :
    Calls Tryz.prog 69 #[.slice av len cap, .int .i64 first] w fun e w' => e = .returned (.tuple #[.agg (numsA (sprB (spr ps first zeros64))), .int .i64 (spr ps first zeros64).1]) ∧ Below w.heap.size w w' := by
  have hl := hR.1
  have HR := Lib.hid hR
  have HP := Lib.hid (fun W => places_any W)
  have HL := Lib.hid (fun x W => isLevel_any x W)
  obtain ⟨R, hRes⟩ : ∃ R, spr ps first zeros64 = R := ⟨_, rfl⟩
  rw [hRes]
  have HRes := Lib.hid hRes
  clear hR hRes
  go_enter Tryz.func69, Tryz.ntmps69
  go_wp2_with (first
    | (with_reducible refine wpList_allocZ rfl 107 (numsA zeros64) rfl nums_zero ?_)
    | (with_reducible refine wpList_allocZ rfl 106 (numsA zeros64) rfl a64_zero ?_)
    | (with_reducible refine stop_storeZ 106 _ _ rfl ?_; refine Hid.out ?_)
    | (go_at_call 94; refine (HP.out _).mono ?_; rintro e w1 ⟨rfl, hb1⟩; have HB1 := Lib.hid hb1; clear hb1))
  refine Lib.hid ?_
  refine wpList_storeZ rfl 106 _ _ rfl w1.heap.size (numsA orderI) rfl rfl 106 (numsA zeros64) (World.alloc_heap_new _ _) 64 orderA_size a64_info zerosA_size (numsA_one _) ?_
  rw [World.setRow_alloc_new]
  have hb0 : Below w.heap.size w ((w.alloc (.cells (numsA zeros64) 107)).alloc (.cells (numsA zeros64) 107)) := ((Below.refl _ w).alloc (Nat.le_refl _) _).alloc (by simp) _
  have hs1 := HB1.out.size
  simp only [World.size_alloc] at hs1
  have hS : SprW w w1.heap.size zeros64 (w1.alloc (.cells (numsA orderI) 106)) := by
    have e0 : NumsAt w1 w.heap.size 107 zeros64 := ((numsAt_new w 107 zeros64).alloc _).below HB1.out (by simp; omega)
    have e1 : NumsAt w1 (w.heap.size + 1) 107 zeros64 := by
      have := (numsAt_new (w.alloc (.cells (numsA zeros64) 107)) 107 zeros64).below HB1.out (by simp)
      rw [World.size_alloc] at this
      exact this
    exact ⟨(hb0.trans (HB1.out.mono hb0.size)).alloc (by omega) _, e0.alloc _, e1.alloc _, numsAt_new _ _ _, by omega⟩
  have HS := Lib.hid hS
  have hG : w1.heap.size < (w1.alloc (.cells (numsA orderI) 106)).heap.size := by simp
  clear hb0 hS HB1
  generalize w1.alloc (.cells (numsA orderI) 106) = w2 at *
  generalize w1.heap.size = G at *
  generalize hzA : numsA orderI = TA at *
  have HzA := Lib.hid hzA
  clear hzA
  go_wp2_with fail
  go_loopw [8, 15] (fun nx k wr => ∃ (j na : Nat) (blk : List Int), k = .int .i64 j ∧ j ≤ len ∧ nx = .int .i64 na ∧ na ≤ 64 ∧ blk.length = 64 ∧ spr (ps.drop j) na blk = R ∧ SprW w G blk wr) (fun _ k _ => len - (intOf k).toNat)
  case atStart => exact ⟨0, first, zeros64, rfl, by omega, rfl, by omega, rfl, HRes.out, HS.out⟩
  case round =>
    obtain ⟨j, na, blk, rfl, hj, rfl, hna, hbl, hsp, hS2⟩ := hrel
    have HS2 := Lib.hid hS2
    have HSp := Lib.hid hsp
    clear hsp hS2
    by_cases hj2 : j < len
    · have hjp : j < ps.length := by omega
      have hd : ps.drop j = ps[j] :: ps.drop (j + 1) := List.drop_eq_getElem_cons hjp
      rw [hd] at HSp
      have hpj : ps[j]? = some ps[j] := List.getElem?_eq_getElem hjp
      rcases HR.out.2.2.2 with h0 | ⟨b, off, rfl, hb, hc⟩
      · have := HR.out.2.1
        omega
      have hb2 : b < w.heap.size := by have := hb (by omega); omega
      obtain ⟨x1, x2⟩ := hc.below HS2.out.below hb2 j _ hpj
      clear hd hpj hc
      generalize ps[j] = p at *
      obtain ⟨r, l⟩ := p
      simp only at x1 x2
      have q1 : (j : Int) < (len : Int) := by omega
      have q2 : (0 : Int) ≤ (j : Int) := by omega
      have hsz := HS2.out.below.size
      have hGw := HS2.out.tab.lt
      have HSA := Lib.hid (HS2.out.alloc (.cells #[.int .i64 r, .int .i64 l] 66 (0, 0)))
      obtain ⟨y0, y1⟩ := two_cells wr (.int .i64 r) (.int .i64 l) 66
      cases hok : okLv l with
      | false =>
        have hR0 := spr_lv (rest := ps.drop (j + 1)) (a := na) (b := blk) (r := r) hok
        have HR0 : Hid (R = (10, [])) := by show R = _; rw [← HSp.out, hR0]
        have HLl := Lib.hid (fun W => HL.out l W)
        rw [hok] at HLl
        clear hR0 hok
        go_wp2_with (first
          | (go_at_call 95; refine (HLl.out _).mono ?_; rintro e w' ⟨rfl, rfl⟩)
          | (with_reducible refine wpList_buildZ rfl 107 rfl (numsA zeros64) built_nums ?_)
          | (with_reducible refine stop_storeZ 107 _ _ rfl ?_; refine Hid.out ?_))
        have HZ := Lib.hid (show (wr.alloc (.cells #[.int .i64 r, .int .i64 l] 66 (0, 0))).heap[w.heap.size]? = some (.cells (numsA zeros64) 107 (0, 0)) from HSA.out.res)
        have HSB := Lib.hid HSA.out.below
        refine Lib.hid ?_
        clear y0 y1 x1 x2
        generalize wr.alloc (.cells #[.int .i64 r, .int .i64 l] 66 (0, 0)) = w5 at *
        go_wp2_with (with_reducible refine wpList_storeZ rfl 107 _ _ rfl w.heap.size (numsA zeros64) rfl rfl 107 (numsA zeros64) HZ.out 64 zerosN_size nums_info zerosN_size (numsA_one _) ?_)
        have hR6 : (w5.setRow w.heap.size (numsA zeros64)).heap[w.heap.size]? = some (.cells (numsA zeros64) 107 (0, 0)) := setRow_heap w5 w.heap.size _ _ _ _ HZ.out
        exact bodyPost_ret (v := .tuple #[.agg (numsA zeros64), .int .i64 10]) (results_cell_tmp (fn := Tryz.f69) (p := 4) (q := 5) (ty := 107) rfl _ _ w.heap.size 107 (numsA zeros64) (0, 0) (.array 64 3) rfl _ rfl hR6 nums_under rfl nums_info) rfl ⟨by rw [HR0.out]; rfl, below_setRowZ HSB.out (Nat.le_refl _) _⟩
      | true =>
        have HLl := Lib.hid (fun W => HL.out l W)
        rw [hok] at HLl
        by_cases hin : r < 0 ∨ 64 - (na : Int) ≤ r
        · have hR0 := spr_run (rest := ps.drop (j + 1)) (a := na) (b := blk) (r := r) hok hin
          have HR0 : Hid (R = (11, [])) := by show R = _; rw [← HSp.out, hR0]
          clear hR0 hok
          have fin : ∀ w5 : World, w5 = wr.alloc (.cells #[.int .i64 r, .int .i64 l] 66 (0, 0)) → w5.heap[w.heap.size]? = some (.cells (numsA zeros64) 107 (0, 0)) ∧ Below w.heap.size w w5 := fun w5 e => by subst e; exact ⟨HSA.out.res, HSA.out.below⟩
          have FIN := Lib.hid fin
          clear fin
          by_cases h0 : r < 0
          · clear hin
            go_wp2_with (first
              | (go_at_call 95; refine (HLl.out _).mono ?_; rintro e w' ⟨rfl, rfl⟩)
              | (with_reducible refine wpList_buildZ rfl 107 rfl (numsA zeros64) built_nums ?_)
              | (with_reducible refine wpList_storeZ rfl 107 _ _ rfl w.heap.size (numsA zeros64) rfl rfl 107 (numsA zeros64) (FIN.out _ rfl).1 64 zerosN_size nums_info zerosN_size (numsA_one _) ?_))
            obtain ⟨f1, f2⟩ := FIN.out _ rfl
            have hR6 := setRow_heap _ w.heap.size _ (numsA zeros64) _ _ f1
            exact bodyPost_ret (v := .tuple #[.agg (numsA zeros64), .int .i64 11]) (results_cell_tmp (fn := Tryz.f69) (p := 4) (q := 5) (ty := 107) rfl _ _ w.heap.size 107 (numsA zeros64) (0, 0) (.array 64 3) rfl _ rfl hR6 nums_under rfl nums_info) rfl ⟨by rw [HR0.out]; rfl, below_setRowZ f2 (Nat.le_refl _) _⟩
          · have h1 : 64 - (na : Int) ≤ r := by omega
            clear hin
            go_wp2_with (first
              | (go_at_call 95; refine (HLl.out _).mono ?_; rintro e w' ⟨rfl, rfl⟩)
              | (with_reducible refine wpList_buildZ rfl 107 rfl (numsA zeros64) built_nums ?_)
              | (with_reducible refine wpList_storeZ rfl 107 _ _ rfl w.heap.size (numsA zeros64) rfl rfl 107 (numsA zeros64) (FIN.out _ rfl).1 64 zerosN_size nums_info zerosN_size (numsA_one _) ?_))
            obtain ⟨f1, f2⟩ := FIN.out _ rfl
            have hR6 := setRow_heap _ w.heap.size _ (numsA zeros64) _ _ f1
            exact bodyPost_ret (v := .tuple #[.agg (numsA zeros64), .int .i64 11]) (results_cell_tmp (fn := Tryz.f69) (p := 4) (q := 5) (ty := 107) rfl _ _ w.heap.size 107 (numsA zeros64) (0, 0) (.array 64 3) rfl _ rfl hR6 nums_under rfl nums_info) rfl ⟨by rw [HR0.out]; rfl, below_setRowZ f2 (Nat.le_refl _) _⟩
        · obtain ⟨nr, rfl⟩ : ∃ nr : Nat, r = nr := ⟨r.toNat, by omega⟩
          have h0 : 0 ≤ (nr : Int) := by omega
          have h1 : (na : Int) + nr < 64 := by omega
          have h2 : ¬ (nr : Int) < 0 := by omega
          have h3 : ¬ 64 - (na : Int) ≤ (nr : Int) := by omega
          have hsp2 := spr_step (rest := ps.drop (j + 1)) (b := blk) hok h0 h1
          rw [Int.toNat_natCast] at hsp2
          have HSp2 : Hid (spr (ps.drop (j + 1)) (na + nr + 1) (blk.set (ordAt (na + nr)) l) = R) := by show _ = R; rw [← HSp.out, hsp2]
          clear hsp2 hok hin
          go_wp2_with (go_at_call 95; refine (HLl.out _).mono ?_; rintro e w' ⟨rfl, rfl⟩)
          obtain ⟨M, hM⟩ : ∃ M : Nat, na + nr = M := ⟨_, rfl⟩
          have hMi : (na : Int) + (nr : Int) = (M : Int) := by omega
          have hM64 : M < 64 := by omega
          have hM65 : (M : Int) < 64 := by omega
          have hM0 : (0 : Int) ≤ (M : Int) := by omega
          rw [hM] at HSp2
          rw [hMi]
          have hoM := ordAt_lt M
          have hoI : ((ordAt M : Nat) : Int) < 64 := by omega
          have hoJ : (0 : Int) ≤ ((ordAt M : Nat) : Int) := by omega
          have c0 := HSA.out.tab.cell (k := M) (by rw [orderI_length]; exact hM64)
          rw [orderI_get hM64] at c0
          have c2 := HSA.out.blk.cell (k := ordAt M) (by omega)
          have f2 := HSA.out.blk.frozen (ordAt M)
          have hpb : wr.heap.size < (wr.alloc (.cells #[.int .i64 nr, .int .i64 l] 66 (0, 0))).heap.size := by simp
          have hpG := HS2.out.tab.lt
          clear x1 x2 y0 hMi h0 h1 h2 h3
          generalize wr.alloc (.cells #[.int .i64 nr, .int .i64 l] 66 (0, 0)) = w5 at *
          generalize wr.heap.size = pb at *
          generalize ordAt M = oM at *
          go_region
          have HBl2 := Lib.hid (show (blk.set oM l).length = 64 by simp [hbl])
          clear c0 c2 f2
          go_wp2
          go_roundw
          case rel => exact ⟨j + 1, M + 1, blk.set oM l, by go_num, by omega, by go_num, by omega, HBl2.out, HSp2.out, (HSA.out.set oM l).drew⟩
          case measure => simp [intOf]; omega
    · obtain rfl : j = len := by omega
      have hR0 : R = (0, blk) := by rw [← HSp.out, List.drop_eq_nil_of_le (by omega)]; rfl
      have HR0 := Lib.hid hR0
      have HBl := Lib.hid HS2.out.blk.cells
      have HRs := Lib.hid (show wr.heap[w.heap.size]? = some (.cells (numsA zeros64) 107 (0, 0)) from HS2.out.res)
      have HLn := Lib.hid (show (intV blk).length = 64 by simp [hbl])
      have HAs := Lib.hid (show (numsA blk).size = 64 by simp [hbl])
      clear hR0
      go_wp2_with (first
        | (with_reducible refine wpList_loadZ rfl 107 _ rfl ⟨w.heap.size + 1, 0, none⟩ rfl (intV blk) HBl.out 64 3 nums_under 64 HLn.out nums_info ?_)
        | (with_reducible refine wpList_storeZ rfl 107 _ _ rfl w.heap.size (numsA blk) rfl rfl 107 (numsA zeros64) HRs.out 64 HAs.out nums_info zerosN_size (numsA_one _) ?_))
      have hR6 : (wr.setRow w.heap.size (numsA blk)).heap[w.heap.size]? = some (.cells (numsA blk) 107 (0, 0)) := setRow_heap wr w.heap.size _ _ _ _ HRs.out
      exact bodyPost_ret (v := .tuple #[.agg (numsA blk), .int .i64 0]) (results_cell_tmp (fn := Tryz.f69) (p := 4) (q := 5) (ty := 107) rfl _ _ w.heap.size 107 (numsA blk) (0, 0) (.array 64 3) rfl _ rfl hR6 nums_under rfl (by rw [HAs.out]; exact nums_info)) rfl ⟨by rw [HR0.out]; rfl, below_setRowZ HS2.out.below (Nat.le_refl _) _⟩

theorem spr_err : ∀ (ps : List (Int × Int)) (a : Nat) (b : List Int), (spr ps a b).1 ≠ 0 → (spr ps a b).2 = []
  | [], _, _, h => absurd rfl h
  | (r, l) :: rest, a, b, h => by
    unfold spr at h ⊢
    split
    · rfl
    · rename_i h1
      rw [if_neg h1] at h
      split
      · rfl
      · rename_i h2
        rw [if_neg h2] at h
        exact spr_err rest _ _ h

set_option maxRecDepth 100000 in
set_option maxHeartbeats 2000000 in
theorem spreadZ_any {n₀ : Nat} {w : World} {av : Option Addr} {len cap : Nat} {ps : List (Int × Int)} (hR : RowP n₀ w av len cap ps) (hn : n₀ ≤ w.heap.size) (hlen : len ≤ 1000000) (first : Int) :
    Calls Tryz.prog 43 #[.slice av len cap, .int .i64 first] w fun e w' => ∃ v, e = .returned (.tuple #[v, .int .i64 (sprR ps first).1]) ∧ OwnI w' w.heap.size v (sprR ps first).2 ∧ Below w.heap.size w w' := by
  have HF := Lib.hid (fun W => isFirst_any first W)
  by_cases h : first = 0 ∨ first = 1
  · obtain ⟨k, rfl⟩ : ∃ k : Nat, first = k := ⟨first.toNat, by omega⟩
    have hk : k ≤ 1 := by omega
    have HS := Lib.hid (zspread_any hR hn hlen k hk)
    have hsR : sprR ps k = spr ps k zeros64 := by unfold sprR; rw [if_pos h, Int.toNat_natCast]
    rw [hsR]
    have herr := spr_err ps k zeros64
    have hlen64 := spr_length ps k zeros64 rfl
    rw [show decide ((k : Int) = 0 ∨ (k : Int) = 1) = true from decide_eq_true h] at HF
    clear hsR h hR
    generalize spr ps k zeros64 = R at *
    by_cases h0 : R.1 = 0
    · have hB : sprB R = R.2 := by unfold sprB; rw [if_pos h0]
      rw [hB] at HS
      rw [h0] at HS ⊢
      have h64 := hlen64 h0
      clear hB herr hlen64 h0
      generalize R.2 = blk at *
      have HAs := Lib.hid (show (numsA blk).size = 64 by simp [h64])
      go_enter Tryz.func43, Tryz.ntmps43
      go_wp2_with (first
        | (go_at_call 68; refine (HF.out _).mono ?_; rintro e w' ⟨rfl, rfl⟩)
        | (go_at_call 69; refine HS.out.mono ?_; rintro e w1 ⟨rfl, hb1⟩; have HB1 := Lib.hid hb1; clear hb1)
        | (with_reducible refine wpList_allocZ rfl 107 (numsA zeros64) rfl nums_zero ?_)
        | (with_reducible refine wpList_storeZ rfl 107 _ _ rfl w1.heap.size (numsA blk) rfl rfl 107 (numsA zeros64) (World.alloc_heap_new _ _) 64 HAs.out nums_info zerosN_size (numsA_one _) ?_))
      go_ret2
      rw [World.setRow_alloc_new]
      exact ⟨_, rfl, ⟨107, by rw [h64]; exact (numsAt_new _ _ _).own h64 HB1.out.size⟩, HB1.out.alloc HB1.out.size _⟩
    · have hB : sprB R = zeros64 := by unfold sprB; rw [if_neg h0]
      rw [hB] at HS
      rw [herr h0]
      have hne : (R.1 != 0) = true := by simpa using h0
      clear hB herr hlen64 h0
      generalize R.1 = err at *
      go_enter Tryz.func43, Tryz.ntmps43
      go_wp2_with (first
        | (go_at_call 68; refine (HF.out _).mono ?_; rintro e w' ⟨rfl, rfl⟩)
        | (go_at_call 69; refine HS.out.mono ?_; rintro e w1 ⟨rfl, hb1⟩; have HB1 := Lib.hid hb1; clear hb1)
        | (with_reducible refine wpList_allocZ rfl 107 (numsA zeros64) rfl nums_zero ?_)
        | (with_reducible refine wpList_storeZ rfl 107 _ _ rfl w1.heap.size (numsA zeros64) rfl rfl 107 (numsA zeros64) (World.alloc_heap_new _ _) 64 zerosN_size nums_info zerosN_size (numsA_one _) ?_))
      go_ret2
      rw [World.setRow_alloc_new]
      exact ⟨_, rfl, ownI_nil _ _, HB1.out.alloc HB1.out.size _⟩
  · have hsR : sprR ps first = (3, []) := by unfold sprR; rw [if_neg h]
    rw [hsR]
    rw [show decide (first = 0 ∨ first = 1) = false from decide_eq_false h] at HF
    clear hsR h
    go_enter Tryz.func43, Tryz.ntmps43
    go_wp2_with (go_at_call 68; refine (HF.out _).mono ?_; rintro e w' ⟨rfl, rfl⟩)
    go_ret2
    exact ⟨_, rfl, ownI_nil _ _, Below.refl _ _⟩

end Go.Proofs.YtbcfiafgolcbpaaGreatDoor
