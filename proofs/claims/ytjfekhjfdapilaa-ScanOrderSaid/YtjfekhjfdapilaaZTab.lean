/- scan.places: the order as a table. -/
import Derived.Test.YtjfekhjfdapilaaZGet
namespace Go.Proofs.Ytjfekhjfdapilaa
open Go.RowKit Go.Shelf
set_option linter.unusedVariables false
attribute [local go_sem] Oper.semAt_some

/-- the order as numbers -/
def orderI : List Int := orderL.map fun n => Int.ofNat n
theorem orderI_length : orderI.length = 64 := rfl
theorem orderV_length : (intV orderI).length = 64 := rfl
theorem orderA_size : (numsA orderI).size = 64 := rfl
theorem zerosA_size : (numsA zeros64).size = 64 := rfl
theorem orderI_get {k : Nat} (hk : k < 64) : orderI[k]?.getD 0 = (ordAt k : Nat) := by
  unfold orderI ordAt
  rw [List.getElem?_map]
  cases orderL[k]? <;> rfl
/-- the table, filled with so many places -/
def fillO (pre : List Nat) : List Int := pre.map (fun x => ((ordAt x : Nat) : Int)) ++ List.replicate (64 - pre.length) 0
theorem fillO_nil : fillO [] = zeros64 := rfl
theorem fillO_length {pre : List Nat} (h : pre.length ≤ 64) : (fillO pre).length = 64 := by simp [fillO]; omega
theorem fillO_snoc {pre : List Nat} {x : Nat} (h : pre.length < 64) : (fillO pre).set pre.length ((ordAt x : Nat) : Int) = fillO (pre ++ [x]) := by
  unfold fillO
  rw [show 64 - pre.length = (63 - pre.length) + 1 by omega, List.replicate_succ, List.set_append_right _ _ (by simp)]
  simp
theorem fillO_all : fillO (List.range 64) = orderI := by
  unfold fillO orderI
  rw [← ordAt_all]
  simp

/-- between two rounds of places -/
structure TabW (w : World) (pre : List Nat) (W : World) : Prop where
  below : Below w.heap.size w W
  size : w.heap.size + 3 ≤ W.heap.size
  res : NumsAt W w.heap.size 49 zeros64
  all : NumsAt W (w.heap.size + 1) 49 (fillO pre)
  cnt : W.heap[w.heap.size + 1 + 1]? = some (.cells #[.int .i64 (pre.length : Nat)] 3 (0, 0))
  le : pre.length ≤ 64

set_option maxRecDepth 100000 in
set_option maxHeartbeats 4000000 in
theorem places_in (n : Nat) (hn : 4 ≤ n) (w : World) :
    CallsIn Fence.wide n Try.prog 28 #[] w fun e w' => e = .returned (.agg (numsA orderI)) ∧ Below w.heap.size w w' := by
  have hn1 : 1 ≤ n := by omega
  have HO := Lib.hid (fun W => order_in Fence.wide (n - 1) trivial rfl W)
  refine callsIn_of_wp_marks Try.func28 rfl trivial ?_ rfl
  simp only [Try.ntmps28, List.size_toArray, List.length_nil, Nat.reduceSub, Array.replicate_succ, Array.replicate_zero, List.push_toArray, List.append_toArray, List.nil_append]
  gi_wp2_with (first | (with_reducible refine wpListIn_allocZ rfl 49 (numsA zeros64) rfl a64_zero ?_) | (refine ⟨trivial, ?_⟩; gi_at_call 32; refine (HO.out _).mono ?_; rintro e w' ⟨rfl, rfl⟩))
  have hB3 : Below w.heap.size w (((w.alloc (.cells (numsA zeros64) 49)).alloc (.cells (numsA zeros64) 49)).alloc (.cells #[.int .i64 0] 3)) :=
    (((Below.refl _ w).alloc (Nat.le_refl _) _).alloc (by simp) _).alloc (by simp; omega) _
  refine wpIn_rangeFunc_ownF rfl hn1 (gf := 33) (lb := #[]) rfl trivial (enters_of Try.func33 (by kernel_rfl) rfl)
    (order_stops (n - 1) (by omega) w.heap.size _) (fun h k => h.trans k) ?kb (Below.refl _ _) (fun _ => rfl)
    (fun pre W => TabW w pre W)
    (fun _ _ _ => False)
    ?own (fun _ _ _ _ _ hs _ _ => hs) ?start
    (fun x => { tmps := #[.pointer (some ⟨w.heap.size, 0, none⟩), .pointer (some ⟨w.heap.size + 1, 0, none⟩), .pointer (some ⟨w.heap.size + 1 + 1, 0, none⟩), .int .i64 (ordAt x : Nat), .func (.func 33) #[] #[], .int .i64 (ordAt x : Nat), undef, undef, undef, undef, undef, undef], defers := [] }) ?assign ?body ?done (fun _ _ _ _ _ _ h _ => h.elim)
  case kb =>
    intro W l o o' hl h1 h2 h3
    exact (Below.refl _ W).grown (grownBy_putObj' W l o') (by simp at hl; have := (Array.getElem?_eq_some_iff.1 h1).1; omega) (fun r e => by cases e; simp at hl; omega)
  case own =>
    intro pre A B row hI hg' hr
    have hr2 : ∀ r, row = some r → ∃ o : Obj, A.heap[r]? = some o ∧ o.isCells = false := fun r e => (hr r e).2
    obtain ⟨h1, h2, h3, h4, h5, h6⟩ := hI
    exact ⟨h1.grown hg' h1.size (fun r e => by have := (hr r e).1; simp at this; omega), Nat.le_trans h2 hg'.size, (grownBy_keeps_cells hg' hr2 h3 rfl).trans h3, (grownBy_keeps_cells hg' hr2 h4 rfl).trans h4, (grownBy_keeps_cells hg' hr2 h5 rfl).trans h5, h6⟩
  case start =>
    exact ⟨hB3, by simp, ((numsAt_new w _ _).alloc _).alloc _, (by have := (numsAt_new (w.alloc (.cells (numsA zeros64) 49)) 49 zeros64).alloc (.cells #[.int .i64 0] 3); rw [World.size_alloc] at this; exact this), (by have := World.alloc_heap_new ((w.alloc (.cells (numsA zeros64) 49)).alloc (.cells (numsA zeros64) 49)) (.cells #[.int .i64 0] 3); simpa using this), Nat.zero_le _⟩
  case assign =>
    intro l x W K hK
    gi_wp2
    exact hK
  case body =>
    rintro l pre x W hI hlt
    have c2 := (one_cell hI.cnt).1
    have f2 := (one_cell hI.cnt).2
    have c1 := hI.all.cell (k := pre.length) (by rw [fillO_length hI.le]; omega)
    have f1 := hI.all.frozen pre.length
    have HI := Lib.hid hI
    have hl1 : (pre ++ [x]).length = pre.length + 1 := by simp
    have HL1 := Lib.hid hl1
    have z1 : (0 : Int) ≤ ((pre.length : Nat) : Int) := by omega
    have z2 : ((pre.length : Nat) : Int) < 64 := by omega
    clear hI hl1
    gi_wp2
    have hI := HI.out
    refine ⟨(KeepsOthers.setCell _ _ _).trans (KeepsOthers.setCell _ _ _), ((Below.refl _ W).setCell (p := ⟨w.heap.size + 1, pre.length, none⟩) (by simp) _).setCell (p := ⟨w.heap.size + 1 + 1, 0, none⟩) (by simp; omega) _, ?_⟩
    refine ⟨(hI.below.setCell (p := ⟨w.heap.size + 1, pre.length, none⟩) (by simp) _).setCell (p := ⟨w.heap.size + 1 + 1, 0, none⟩) (by simp; omega) _, by simpa using hI.size, (hI.res.other (by simp) _).other (by simp; omega) _, ?_, ?_, by rw [HL1.out]; omega⟩
    · rw [← fillO_snoc hlt]
      exact (hI.all.set _ _).other (by simp) _
    · rw [HL1.out]
      exact heap_setCell_same _ (w.heap.size + 1 + 1) 0 _ _ _ ((heap_setCell_other _ _ _ _ (by simp)).trans hI.cnt)
  case done =>
    rintro D ys W hD rfl hI hK
    have hD' : w.heap.size ≤ D := by simp only [World.size_alloc] at hD; omega
    have HI := Lib.hid hI
    have HA := Lib.hid hI.all
    rw [fillO_all] at HA
    have HRes := Lib.hid (show W.heap[w.heap.size]? = some (.cells (numsA zeros64) 49 (0, 0)) from hI.res)
    clear hI
    gi_wp2_with (first | (with_reducible refine wpListIn_loadZ rfl 49 _ rfl ⟨w.heap.size + 1, 0, none⟩ rfl (intV orderI) HA.out.cells 64 3 a64_under 64 orderV_length a64_info ?_) | (with_reducible refine wpListIn_storeZ rfl 49 _ _ rfl w.heap.size (numsA orderI) rfl rfl 49 (numsA zeros64) HRes.out 64 orderA_size a64_info zerosA_size (numsA_one _) ?_))
    have hD3 : w.heap.size + 3 ≤ D := by simp only [World.size_alloc] at hD; omega
    have hK5 : (W.setRow w.heap.size (numsA orderI)).heap[D]? = some (.deferred (some [])) := (setRow_other W w.heap.size D _ (by omega)).trans hK
    have hR5 : (W.setRow w.heap.size (numsA orderI)).heap[w.heap.size]? = some (.cells (numsA orderI) 49 (0, 0)) := setRow_heap W w.heap.size _ _ _ _ HRes.out
    refine ⟨by simp, .inl ⟨_, _, rfl, run_takeDeferred hK5, ?_⟩⟩
    have hR6 := (grownBy_keeps_cells (grownBy_putObj' (W.setRow w.heap.size (numsA orderI)) D (.deferred none)) (fun r e => by cases e; exact ⟨_, hK5, rfl⟩) hR5 rfl).trans hR5
    refine ⟨.agg (numsA orderI), results_cell_row rfl _ _ w.heap.size 49 (numsA orderI) (0, 0) (.array 64 3) rfl hR6 a64_under rfl a64_info, rfl, ?_⟩
    exact (below_setRowZ HI.out.below (Nat.le_refl _) _).trans (belowK_b (w := w) (Nat.le_refl _) _ D _ _ hD' hK5 rfl rfl)

theorem places_any (w : World) : Calls Try.prog 28 #[] w fun e w' => e = .returned (.agg (numsA orderI)) ∧ Below w.heap.size w w' := callsIn_wide.1 (places_in 4 (by omega) w)

/-! ### the small functions -/
theorem isFirst_any (x : Int) (w : World) : Calls Try.prog 25 #[.int .i64 x] w fun e w' => e = .returned (.bool (decide (x = 0 ∨ x = 1))) ∧ w = w' := by
  have h : x = 0 ∨ x = 1 ∨ (x ≠ 0 ∧ x ≠ 1) := by omega
  rcases h with rfl | rfl | ⟨h1, h2⟩
  · go_enter Try.func25, Try.ntmps25
    go_wp2
    go_ret
    exact ⟨rfl, rfl⟩
  · go_enter Try.func25, Try.ntmps25
    go_wp2
    go_ret
    exact ⟨rfl, rfl⟩
  · have e0 : (x == 0) = false := by simpa using h1
    have e1 : (x == 1) = false := by simpa using h2
    have hd : decide (x = 0 ∨ x = 1) = false := by simp [h1, h2]
    rw [hd]
    clear h1 h2 hd
    go_enter Try.func25, Try.ntmps25
    go_wp2
    go_ret
    exact ⟨rfl, rfl⟩
theorem isLevel_any (x : Int) (w : World) : Calls Try.prog 31 #[.int .i64 x] w fun e w' => e = .returned (.bool (okLv x)) ∧ w = w' := by
  by_cases h0 : x = 0
  · subst h0
    go_enter Try.func31, Try.ntmps31
    go_wp2
    go_ret
    exact ⟨rfl, rfl⟩
  · have e0 : (x != 0) = true := by simpa using h0
    by_cases h1 : -127 ≤ x
    · have hr : okLv x = decide (x ≤ 127) := by simp [okLv, h0, h1]
      rw [hr]
      clear h0 hr
      by_cases h2 : x ≤ 127
      · go_enter Try.func31, Try.ntmps31
        go_wp2
        go_ret
        exact ⟨by simp [h2], rfl⟩
      · go_enter Try.func31, Try.ntmps31
        go_wp2
        go_ret
        exact ⟨by simp [h2], rfl⟩
    · have hr : okLv x = false := by simp [okLv, h1]
      rw [hr]
      clear h0 hr
      go_enter Try.func31, Try.ntmps31
      go_wp2
      go_ret
      exact ⟨rfl, rfl⟩
set_option maxHeartbeats 1000000 in
theorem placeZ_any (i : Int) (w : World) : Calls Try.prog 12 #[.int .i64 i] w fun e w' => e = .returned (.tuple #[.int .i64 (placeN i), .int .i64 (placeE i)]) ∧ Below w.heap.size w w' := by
  by_cases h : 0 ≤ i ∧ i < 64
  · obtain ⟨k, rfl⟩ : ∃ k : Nat, i = k := ⟨i.toNat, by omega⟩
    have hk : k < 64 := by omega
    have hN : placeN (k : Int) = (ordAt k : Nat) := by unfold placeN; rw [if_pos h, Int.toNat_natCast]
    have hE : placeE (k : Int) = 0 := by unfold placeE; rw [if_pos h]
    have hix := fun W => a64_index orderI_length hk W
    rw [orderI_get hk] at hix
    rw [hN, hE]
    have HP := Lib.hid (places_any w)
    have z1 : (0 : Int) ≤ (k : Int) := by omega
    have z2 : (k : Int) < 64 := by omega
    clear hN hE h
    generalize numsA orderI = T at *
    go_enter Try.func12, Try.ntmps12
    go_wp2_with (go_at_call 28; refine HP.out.mono ?_; rintro e w' ⟨rfl, hb⟩)
    go_ret2
    exact ⟨rfl, hb⟩
  · have hN : placeN i = 0 := by unfold placeN; rw [if_neg h]
    have hE : placeE i = 3 := by unfold placeE; rw [if_neg h]
    rw [hN, hE]
    by_cases h0 : i < 0
    · clear h hN hE
      go_enter Try.func12, Try.ntmps12
      go_wp2
      go_ret2
      exact ⟨rfl, Below.refl _ _⟩
    · have h1 : 64 ≤ i := by omega
      clear h hN hE
      go_enter Try.func12, Try.ntmps12
      go_wp2
      go_ret2
      exact ⟨rfl, Below.refl _ _⟩

end Go.Proofs.Ytjfekhjfdapilaa
