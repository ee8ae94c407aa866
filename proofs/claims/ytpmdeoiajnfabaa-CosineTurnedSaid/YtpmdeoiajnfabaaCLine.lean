/- cosine's (*weights).line: the sums of eight numbers. -/
import Derived.Test.YtpmdeoiajnfabaaCWts
namespace Go.Proofs.Ytpmdeoiajnfabaa
open Go.RowKit Go.Shelf
set_option linter.unusedVariables false

theorem eight_under : Try.prog.underlying 48 = some (.array 8 3) := by kernel_rfl
theorem eight_info : (Try.prog.info? 48).map (·.size) = some 8 := by kernel_rfl
def zeros8 : List Int := List.replicate 8 0
theorem eight_zero : (Try.prog.info? 48).map (·.zero) = some (some (.agg (numsA zeros8))) := by kernel_rfl
theorem zeros8_size : (numsA zeros8).size = 8 := rfl
theorem run_indexC (n : Nat) (t : TypeId) (hu : Try.prog.underlying t = some (.array n 3)) (cs : Array Value) (k : Nat) (v : Value) (hk : k < n) (hv : cs[k]? = some v) (W : World) :
    (Instr.index t (.agg cs) (.int .i64 k)).run Try.prog W = .ok v W := by
  have h2 : (sizeOf 3).run Try.prog W = .ok 1 W := by kernel_rfl
  simp [Instr.index, asIntOf, Sem.run_bind, run_underlying hu, hk, part, h2, hv]
theorem eight_index {l : List Int} (hl : l.length = 8) {k : Nat} (hk : k < 8) (W : World) : (Instr.index 48 (.agg (numsA l)) (.int .i64 k)).run Try.prog W = .ok (.int .i64 (nthC l k)) W :=
  run_indexC 8 _ eight_under _ k _ hk (numsA_get (by omega)) W

/-- the sums, of so many numbers, and of one more at so many places -/
def accL (l : List Int) (u x : Nat) : List Int := ofC 8 fun j => (smC u fun v => wt v j * nthC l v) + if j < x then wt u j * nthC l u else 0
theorem accL_length (l : List Int) (u x : Nat) : (accL l u x).length = 8 := ofC_length _ _
theorem accL_at (l : List Int) (u : Nat) {x : Nat} (hx : x < 8) : nthC (accL l u x) x = smC u fun v => wt v x * nthC l v := by
  unfold accL
  rw [ofC_get hx, if_neg (by omega)]
  omega
theorem accL_step (l : List Int) (u : Nat) {x : Nat} (hx : x < 8) : (accL l u x).set x (nthC (accL l u x) x + wt u x * nthC l u) = accL l u (x + 1) := by
  rw [accL_at l u hx]
  unfold accL
  rw [ofC_set hx]
  apply ofC_congr
  intro j hj
  by_cases h : j = x
  · rw [if_pos h, if_pos (by omega), h]
  · rw [if_neg h]
    by_cases h2 : j < x
    · rw [if_pos h2, if_pos (by omega)]
    · rw [if_neg h2, if_neg (by omega)]
theorem accL_next (l : List Int) (u : Nat) : accL l u 8 = accL l (u + 1) 0 := by
  unfold accL
  apply ofC_congr
  intro j hj
  rw [if_pos hj, if_neg (by omega), smC_succ]
  omega
theorem accL_zero (l : List Int) : accL l 0 0 = zeros8 := by
  unfold accL
  simp only [smC_zero]
  rfl
theorem accL_all (l : List Int) : accL l 8 0 = lineS l := by
  unfold accL lineS
  apply ofC_congr
  intro j hj
  rw [if_neg (by omega)]
  omega

/-- between two rounds -/
structure LineW (W : World) (g : Nat) (l acc : List Int) (wr : World) : Prop where
  below : Below W.heap.size W wr
  res : NumsAt wr (W.heap.size + 1) 48 zeros8
  acc : NumsAt wr (W.heap.size + 2) 48 acc
  wts : NumsAt wr g 46 wtL
  lt : g < W.heap.size
theorem LineW.set {W wr : World} {g : Nat} {l acc : List Int} (h : LineW W g l acc wr) (k : Nat) (x : Int) : LineW W g l (acc.set k x) (wr.setCell ⟨W.heap.size + 2, k, none⟩ (.int .i64 x)) :=
  ⟨h.below.setCell (p := ⟨W.heap.size + 2, k, none⟩) (by simp) _, h.res.other (by simp) _, h.acc.set k x, h.wts.other (by have := h.lt; simp; omega) _, h.lt⟩
theorem LineW.drew {W wr : World} {g : Nat} {l acc : List Int} (h : LineW W g l acc wr) : LineW W g l acc wr.drew := ⟨h.below.drew, h.res, h.acc, h.wts, h.lt⟩

theorem wtL_get (u x : Nat) : wtL[u * 8 + x]?.getD 0 = wt u x := by unfold wt; rw [Nat.mul_comm]

set_option maxRecDepth 100000 in
set_option maxHeartbeats 4000000 in
theorem line_any {W : World} {g : Nat} (hN : NumsAt W g 46 wtL) (l : List Int) (hl : l.length = 8) (hb : ∀ j, -1099511627776 ≤ nthC l j ∧ nthC l j ≤ 1099511627776) :
    Calls Try.prog 29 #[.pointer (some ⟨g, 0, none⟩), .agg (numsA l)] W fun e w' => e = .returned (.agg (numsA (lineS l))) ∧ Below W.heap.size W w' := by
  have HIx := Lib.hid (fun k hk W' => @eight_index l hl k hk W')
  have HBd := Lib.hid hb
  have HPt := Lib.hid (fun n (hn : n ≤ 8) x (hx : x < 8) => part_in hn (l := l) (by omega) hb hx)
  have hg := hN.lt
  have HBx := Lib.hid ((numsAt_new W 48 l).cells)
  have HLn := Lib.hid (show (intV l).length = 8 by simp [hl])
  have hS : LineW W g l zeros8 (((W.alloc (.cells (numsA l) 48)).alloc (.cells (numsA zeros8) 48)).alloc (.cells (numsA zeros8) 48)) := by
    refine ⟨(((Below.refl _ W).alloc (Nat.le_refl _) _).alloc (by simp) _).alloc (by simp; omega) _, ?_, ?_, ((hN.alloc _).alloc _).alloc _, hg⟩
    · have := (numsAt_new (W.alloc (.cells (numsA l) 48)) 48 zeros8).alloc (.cells (numsA zeros8) 48)
      rwa [World.size_alloc] at this
    · have := numsAt_new ((W.alloc (.cells (numsA l) 48)).alloc (.cells (numsA zeros8) 48)) 48 zeros8
      rwa [World.size_alloc, World.size_alloc] at this
  have HS := Lib.hid hS
  have HLd := Lib.hid ((((numsAt_new W 48 l).alloc (.cells (numsA zeros8) 48)).alloc (.cells (numsA zeros8) 48)).cells)
  clear hb hN hS
  go_enter Try.func29, Try.ntmps29
  go_wp2_with (first
    | (with_reducible refine wpList_boxZ rfl 48 _ rfl (numsA l) rfl ?_)
    | (with_reducible refine wpList_allocZ rfl 48 (numsA zeros8) rfl eight_zero ?_)
    | (with_reducible refine wpList_loadZ rfl 48 _ rfl ⟨W.heap.size, 0, none⟩ rfl (intV l) HLd.out 8 3 eight_under 8 HLn.out eight_info ?_))
  generalize ((W.alloc (.cells (numsA l) 48)).alloc (.cells (numsA zeros8) 48)).alloc (.cells (numsA zeros8) 48) = w2 at *
  clear HLd
  go_loopw [10] (fun i wr => ∃ u : Nat, i = .int .i64 u ∧ u ≤ 8 ∧ LineW W g l (accL l u 0) wr) (fun i _ => 8 - (intOf i).toNat)
  case atStart => exact ⟨0, rfl, by omega, by rw [accL_zero]; exact HS.out⟩
  case round =>
    obtain ⟨u, rfl, hu, hW⟩ := hrel
    have HW := Lib.hid hW
    clear hW
    by_cases hu2 : u < 8
    · have z1 : (u : Int) < 8 := by omega
      have ix := HIx.out u hu2
      go_wp2_with fail
      go_loopw [14] (fun i ws => ∃ x : Nat, i = .int .i64 x ∧ x ≤ 8 ∧ LineW W g l (accL l u x) ws) (fun i _ => 8 - (intOf i).toNat)
      case atStart => exact ⟨0, rfl, by omega, HW.out⟩
      case round =>
        obtain ⟨x, rfl, hx, hW2⟩ := hrel
        have HW2 := Lib.hid hW2
        clear hW2
        by_cases hx2 : x < 8
        · have z2 : (x : Int) < 8 := by omega
          have z3 : (0 : Int) ≤ x := by omega
          have z4 : (0 : Int) ≤ u := by omega
          have c1 := HW2.out.acc.cell (k := x) (by rw [accL_length]; omega)
          have f1 := HW2.out.acc.frozen x
          have c2 := HW2.out.wts.cell (k := u * 8 + x) (by show _ < 64; omega)
          rw [wtL_get] at c2
          have HSt := Lib.hid (accL_step l u hx2)
          rw [show (accL l u x)[x]?.getD 0 = nthC (accL l u x) x from rfl, accL_at l u hx2] at c1
          rw [accL_at l u hx2] at HSt
          obtain ⟨s1, s2⟩ := HPt.out u hu x hx2
          obtain ⟨p1, p2⟩ := mul_in (wt_in hu2 hx2) (HBd.out u) (by omega) (by omega)
          have p1' : -2251799813685248 ≤ wt u x * nthC l u := p1
          have p2' : wt u x * nthC l u ≤ 2251799813685248 := p2
          have s1' : -18014398509481984 ≤ smC u fun v => wt v x * nthC l v := s1
          have s2' : (smC u fun v => wt v x * nthC l v) ≤ 18014398509481984 := s2
          clear s1 s2 p1 p2 ix
          generalize (smC u fun v => wt v x * nthC l v) = s at *
          generalize wt u x = a at *
          generalize nthC l u = b at *
          generalize accL l u x = AX at *
          have e1 : IntKind.i64.wrap (a * b) = a * b := by rw [IntKind.wrap_i64]; omega
          have e2 : IntKind.i64.wrap (s + a * b) = s + a * b := by rw [IntKind.wrap_i64]; omega
          go_wp2_with fail
          go_region
          clear c1 c2 f1
          go_wp2
          go_roundw
          case rel => exact ⟨x + 1, by go_num, by omega, by rw [← HSt.out]; exact (HW2.out.set x (s + a * b)).drew⟩
          case measure => simp [intOf]; omega
        · obtain rfl : x = 8 := by omega
          go_wp2_with fail
          go_roundw
          case rel => exact ⟨u + 1, by go_num, by omega, by rw [← accL_next]; exact HW2.out⟩
          case measure => simp [intOf]; omega
    · obtain rfl : u = 8 := by omega
      have HAc := Lib.hid HW.out.acc
      rw [accL_all] at HAc
      have HRs := Lib.hid (show wr.heap[W.heap.size + 1]? = some (.cells (numsA zeros8) 48 (0, 0)) from HW.out.res)
      have HLs := Lib.hid (show (intV (lineS l)).length = 8 by simp [lineS_length])
      have HLz := Lib.hid (show (numsA (lineS l)).size = 8 by simp [lineS_length])
      go_wp2_with (first
        | (with_reducible refine wpList_loadZ rfl 48 _ rfl ⟨W.heap.size + 2, 0, none⟩ rfl (intV (lineS l)) HAc.out.cells 8 3 eight_under 8 HLs.out eight_info ?_)
        | (with_reducible refine wpList_storeZ rfl 48 _ _ rfl (W.heap.size + 1) (numsA (lineS l)) rfl rfl 48 (numsA zeros8) HRs.out 8 HLz.out eight_info zeros8_size (numsA_one _) ?_))
      have hR5 : (wr.setRow (W.heap.size + 1) (numsA (lineS l))).heap[W.heap.size + 1]? = some (.cells (numsA (lineS l)) 48 (0, 0)) := setRow_heap wr _ _ _ _ _ HRs.out
      exact bodyPost_ret (v := .agg (numsA (lineS l))) (results_cell_row rfl _ _ (W.heap.size + 1) 48 _ (0, 0) (.array 8 3) rfl hR5 eight_under rfl (by rw [HLz.out]; exact eight_info)) rfl ⟨rfl, below_setRowZ HW.out.below (by omega) _⟩

end Go.Proofs.Ytpmdeoiajnfabaa
