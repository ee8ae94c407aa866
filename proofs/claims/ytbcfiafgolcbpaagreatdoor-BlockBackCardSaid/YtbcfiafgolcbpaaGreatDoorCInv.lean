/- cosine.cosine: the steps' cosines. cosine.makeWeights: all weights. cosine's (*weights).line: the sums of eight numbers. cosine.strided: the places of a line, one after another. cosine's (*numbers).turn: one line of a block, summed. cosine's isPlace, rounded, check, Weight, Line. cosine.Line. cosine's samples and Inverse. -/
import Derived.Test.YtbcfiafgolcbpaaGreatDoorCPlain
import Derived.Test.YtbcfiafgolcbpaaGreatDoorZArr
import Derived.Test.YtbcfiafgolcbpaaGreatDoorQTail
import Derived.Test.YtbcfiafgolcbpaaGreatDoorSeq
import Derived.Sort.LoopGhostIn
/- cosine.cosine: the steps' cosines. -/
namespace Go.Proofs.YtbcfiafgolcbpaaGreatDoor
open Go.RowKit Go.Shelf
set_option linter.unusedVariables false

theorem q9_at {k : Nat} (hk : k ≤ 8) : ([Value.int .i64 2048, Value.int .i64 2009, Value.int .i64 1892, Value.int .i64 1703, Value.int .i64 1448, Value.int .i64 1138, Value.int .i64 784, Value.int .i64 400, Value.int .i64 0] : List Value)[k]? = some (.int .i64 (cK k)) := by
  rcases (by omega : k = 0 ∨ k = 1 ∨ k = 2 ∨ k = 3 ∨ k = 4 ∨ k = 5 ∨ k = 6 ∨ k = 7 ∨ k = 8) with rfl | rfl | rfl | rfl | rfl | rfl | rfl | rfl | rfl <;> rfl
set_option maxHeartbeats 1000000 in
theorem cosineLo_any (k : Nat) (hk : k ≤ 8) (w : World) : Calls Tryz.prog 122 #[.int .i64 k] w fun e w' => e = .returned (.int .i64 (cK k)) ∧ Below w.heap.size w w' := by
  have h1 : ¬ (16 : Int) < k := by omega
  have h2 : ¬ (8 : Int) < k := by omega
  have x1 := q9_at hk
  generalize cK k = x at *
  go_enter Tryz.func122, Tryz.ntmps122
  go_wp2_with fail
  go_ret
  exact ⟨rfl, (Below.refl _ w).alloc (Nat.le_refl _) _⟩
set_option maxHeartbeats 1000000 in
theorem cosineMid_any (k : Nat) (h0 : 9 ≤ k) (hk : k ≤ 16) (w : World) : Calls Tryz.prog 122 #[.int .i64 k] w fun e w' => e = .returned (.int .i64 (cK k)) ∧ Below w.heap.size w w' := by
  rcases (by omega : k = 9 ∨ k = 10 ∨ k = 11 ∨ k = 12 ∨ k = 13 ∨ k = 14 ∨ k = 15 ∨ k = 16) with rfl | rfl | rfl | rfl | rfl | rfl | rfl | rfl
  all_goals
    go_enter Tryz.func122, Tryz.ntmps122
    go_wp2_with fail
    go_ret
    exact ⟨rfl, (Below.refl _ w).alloc (Nat.le_refl _) _⟩
theorem cK_back : ∀ k : Fin 32, 17 ≤ k.val → cK (32 - k.val) = cK k := by decide
set_option maxHeartbeats 1000000 in
theorem cosine_any (k : Nat) (hk : k < 32) (w : World) : Calls Tryz.prog 122 #[.int .i64 k] w fun e w' => e = .returned (.int .i64 (cK k)) ∧ Below w.heap.size w w' := by
  by_cases h1 : k ≤ 8
  · exact cosineLo_any k h1 w
  · by_cases h2 : k ≤ 16
    · exact cosineMid_any k (by omega) h2 w
    · have HC : Hid (∀ W, Calls Tryz.prog 122 #[.int .i64 (32 - (k : Int))] W fun e w' => e = .returned (.int .i64 (cK k)) ∧ Below W.heap.size W w') := by
        show ∀ W, _
        intro W
        rw [show (32 : Int) - (k : Int) = ((32 - k : Nat) : Int) by omega, ← cK_back ⟨k, hk⟩ (by show 17 ≤ k; omega)]
        by_cases h3 : 32 - k ≤ 8
        · exact cosineLo_any _ h3 W
        · exact cosineMid_any _ (by omega) (by omega) W
      have h3 : (16 : Int) < k := by omega
      have h4 : (k : Int) < 32 := by omega
      clear h1 h2
      generalize cK k = x at *
      go_enter Tryz.func122, Tryz.ntmps122
      go_wp2_with fail
      refine (HC.out _).mono ?_
      rintro e w1 ⟨rfl, b1⟩
      have B1 := Lib.hid b1
      clear b1
      go_wp2_with fail
      go_ret
      exact ⟨rfl, ((Below.refl _ w).alloc (Nat.le_refl _) _).trans (B1.out.mono (by simp))⟩

end Go.Proofs.YtbcfiafgolcbpaaGreatDoor

/- cosine.makeWeights: all weights. -/
namespace Go.Proofs.YtbcfiafgolcbpaaGreatDoor
open Go.RowKit Go.Shelf
set_option linter.unusedVariables false

/-! ### the weights -/
theorem wts_under : Tryz.prog.underlying 133 = some (.array 8 131) := by kernel_rfl
theorem wts_info : (Tryz.prog.info? 133).map (·.size) = some 64 := by kernel_rfl
theorem wts_zero : (Tryz.prog.info? 133).map (·.zero) = some (some (.agg (numsA zeros64))) := by kernel_rfl
theorem zeroW_size : (numsA zeros64).size = 64 := rfl
theorem wtL_size : (numsA wtL).size = 64 := rfl
theorem wtL_lengthV : (intV wtL).length = 64 := rfl
/-- the weights, of so many x, and of so many u at one more -/
def fillW (x u : Nat) : List Int := ofC 64 fun j => if j % 8 < x ∨ (j % 8 = x ∧ j / 8 < u) then wt (j / 8) (j % 8) else 0
theorem fillW_length (x u : Nat) : (fillW x u).length = 64 := ofC_length _ _
theorem fillW_step : ∀ x u : Fin 8, (fillW x u).set (8 * u.val + x.val) (wt u x) = fillW x (u.val + 1) := by decide +kernel
theorem fillW_next : ∀ x : Fin 8, fillW x 8 = fillW (x.val + 1) 0 := by decide +kernel
theorem fillW_zero : fillW 0 0 = zeros64 := by decide +kernel
theorem fillW_all : fillW 8 0 = wtL := by decide +kernel

set_option maxRecDepth 100000 in
set_option maxHeartbeats 4000000 in
theorem makeWeights_any (w : World) : Calls Tryz.prog 100 #[] w fun e w' => e = .returned (.agg (numsA wtL)) ∧ Below w.heap.size w w' := by
  have HC := Lib.hid (fun k hk W => cosine_any k hk W)
  go_enter Tryz.func100, Tryz.ntmps100
  go_wp2_with (first
    | (with_reducible refine wpList_allocZ rfl 133 (numsA zeros64) rfl wts_zero ?_))
  have hS : Below w.heap.size w ((w.alloc (.cells (numsA zeros64) 133)).alloc (.cells (numsA zeros64) 133)) ∧ NumsAt ((w.alloc (.cells (numsA zeros64) 133)).alloc (.cells (numsA zeros64) 133)) w.heap.size 133 zeros64 ∧ NumsAt ((w.alloc (.cells (numsA zeros64) 133)).alloc (.cells (numsA zeros64) 133)) (w.heap.size + 1) 133 zeros64 := by
    refine ⟨((Below.refl _ w).alloc (Nat.le_refl _) _).alloc (by simp) _, (numsAt_new w _ _).alloc _, ?_⟩
    have := numsAt_new (w.alloc (.cells (numsA zeros64) 133)) 133 zeros64
    rwa [World.size_alloc] at this
  have HS := Lib.hid hS
  clear hS
  generalize (w.alloc (.cells (numsA zeros64) 133)).alloc (.cells (numsA zeros64) 133) = w2 at *
  go_loopw [4] (fun i wr => ∃ x : Nat, i = .int .i64 x ∧ x ≤ 8 ∧ NumsAt wr w.heap.size 133 zeros64 ∧ NumsAt wr (w.heap.size + 1) 133 (fillW x 0) ∧ Below w.heap.size w wr) (fun i _ => 8 - (intOf i).toNat)
  case atStart => exact ⟨0, rfl, by omega, HS.out.2.1, by rw [fillW_zero]; exact HS.out.2.2, HS.out.1⟩
  case round =>
    obtain ⟨x, rfl, hx, hN0, hN, hB⟩ := hrel
    have HN0 := Lib.hid hN0
    have HN := Lib.hid hN
    have HB := Lib.hid hB
    clear hN0 hN hB
    by_cases hx2 : x < 8
    · have z1 : (x : Int) < 8 := by omega
      have c1 := HN.out.cell (k := x) (by rw [fillW_length]; omega)
      have f1 := HN.out.frozen x
      have HN1 := Lib.hid (HN.out.set x 1448)
      rw [show (fillW x 0).set x 1448 = fillW x 1 by
        have h := fillW_step ⟨x, hx2⟩ ⟨0, by omega⟩
        simp only [Nat.mul_zero, Nat.zero_add] at h
        rw [← h, show wt 0 x = 1448 from wt_zero ⟨x, hx2⟩]] at HN1
      have HN01 := Lib.hid (HN0.out.other (p := ⟨w.heap.size + 1, x, none⟩) (by simp) (.int .i64 1448))
      have HB1 := Lib.hid (HB.out.setCell (p := ⟨w.heap.size + 1, x, none⟩) (by simp) (.int .i64 1448))
      go_wp2_with fail
      clear c1 f1
      generalize wr.setCell ⟨w.heap.size + 1, x, none⟩ (.int .i64 1448) = w3 at *
      go_loopw [3] (fun i ws => ∃ u : Nat, i = .int .i64 u ∧ 1 ≤ u ∧ u ≤ 8 ∧ NumsAt ws w.heap.size 133 zeros64 ∧ NumsAt ws (w.heap.size + 1) 133 (fillW x u) ∧ Below w.heap.size w ws) (fun i _ => 8 - (intOf i).toNat)
      case atStart => exact ⟨1, rfl, by omega, by omega, HN01.out, HN1.out, HB1.out⟩
      case round =>
        obtain ⟨u, rfl, hu1, hu, hN0, hN, hB⟩ := hrel
        have HM0 := Lib.hid hN0
        have HM := Lib.hid hN
        have HC0 := Lib.hid hB
        clear hN0 hN hB
        by_cases hu2 : u < 8
        · have z2 : (u : Int) < 8 := by omega
          have z3 : (0 : Int) ≤ u := by omega
          have p0 : (0 : Int) ≤ (2 * (x : Int) + 1) * u := Int.mul_nonneg (by omega) z3
          have p1 : (2 * (x : Int) + 1) * u ≤ 15 * 7 := Int.mul_le_mul (by omega) (by omega) z3 (by omega)
          have HCx : Hid (∀ W, Calls Tryz.prog 122 #[.int .i64 (Int.tmod ((2 * (x : Int) + 1) * u) 32)] W fun e w' => e = .returned (.int .i64 (wt u x)) ∧ Below W.heap.size W w') := by
            show ∀ W, _
            intro W
            rw [Int.tmod_eq_emod_of_nonneg p0, show (2 * (x : Int) + 1) * u % 32 = (((2 * x + 1) * u % 32 : Nat) : Int) by push_cast; rfl, show wt u x = cK ((2 * x + 1) * u % 32) from wt_cK ⟨u, hu2⟩ ⟨x, hx2⟩ hu1]
            exact HC.out _ (Nat.mod_lt _ (by omega)) W
          have HSt := Lib.hid (fillW_step ⟨x, hx2⟩ ⟨u, hu2⟩)
          have hwl := HM.out.lt
          go_wp2_with fail
          have e1 : IntKind.i64.wrap (2 * (x : Int)) = 2 * x := by rw [IntKind.wrap_i64]; omega
          have e2 : IntKind.i64.wrap (2 * (x : Int) + 1) = 2 * x + 1 := by rw [IntKind.wrap_i64]; omega
          have e3 : IntKind.i64.wrap ((2 * (x : Int) + 1) * u) = (2 * x + 1) * u := by rw [IntKind.wrap_i64]; omega
          have C1 : ∀ d os, Calls Tryz.prog 122 #[.int .i64 (Int.tmod ((2 * (x : Int) + 1) * u) 32)] (Sort.grow (redrawn wr d) os) fun e w'' => e = .returned (.int .i64 (wt u x)) ∧ ∃ p : Regrown, w'' = Sort.grow (redrawn wr p.d) p.os := fun d os => Calls.regrown_of (HCx.out _)
          refine wp_region_below_tail 11 (by kernel_rfl) (by kernel_rfl) ?_
          simp only [List.take_succ_cons, List.take_zero, List.drop_succ_cons, List.drop_zero]
          iterate 11 quiet_step ((go_at_call 122; exact C1 _ _))
          refine wpQuiet_nil ?_
          rintro _ ⟨⟨dq, osq⟩, rfl⟩
          have b4 := below_regrown wr dq osq
          have HM4 := Lib.hid (HM.out.below b4 hwl)
          have HM04 := Lib.hid (HM0.out.below b4 (by have := HM0.out.lt; omega))
          have HC4 := Lib.hid (HC0.out.trans (b4.mono HC0.out.size))
          have c4 := HM4.out.cell (k := u * 8 + x) (by rw [fillW_length]; omega)
          have f4 := HM4.out.frozen (u * 8 + x)
          generalize Sort.grow (redrawn wr dq) osq = w4 at *
          go_wp2_with fail
          go_roundw
          case rel => exact ⟨u + 1, by go_num, by omega, by omega, HM04.out.other (p := ⟨w.heap.size + 1, u * 8 + x, none⟩) (by simp) _, by rw [← HSt.out, Nat.mul_comm 8 u]; exact HM4.out.set _ _, HC4.out.setCell (p := ⟨w.heap.size + 1, u * 8 + x, none⟩) (by simp) _⟩
          case measure => simp [intOf]; omega
        · obtain rfl : u = 8 := by omega
          go_wp2_with fail
          go_roundw
          case rel => exact ⟨x + 1, by go_num, by omega, HM0.out, by rw [← fillW_next ⟨x, hx2⟩]; exact HM.out, HC0.out⟩
          case measure => simp [intOf]; omega
    · obtain rfl : x = 8 := by omega
      have HW := Lib.hid HN.out
      have HRs := Lib.hid (show wr.heap[w.heap.size]? = some (.cells (numsA zeros64) 133 (0, 0)) from HN0.out)
      rw [fillW_all] at HW
      go_wp2_with (first
        | (with_reducible refine wpList_loadZ rfl 133 _ rfl ⟨w.heap.size + 1, 0, none⟩ rfl (intV wtL) HW.out.cells 8 131 wts_under 64 wtL_lengthV wts_info ?_)
        | (with_reducible refine wpList_storeZ rfl 133 _ _ rfl w.heap.size (numsA wtL) rfl rfl 133 (numsA zeros64) HRs.out 64 wtL_size wts_info zeroW_size (numsA_one _) ?_))
      have hR5 : (wr.setRow w.heap.size (numsA wtL)).heap[w.heap.size]? = some (.cells (numsA wtL) 133 (0, 0)) := setRow_heap wr w.heap.size _ _ _ _ HRs.out
      exact bodyPost_ret (v := .agg (numsA wtL)) (results_cell_row rfl _ _ w.heap.size 133 _ (0, 0) (.array 8 131) rfl hR5 wts_under rfl wts_info) rfl ⟨rfl, below_setRowZ HB.out (Nat.le_refl _) _⟩

end Go.Proofs.YtbcfiafgolcbpaaGreatDoor

/- cosine's (*weights).line: the sums of eight numbers. -/
namespace Go.Proofs.YtbcfiafgolcbpaaGreatDoor
open Go.RowKit Go.Shelf
set_option linter.unusedVariables false

theorem eight_under : Tryz.prog.underlying 154 = some (.array 8 3) := by kernel_rfl
theorem eight_info : (Tryz.prog.info? 154).map (·.size) = some 8 := by kernel_rfl
def zeros8 : List Int := List.replicate 8 0
theorem eight_zero : (Tryz.prog.info? 154).map (·.zero) = some (some (.agg (numsA zeros8))) := by kernel_rfl
theorem zeros8_size : (numsA zeros8).size = 8 := rfl
theorem run_indexC (n : Nat) (t : TypeId) (hu : Tryz.prog.underlying t = some (.array n 3)) (cs : Array Value) (k : Nat) (v : Value) (hk : k < n) (hv : cs[k]? = some v) (W : World) :
    (Instr.index t (.agg cs) (.int .i64 k)).run Tryz.prog W = .ok v W := by
  have h2 : (sizeOf 3).run Tryz.prog W = .ok 1 W := by kernel_rfl
  simp [Instr.index, asIntOf, Sem.run_bind, run_underlying hu, hk, part, h2, hv]
theorem eight_index {l : List Int} (hl : l.length = 8) {k : Nat} (hk : k < 8) (W : World) : (Instr.index 154 (.agg (numsA l)) (.int .i64 k)).run Tryz.prog W = .ok (.int .i64 (nthC l k)) W :=
  run_indexC 8 _ eight_under _ k _ hk (numsA_get (by omega)) W

/-- the sums, of so many numbers, and of one more at so many places -/
def accL (l : List Int) (u x : Nat) : List Int := ofC 8 fun j => (smC u fun v => wt v j * nthC l v) + if j < x then wt u j * nthC l u else 0
theorem accL_length (l : List Int) (u x : Nat) : (accL l u x).length = 8 := ofC_length _ _
theorem accL_at (l : List Int) (u : Nat) {x : Nat} (hx : x < 8) : nthC (accL l u x) x = smC u fun v => wt v x * nthC l v := by
  unfold accL
  rw [ofC_get hx, if_neg (by omega)]
  omega
theorem accL_step (l : List Int) (u : Nat) {x : Nat} (hx : x < 8) : (accL l u x).set x (nthC (accL l u x) x + wt u x * nthC l u) = accL l u (x + 1) := by
  rw [accL_at l u hx]
  unfold accL
  rw [ofC_set hx]
  apply ofC_congr
  intro j hj
  by_cases h : j = x
  · rw [if_pos h, if_pos (by omega), h]
  · rw [if_neg h]
    by_cases h2 : j < x
    · rw [if_pos h2, if_pos (by omega)]
    · rw [if_neg h2, if_neg (by omega)]
theorem accL_next (l : List Int) (u : Nat) : accL l u 8 = accL l (u + 1) 0 := by
  unfold accL
  apply ofC_congr
  intro j hj
  rw [if_pos hj, if_neg (by omega), smC_succ]
  omega
theorem accL_zero (l : List Int) : accL l 0 0 = zeros8 := by
  unfold accL
  simp only [smC_zero]
  rfl
theorem accL_all (l : List Int) : accL l 8 0 = lineS l := by
  unfold accL lineS
  apply ofC_congr
  intro j hj
  rw [if_neg (by omega)]
  omega

/-- between two rounds -/
structure LineW (W : World) (g : Nat) (l acc : List Int) (wr : World) : Prop where
  below : Below W.heap.size W wr
  res : NumsAt wr (W.heap.size + 1) 154 zeros8
  acc : NumsAt wr (W.heap.size + 2) 154 acc
  wts : NumsAt wr g 133 wtL
  lt : g < W.heap.size
theorem LineW.set {W wr : World} {g : Nat} {l acc : List Int} (h : LineW W g l acc wr) (k : Nat) (x : Int) : LineW W g l (acc.set k x) (wr.setCell ⟨W.heap.size + 2, k, none⟩ (.int .i64 x)) :=
  ⟨h.below.setCell (p := ⟨W.heap.size + 2, k, none⟩) (by simp) _, h.res.other (by simp) _, h.acc.set k x, h.wts.other (by have := h.lt; simp; omega) _, h.lt⟩
theorem LineW.drew {W wr : World} {g : Nat} {l acc : List Int} (h : LineW W g l acc wr) : LineW W g l acc wr.drew := ⟨h.below.drew, h.res, h.acc, h.wts, h.lt⟩

theorem wtL_get (u x : Nat) : wtL[u * 8 + x]?.getD 0 = wt u x := by unfold wt; rw [Nat.mul_comm]

set_option maxRecDepth 100000 in
set_option maxHeartbeats 4000000 in
theorem line_any {W : World} {g : Nat} (hN : NumsAt W g 133 wtL) (l : List Int) (hl : l.length = 8) (hb : ∀ j, -1099511627776 ≤ nthC l j ∧ nthC l j ≤ 1099511627776) :
    Calls Tryz.prog 124 #[.pointer (some ⟨g, 0, none⟩), .agg (numsA l)] W fun e w' => e = .returned (.agg (numsA (lineS l))) ∧ Below W.heap.size W w' := by
  have HIx := Lib.hid (fun k hk W' => @eight_index l hl k hk W')
  have HBd := Lib.hid hb
  have HPt := Lib.hid (fun n (hn : n ≤ 8) x (hx : x < 8) => part_in hn (l := l) (by omega) hb hx)
  have hg := hN.lt
  have HBx := Lib.hid ((numsAt_new W 154 l).cells)
  have HLn := Lib.hid (show (intV l).length = 8 by simp [hl])
  have hS : LineW W g l zeros8 (((W.alloc (.cells (numsA l) 154)).alloc (.cells (numsA zeros8) 154)).alloc (.cells (numsA zeros8) 154)) := by
    refine ⟨(((Below.refl _ W).alloc (Nat.le_refl _) _).alloc (by simp) _).alloc (by simp; omega) _, ?_, ?_, ((hN.alloc _).alloc _).alloc _, hg⟩
    · have := (numsAt_new (W.alloc (.cells (numsA l) 154)) 154 zeros8).alloc (.cells (numsA zeros8) 154)
      rwa [World.size_alloc] at this
    · have := numsAt_new ((W.alloc (.cells (numsA l) 154)).alloc (.cells (numsA zeros8) 154)) 154 zeros8
      rwa [World.size_alloc, World.size_alloc] at this
  have HS := Lib.hid hS
  have HLd := Lib.hid ((((numsAt_new W 154 l).alloc (.cells (numsA zeros8) 154)).alloc (.cells (numsA zeros8) 154)).cells)
  clear hb hN hS
  go_enter Tryz.func124, Tryz.ntmps124
  go_wp2_with (first
    | (with_reducible refine wpList_boxZ rfl 154 _ rfl (numsA l) rfl ?_)
    | (with_reducible refine wpList_allocZ rfl 154 (numsA zeros8) rfl eight_zero ?_)
    | (with_reducible refine wpList_loadZ rfl 154 _ rfl ⟨W.heap.size, 0, none⟩ rfl (intV l) HLd.out 8 3 eight_under 8 HLn.out eight_info ?_))
  generalize ((W.alloc (.cells (numsA l) 154)).alloc (.cells (numsA zeros8) 154)).alloc (.cells (numsA zeros8) 154) = w2 at *
  clear HLd
  go_loopw [10] (fun i wr => ∃ u : Nat, i = .int .i64 u ∧ u ≤ 8 ∧ LineW W g l (accL l u 0) wr) (fun i _ => 8 - (intOf i).toNat)
  case atStart => exact ⟨0, rfl, by omega, by rw [accL_zero]; exact HS.out⟩
  case round =>
    obtain ⟨u, rfl, hu, hW⟩ := hrel
    have HW := Lib.hid hW
    clear hW
    by_cases hu2 : u < 8
    · have z1 : (u : Int) < 8 := by omega
      have ix := HIx.out u hu2
      go_wp2_with fail
      go_loopw [14] (fun i ws => ∃ x : Nat, i = .int .i64 x ∧ x ≤ 8 ∧ LineW W g l (accL l u x) ws) (fun i _ => 8 - (intOf i).toNat)
      case atStart => exact ⟨0, rfl, by omega, HW.out⟩
      case round =>
        obtain ⟨x, rfl, hx, hW2⟩ := hrel
        have HW2 := Lib.hid hW2
        clear hW2
        by_cases hx2 : x < 8
        · have z2 : (x : Int) < 8 := by omega
          have z3 : (0 : Int) ≤ x := by omega
          have z4 : (0 : Int) ≤ u := by omega
          have c1 := HW2.out.acc.cell (k := x) (by rw [accL_length]; omega)
          have f1 := HW2.out.acc.frozen x
          have c2 := HW2.out.wts.cell (k := u * 8 + x) (by show _ < 64; omega)
          rw [wtL_get] at c2
          have HSt := Lib.hid (accL_step l u hx2)
          rw [show (accL l u x)[x]?.getD 0 = nthC (accL l u x) x from rfl, accL_at l u hx2] at c1
          rw [accL_at l u hx2] at HSt
          obtain ⟨s1, s2⟩ := HPt.out u hu x hx2
          obtain ⟨p1, p2⟩ := mul_in (wt_in hu2 hx2) (HBd.out u) (by omega) (by omega)
          have p1' : -2251799813685248 ≤ wt u x * nthC l u := p1
          have p2' : wt u x * nthC l u ≤ 2251799813685248 := p2
          have s1' : -18014398509481984 ≤ smC u fun v => wt v x * nthC l v := s1
          have s2' : (smC u fun v => wt v x * nthC l v) ≤ 18014398509481984 := s2
          clear s1 s2 p1 p2 ix
          generalize (smC u fun v => wt v x * nthC l v) = s at *
          generalize wt u x = a at *
          generalize nthC l u = b at *
          generalize accL l u x = AX at *
          have e1 : IntKind.i64.wrap (a * b) = a * b := by rw [IntKind.wrap_i64]; omega
          have e2 : IntKind.i64.wrap (s + a * b) = s + a * b := by rw [IntKind.wrap_i64]; omega
          go_wp2_with fail
          go_region
          clear c1 c2 f1
          go_wp2
          go_roundw
          case rel => exact ⟨x + 1, by go_num, by omega, by rw [← HSt.out]; exact (HW2.out.set x (s + a * b)).drew⟩
          case measure => simp [intOf]; omega
        · obtain rfl : x = 8 := by omega
          go_wp2_with fail
          go_roundw
          case rel => exact ⟨u + 1, by go_num, by omega, by rw [← accL_next]; exact HW2.out⟩
          case measure => simp [intOf]; omega
    · obtain rfl : u = 8 := by omega
      have HAc := Lib.hid HW.out.acc
      rw [accL_all] at HAc
      have HRs := Lib.hid (show wr.heap[W.heap.size + 1]? = some (.cells (numsA zeros8) 154 (0, 0)) from HW.out.res)
      have HLs := Lib.hid (show (intV (lineS l)).length = 8 by simp [lineS_length])
      have HLz := Lib.hid (show (numsA (lineS l)).size = 8 by simp [lineS_length])
      go_wp2_with (first
        | (with_reducible refine wpList_loadZ rfl 154 _ rfl ⟨W.heap.size + 2, 0, none⟩ rfl (intV (lineS l)) HAc.out.cells 8 3 eight_under 8 HLs.out eight_info ?_)
        | (with_reducible refine wpList_storeZ rfl 154 _ _ rfl (W.heap.size + 1) (numsA (lineS l)) rfl rfl 154 (numsA zeros8) HRs.out 8 HLz.out eight_info zeros8_size (numsA_one _) ?_))
      have hR5 : (wr.setRow (W.heap.size + 1) (numsA (lineS l))).heap[W.heap.size + 1]? = some (.cells (numsA (lineS l)) 154 (0, 0)) := setRow_heap wr _ _ _ _ _ HRs.out
      exact bodyPost_ret (v := .agg (numsA (lineS l))) (results_cell_row rfl _ _ (W.heap.size + 1) 154 _ (0, 0) (.array 8 3) rfl hR5 eight_under rfl (by rw [HLz.out]; exact eight_info)) rfl ⟨rfl, below_setRowZ HW.out.below (by omega) _⟩

end Go.Proofs.YtbcfiafgolcbpaaGreatDoor

/- cosine.strided: the places of a line, one after another. -/
namespace Go.Proofs.YtbcfiafgolcbpaaGreatDoor
open Go.RowKit Go.Shelf
set_option linter.unusedVariables false
attribute [local go_sem] Oper.semAt_some

theorem strided_in (F : Fence) (n : Nat) (hf : F.fn 123) (hro : F.round = none) (a b : Int) (w : World) :
    CallsIn F n Tryz.prog 123 #[.int .i64 a, .int .i64 b] w fun e w' => e = .returned (.func (.func 138) #[] #[.pointer (some ⟨w.heap.size, 0, none⟩), .pointer (some ⟨w.heap.size + 1, 0, none⟩)]) ∧
      w' = (w.alloc (.cells #[.int .i64 a] 3)).alloc (.cells #[.int .i64 b] 3) := by
  refine callsIn_of_wp Tryz.func123 rfl hf ?_ hro
  simp only [Tryz.ntmps123, List.size_toArray, List.length_cons, List.length_nil, Nat.reduceAdd, Nat.reduceSub, Array.replicate_succ, Array.replicate_zero, List.push_toArray, List.append_toArray, List.nil_append, List.cons_append]
  gi_wp2
  go_ret
  exact ⟨rfl, rfl⟩

/-- the first places of a line -/
def fromC (k : Nat) : List (Fin 8) := (List.finRange 8).take k
theorem fromC_step : ∀ k : Fin 8, fromC (k.val + 1) = fromC k.val ++ [k] := by decide
theorem fromC_length : ∀ k : Fin 9, (fromC k.val).length = k.val := by decide
/-- what a round is handed -/
def encC (p : Nat → Nat) (x : Fin 8) : Array Value := #[.int .i64 (x.val : Nat), .int .i64 (p x.val : Nat)]
/-- what a round keeps: the two numbers of the places -/
def KpC (p q : Nat) (A B : World) : Prop := B.cell? ⟨p, 0, none⟩ = A.cell? ⟨p, 0, none⟩ ∧ B.cell? ⟨q, 0, none⟩ = A.cell? ⟨q, 0, none⟩
theorem KpC.t {p q : Nat} {A B C : World} (h : KpC p q A B) (k : KpC p q B C) : KpC p q A C := ⟨k.1.trans h.1, k.2.trans h.2⟩
theorem KpC.r {p q : Nat} {A : World} : KpC p q A A := ⟨rfl, rfl⟩

set_option maxRecDepth 100000 in
set_option maxHeartbeats 2000000 in
theorem strided1_in (n : Nat) (hn : 1 ≤ n) (l p q f s : Nat) (hf : f ≤ 100) (hs : s ≤ 100) (J Jx : List (Fin 8) → World → Prop)
    (hY : ∀ pre x W, J pre W → pre.length < 8 → YieldAt Fence.wide (n - 1) Tryz.prog l (encC (fun i => f + s * i) x) W fun e W' =>
      (e = .returned (.bool true) ∧ J (pre ++ [x]) W' ∧ KpC p q W W') ∨ (e = .returned (.bool false) ∧ Jx (pre ++ [x]) W'))
    (W : World) (hp : W.cell? ⟨p, 0, none⟩ = some (.int .i64 f)) (hq : W.cell? ⟨q, 0, none⟩ = some (.int .i64 s)) (h0 : J [] W) :
    CallsIn Fence.wide n Tryz.prog 138 #[.func (.yield l) #[] #[], .pointer (some ⟨p, 0, none⟩), .pointer (some ⟨q, 0, none⟩)] W fun e W' => (∃ v, e = .returned v) ∧
      ((∃ ys, ys = fromC 8 ∧ J ys W') ∨ (∃ pre, (∃ k, k < 8 ∧ pre = fromC (k + 1)) ∧ Jx pre W')) := by
  have HY := Lib.hid hY
  clear hY
  refine callsIn_of_wp Tryz.func138 rfl trivial ?_ rfl
  simp only [Tryz.ntmps138, List.size_toArray, List.length_cons, List.length_nil, Nat.reduceAdd, Nat.reduceSub, Array.replicate_succ, Array.replicate_zero, List.push_toArray, List.append_toArray, List.nil_append, List.cons_append]
  gi_wp2
  gi_loopw [5] (fun i wr => ∃ k : Nat, k ≤ 8 ∧ i = .int .i64 (k : Int) ∧ J (fromC k) wr ∧ KpC p q W wr) (fun i _ => 8 - (intOf i).toNat)
  case atStart => exact ⟨0, by omega, rfl, h0, KpC.r⟩
  case round =>
    obtain ⟨k, hk, rfl, hJs, hK⟩ := hrel
    by_cases hlt : k < 8
    · have z1 : (k : Int) < 8 := by omega
      have c1 := hK.1.trans hp
      have c2 := hK.2.trans hq
      obtain ⟨fn, tmps, assign, body, hy, hR⟩ := HY.out _ ⟨k, hlt⟩ wr hJs (by rw [fromC_length ⟨k, by omega⟩]; exact hlt)
      have m1 : (0 : Int) ≤ (s : Int) * k := Int.mul_nonneg (by omega) (by omega)
      have m2 : (s : Int) * k ≤ 100 * 7 := Int.mul_le_mul (by omega) (by omega) (by omega) (by omega)
      simp only [encC] at hy
      rw [show ((f + s * k : Nat) : Int) = (f : Int) + (s : Int) * k by push_cast; rfl] at hy
      have HSt := Lib.hid (fromC_step ⟨k, hlt⟩)
      clear hp hq
      gi_wp2
      refine hR.mono ?_
      rintro e W3 (⟨rfl, hJ3, hk3⟩ | ⟨rfl, hJx3⟩)
      · gi_wp2
        go_roundw
        case rel => exact ⟨k + 1, by omega, by go_num, by rw [HSt.out]; exact hJ3, hK.t hk3⟩
        case measure => simp [intOf]; omega
      · gi_wp2
        refine bodyPost_ret (results_none rfl _ _ _) rfl ?_
        exact ⟨⟨_, rfl⟩, .inr ⟨_, ⟨k, hlt, rfl⟩, by rw [HSt.out]; exact hJx3⟩⟩
    · obtain rfl : k = 8 := by omega
      gi_wp2
      go_end0
      exact ⟨⟨_, rfl⟩, .inl ⟨_, rfl, hJs⟩⟩

theorem strided_stops (n : Nat) (hn : 1 ≤ n) (p q f s : Nat) (hf : f ≤ 100) (hs : s ≤ 100) (w : World) (hp : w.cell? ⟨p, 0, none⟩ = some (.int .i64 f)) (hq : w.cell? ⟨q, 0, none⟩ = some (.int .i64 s)) :
    SeqStopsK Fence.wide n Tryz.prog 138 #[.pointer (some ⟨p, 0, none⟩), .pointer (some ⟨q, 0, none⟩)] (encC (fun i => f + s * i)) (KpC p q) (fun ys => ys = fromC 8) (fun pre => ∃ k, k < 8 ∧ pre = fromC (k + 1)) 8 w := fun l J Jx W hW _ _ hY h0 =>
  strided1_in n hn l p q f s hf hs J Jx hY W ((hW.cell (p := ⟨p, 0, none⟩) (block_lt_of_cell hp)).trans hp) ((hW.cell (p := ⟨q, 0, none⟩) (block_lt_of_cell hq)).trans hq) h0

end Go.Proofs.YtbcfiafgolcbpaaGreatDoor

/- cosine's (*numbers).turn: one line of a block, summed. -/
namespace Go.Proofs.YtbcfiafgolcbpaaGreatDoor
open Go.RowKit Go.Shelf
set_option linter.unusedVariables false
attribute [local go_sem] Oper.semAt_some

theorem Bar.grownC {S : Nat → Prop} {a w w' : World} {row : Option Nat} (h : Bar S a w) (hg : w.grownBy w' row) (hr : ∀ k, row = some k → a.heap.size ≤ k) : Bar S a w' :=
  h.trans (T := fun k => a.heap.size ≤ k) (bar_of_grown hg (fun k e => hr k e)) (fun j hj e => by omega)
theorem num11_under : Tryz.prog.underlying 113 = some (.array 64 3) := by kernel_rfl
theorem num11_info : (Tryz.prog.info? 113).map (·.size) = some 64 := by kernel_rfl
theorem num11_zero : (Tryz.prog.info? 113).map (·.zero) = some (some (.agg (numsA zeros64))) := by kernel_rfl

def stpC (d : Bool) : Nat := if d then 8 else 1
theorem plC_eq (d : Bool) (f : Nat) : (fun i => plC d f 0 + stpC d * i) = plC d f := by
  funext i
  unfold plC stpC
  cases d <;> simp <;> omega
/-- what is gathered of a line; what is put back -/
def gatC (d : Bool) (B : List Int) (f : Nat) (pre : List (Fin 8)) : List Int := pre.foldl (fun l x => l.set x.val (nthC B (plC d f x.val))) zeros8
def putC (d : Bool) (B : List Int) (f : Nat) (L : List Int) (pre : List (Fin 8)) : List Int := pre.foldl (fun b x => b.set (plC d f x.val) (nthC L x.val)) B
theorem gatC_snoc (d : Bool) (B : List Int) (f : Nat) (pre : List (Fin 8)) (x : Fin 8) : gatC d B f (pre ++ [x]) = (gatC d B f pre).set x.val (nthC B (plC d f x.val)) := by simp [gatC]
theorem putC_snoc (d : Bool) (B : List Int) (f : Nat) (L : List Int) (pre : List (Fin 8)) (x : Fin 8) : putC d B f L (pre ++ [x]) = (putC d B f L pre).set (plC d f x.val) (nthC L x.val) := by simp [putC]
theorem fold_setC {g : Fin 8 → Nat} {v : Fin 8 → Int} : ∀ (pre : List (Fin 8)) (l : List Int), (pre.foldl (fun l x => l.set (g x) (v x)) l).length = l.length
  | [], l => rfl
  | x :: pre, l => by rw [List.foldl_cons, fold_setC pre]; simp
theorem gatC_length (d : Bool) (B : List Int) (f : Nat) (pre : List (Fin 8)) : (gatC d B f pre).length = 8 := fold_setC pre zeros8
theorem putC_length (d : Bool) {B : List Int} (hB : B.length = 64) (f : Nat) (L : List Int) (pre : List (Fin 8)) : (putC d B f L pre).length = 64 := (fold_setC pre B).trans hB
theorem gatC_all (d : Bool) (B : List Int) (f : Nat) : ∀ k, k ≤ 8 → gatC d B f (fromC k) = pickC d B f k := by
  intro k
  induction k with
  | zero => intro _; rw [pick_zero]; rfl
  | succ k ih =>
    intro hk
    rw [fromC_step ⟨k, by omega⟩, gatC_snoc, ih (by omega)]
    exact pick_step d B (by omega)
theorem putC_all (d : Bool) {B : List Int} (hB : B.length = 64) {f : Nat} (hf : f < 8) : ∀ k, k ≤ 8 → putC d B f (lineS (pickC d B f 8)) (fromC k) = turnC d B f k := by
  intro k
  induction k with
  | zero => intro _; exact (turn_zero d f hB).symm
  | succ k ih =>
    intro hk
    rw [fromC_step ⟨k, by omega⟩, putC_snoc, ih (by omega)]
    simp only
    rw [lineS_pick d B hf (by omega)]
    exact turn_step d B hf (by omega)
theorem pick_nth (d : Bool) (B : List Int) (f j : Nat) : nthC (pickC d B f 8) j = if j < 8 then nthC B (plC d f j) else 0 := by
  by_cases h : j < 8
  · unfold pickC
    rw [ofC_get h, if_pos h]
  · rw [if_neg h]
    exact ofC_out (by omega)

/-- between two rounds of the first range, and of the second one -/
structure Tn1 (W0 : World) (gb : Nat) (acc : List Int) (W : World) : Prop where
  below : Below W0.heap.size W0 W
  size : W0.heap.size + 4 ≤ W.heap.size
  box : W.heap[W0.heap.size]? = some (.cells #[.pointer (some ⟨gb, 0, none⟩)] 153 (0, 0))
  line : NumsAt W (W0.heap.size + 1) 154 acc
structure Tn2 (W0 : World) (gb : Nat) (L cur : List Int) (W : World) : Prop where
  bar : Bar (fun k => k = gb) W0 W
  size : W0.heap.size + 4 ≤ W.heap.size
  box : W.heap[W0.heap.size]? = some (.cells #[.pointer (some ⟨gb, 0, none⟩)] 153 (0, 0))
  line : NumsAt W (W0.heap.size + 1) 154 L
  blk : NumsAt W gb 113 cur

set_option maxRecDepth 100000 in
set_option maxHeartbeats 4000000 in
theorem turn_in (n : Nat) (hn : 4 ≤ n) {W : World} {gb gw : Nat} {B : List Int} (hB : NumsAt W gb 113 B) (hBl : B.length = 64) (hN : NumsAt W gw 133 wtL) (hin : ∀ j, -1099511627776 ≤ nthC B j ∧ nthC B j ≤ 1099511627776) (d : Bool) {f : Nat} (hf : f < 8) :
    CallsIn Fence.wide n Tryz.prog 101 #[.pointer (some ⟨gb, 0, none⟩), .pointer (some ⟨gw, 0, none⟩), .int .i64 (plC d f 0 : Nat), .int .i64 (stpC d : Nat)] W fun e w' => e = .returned (.tuple #[]) ∧ NumsAt w' gb 113 (turnC d B f 8) ∧ Bar (fun k => k = gb) W w' := by
  have hn1 : 1 ≤ n := by omega
  have HS := Lib.hid (fun a b W => strided_in Fence.wide (n - 1) trivial rfl a b W)
  have HSt := Lib.hid (fun p q w hp hq => strided_stops (n - 1) (by omega) p q (plC d f 0) (stpC d) (by have := pl_lt d hf (i := 0) (by omega); omega) (by unfold stpC; cases d <;> simp) w hp hq)
  rw [plC_eq d f] at HSt
  have HBx := Lib.hid (fun w' (hb : Below W.heap.size W w') => hB.below hb hB.lt)
  have HNx := Lib.hid (fun w' (hb : Below W.heap.size W w') => hN.below hb hN.lt)
  have hgb := hB.lt
  have HGa := Lib.hid (gatC_all d B f 8 (Nat.le_refl _))
  have HPu := Lib.hid (putC_all d hBl hf 8 (Nat.le_refl _))
  have HLi := Lib.hid (fun w (hN : NumsAt w gw 133 wtL) => line_any hN (pickC d B f 8) (pick_length _ _ _ _) (fun j => by rw [pick_nth]; split; exact hin _; omega))
  have HPl := Lib.hid (fun x : Fin 8 => pl_lt d hf x.isLt)
  have HGl := Lib.hid (fun pre => gatC_length d B f pre)
  have HPlen := Lib.hid (fun L pre => putC_length d hBl f L pre)
  clear hB hN hin
  generalize plC d f 0 = F0 at *
  generalize stpC d = s0 at *
  refine callsIn_of_wp_marks Tryz.func101 rfl trivial ?_ rfl
  simp only [Tryz.ntmps101, List.size_toArray, List.length_nil, List.length_cons, Nat.reduceAdd, Nat.reduceSub, Array.replicate_succ, Array.replicate_zero, List.push_toArray, List.append_toArray, List.nil_append, List.cons_append]
  gi_wp2_with (first
    | (with_reducible refine wpListIn_allocZ rfl 154 (numsA zeros8) rfl eight_zero ?_)
    | (refine ⟨trivial, ?_⟩; gi_at_call 123; refine (HS.out _ _ _).mono ?_; rintro e w' ⟨rfl, rfl⟩))
  have hB4 : Below W.heap.size W ((((W.alloc (.cells #[.pointer (some ⟨gb, 0, none⟩)] 153)).alloc (.cells (numsA zeros8) 154)).alloc (.cells #[.int .i64 F0] 3)).alloc (.cells #[.int .i64 s0] 3)) :=
    ((((Below.refl _ W).alloc (Nat.le_refl _) _).alloc (by simp) _).alloc (by simp; omega) _).alloc (by simp; omega) _
  have hT : Tn1 W gb zeros8 ((((W.alloc (.cells #[.pointer (some ⟨gb, 0, none⟩)] 153)).alloc (.cells (numsA zeros8) 154)).alloc (.cells #[.int .i64 F0] 3)).alloc (.cells #[.int .i64 s0] 3)) := by
    refine ⟨hB4, by simp, ?_, ?_⟩
    · exact heap_keep (heap_keep (heap_keep (World.alloc_heap_new W _) _) _) _
    · have := ((numsAt_new (W.alloc (.cells #[.pointer (some ⟨gb, 0, none⟩)] 153)) 154 zeros8).alloc (.cells #[.int .i64 F0] 3)).alloc (.cells #[.int .i64 s0] 3)
      rwa [World.size_alloc] at this
  have hc1 : ((((W.alloc (.cells #[.pointer (some ⟨gb, 0, none⟩)] 153)).alloc (.cells (numsA zeros8) 154)).alloc (.cells #[.int .i64 F0] 3)).alloc (.cells #[.int .i64 s0] 3)).cell? ⟨W.heap.size + 1 + 1, 0, none⟩ = some (.int .i64 F0) := by
    refine (one_cell (t := 3) ?_).1
    have := heap_keep (World.alloc_heap_new ((W.alloc (.cells #[.pointer (some ⟨gb, 0, none⟩)] 153)).alloc (.cells (numsA zeros8) 154)) (.cells #[.int .i64 F0] 3)) (.cells #[.int .i64 s0] 3)
    simpa using this
  have hc2 : ((((W.alloc (.cells #[.pointer (some ⟨gb, 0, none⟩)] 153)).alloc (.cells (numsA zeros8) 154)).alloc (.cells #[.int .i64 F0] 3)).alloc (.cells #[.int .i64 s0] 3)).cell? ⟨W.heap.size + 1 + 1 + 1, 0, none⟩ = some (.int .i64 s0) := by
    refine (one_cell (t := 3) ?_).1
    have := World.alloc_heap_new (((W.alloc (.cells #[.pointer (some ⟨gb, 0, none⟩)] 153)).alloc (.cells (numsA zeros8) 154)).alloc (.cells #[.int .i64 F0] 3)) (.cells #[.int .i64 s0] 3)
    simpa using this
  have HT := Lib.hid hT
  have HQ := Lib.hid (HSt.out _ _ _ hc1 hc2)
  have hsz : W.heap.size + 4 ≤ ((((W.alloc (.cells #[.pointer (some ⟨gb, 0, none⟩)] 153)).alloc (.cells (numsA zeros8) 154)).alloc (.cells #[.int .i64 F0] 3)).alloc (.cells #[.int .i64 s0] 3)).heap.size := by simp
  clear hB4 hT hc1 hc2
  generalize (((W.alloc (.cells #[.pointer (some ⟨gb, 0, none⟩)] 153)).alloc (.cells (numsA zeros8) 154)).alloc (.cells #[.int .i64 F0] 3)).alloc (.cells #[.int .i64 s0] 3) = W4 at *
  refine wpIn_rangeFunc_ownF rfl hn1 (gf := 138) (lb := #[.pointer (some ⟨W.heap.size + 1 + 1, 0, none⟩), .pointer (some ⟨W.heap.size + 1 + 1 + 1, 0, none⟩)]) rfl trivial (enters_of Tryz.func138 (by kernel_rfl) rfl)
    HQ.out (fun h k => h.t k) ?kb (Below.refl _ _) (fun _ => rfl)
    (fun pre W' => Tn1 W gb (gatC d B f pre) W')
    (fun _ _ _ => False)
    ?own (fun _ _ _ _ _ hs _ _ => hs) ?start
    (fun x => { tmps := #[.pointer (some ⟨gb, 0, none⟩), .pointer (some ⟨gw, 0, none⟩), .int .i64 F0, .int .i64 s0, .pointer (some ⟨W.heap.size, 0, none⟩), undef, undef, undef, .pointer (some ⟨W.heap.size + 1, 0, none⟩), .int .i64 (x.val : Nat), .int .i64 (plC d f x.val : Nat), undef, undef, .int .i64 F0, .int .i64 s0, .func (.func 138) #[] #[.pointer (some ⟨W.heap.size + 1 + 1, 0, none⟩), .pointer (some ⟨W.heap.size + 1 + 1 + 1, 0, none⟩)], .int .i64 (x.val : Nat), .int .i64 (plC d f x.val : Nat), undef, undef, undef, undef, undef, undef, undef, undef, undef, undef, undef, undef, undef, undef, undef, undef, undef, undef, undef, undef, undef, undef], defers := [] }) ?assign ?body ?done (fun _ _ _ _ _ _ h _ => h.elim)
  case kb =>
    intro W' l o o' hl h1 h2 h3
    refine ⟨World.cell?_of_block (World.putObj_heap_other (by simp; omega)), World.cell?_of_block (World.putObj_heap_other (by simp; omega))⟩
  case own =>
    intro pre A B' row hI hg' hr
    have hr2 : ∀ r, row = some r → ∃ o : Obj, A.heap[r]? = some o ∧ o.isCells = false := fun r e => (hr r e).2
    obtain ⟨h1, h2, h3, h4⟩ := hI
    exact ⟨h1.grown hg' h1.size (fun r e => by have := (hr r e).1; omega), Nat.le_trans h2 hg'.size, (grownBy_keeps_cells hg' hr2 h3 rfl).trans h3, (grownBy_keeps_cells hg' hr2 h4 rfl).trans h4⟩
  case start => exact HT.out
  case assign =>
    intro l x W' K hK
    unfold encC
    gi_wp2
    exact hK
  case body =>
    rintro l pre x W' hI hlt
    have hp := HPl.out x
    have hx := x.isLt
    have c0 := (one_cell hI.box).1
    have c1 := (HBx.out W' hI.below).cell (k := plC d f x.val) (by omega)
    have c2 := hI.line.cell (k := x.val) (by rw [HGl.out]; omega)
    have f2 := hI.line.frozen x.val
    have HI := Lib.hid hI
    have HSn := Lib.hid (gatC_snoc d B f pre x)
    change W'.cell? _ = some (.int .i64 (nthC B (plC d f x.val))) at c1
    have z1 : ((plC d f x.val : Nat) : Int) < 64 := by omega
    have z2 : (0 : Int) ≤ ((plC d f x.val : Nat) : Int) := by omega
    have z3 : ((x.val : Nat) : Int) < 8 := by omega
    have z4 : (0 : Int) ≤ ((x.val : Nat) : Int) := by omega
    clear hI
    generalize plC d f x.val = P at *
    generalize x.val = X at *
    generalize nthC B P = v at *
    gi_wp2
    have hI := HI.out
    refine ⟨KeepsOthers.setCell _ _ _, ⟨World.cell?_of_block (heap_setCell_other _ _ _ _ (by simp)), World.cell?_of_block (heap_setCell_other _ _ _ _ (by simp; omega))⟩, ?_⟩
    refine ⟨hI.below.setCell (p := ⟨W.heap.size + 1, X, none⟩) (by simp) _, by simpa using hI.size, (heap_setCell_other _ _ _ _ (by simp)).trans hI.box, ?_⟩
    rw [HSn.out]
    exact hI.line.set _ _
  case done =>
    rintro D ys W' hD rfl hI hK
    have HI := Lib.hid hI
    have hl := hI.line
    rw [HGa.out] at hl
    have HLs := Lib.hid hl.cells
    have HLz := Lib.hid (show W'.heap[W.heap.size + 1]? = some (.cells (numsA (pickC d B f 8)) 154 (0, 0)) from hl)
    have HPk := Lib.hid (show (intV (pickC d B f 8)).length = 8 by simp [pick_length])
    have HLn := Lib.hid (HLi.out W' (HNx.out W' hI.below))
    clear hI hl
    gi_wp2_with (first
      | (with_reducible refine wpListIn_loadZ rfl 154 _ rfl ⟨W.heap.size + 1, 0, none⟩ rfl (intV (pickC d B f 8)) HLs.out 8 3 eight_under 8 HPk.out eight_info ?_)
      | (refine ⟨trivial, ?_⟩; gi_at_call 124; refine (callsIn_wide.2 HLn.out).mono ?_; rintro e w5 ⟨rfl, b5⟩)
      | (with_reducible refine stopIn_storeZ 154 _ _ rfl ?_; refine Hid.out ?_))
    have hs4 := HI.out.size
    have hs5 := b5.size
    have HZ5 := Lib.hid ((b5.block _ (by omega)).trans HLz.out)
    have HLl := Lib.hid (lineS_length (pickC d B f 8))
    have HLlz := Lib.hid (show (numsA (lineS (pickC d B f 8))).size = 8 by simp [lineS_length])
    have HPz := Lib.hid (show (numsA (pickC d B f 8)).size = 8 by simp [pick_length])
    refine Lib.hid ?_
    refine wpListIn_storeZ rfl 154 _ _ rfl (W.heap.size + 1) (numsA (lineS (pickC d B f 8))) rfl rfl 154 (numsA (pickC d B f 8)) HZ5.out 8 HLlz.out eight_info HPz.out (numsA_one _) ?_
    have hB5 := HI.out.below.trans (b5.mono HI.out.below.size)
    have hB6 : Below W.heap.size W (w5.setRow (W.heap.size + 1) (numsA (lineS (pickC d B f 8)))) := below_setRowZ hB5 (by omega) _
    have hN6 : NumsAt (w5.setRow (W.heap.size + 1) (numsA (lineS (pickC d B f 8)))) (W.heap.size + 1) 154 (lineS (pickC d B f 8)) := NumsAt.setRow (b := pickC d B f 8) HZ5.out
    have hx5 : w5.heap[W.heap.size]? = some (.cells #[.pointer (some ⟨gb, 0, none⟩)] 153 (0, 0)) := (b5.block _ (by omega)).trans HI.out.box
    have hx6 : (w5.setRow (W.heap.size + 1) (numsA (lineS (pickC d B f 8)))).heap[W.heap.size]? = some (.cells #[.pointer (some ⟨gb, 0, none⟩)] 153 (0, 0)) := (setRow_other _ _ _ _ (by omega)).trans hx5
    have hK6 : (w5.setRow (W.heap.size + 1) (numsA (lineS (pickC d B f 8)))).heap[D]? = some (.deferred (some [])) := (setRow_other _ _ _ _ (by omega)).trans ((b5.block _ (Array.getElem?_eq_some_iff.1 hK).1).trans hK)
    have hs6 : W.heap.size + 4 ≤ (w5.setRow (W.heap.size + 1) (numsA (lineS (pickC d B f 8)))).heap.size := by simp; omega
    have hD6 := (Array.getElem?_eq_some_iff.1 hK6).1
    clear hK hB5 hx5 HZ5 HLs HLz HPk HLn hs5 b5 HI HLlz HPz
    generalize lineS (pickC d B f 8) = L at *
    generalize w5.setRow (W.heap.size + 1) (numsA L) = W6 at *
    have HB6 := Lib.hid hB6
    have HN6 := Lib.hid hN6
    have HX6 := Lib.hid hx6
    have HK6 := Lib.hid hK6
    clear hB6 hN6 hx6 hK6
    gi_wp2_with (refine ⟨trivial, ?_⟩; gi_at_call 123; refine (HS.out _ _ _).mono ?_; rintro e w' ⟨rfl, rfl⟩)
    have HT2 : Hid (Tn2 W gb L B ((W6.alloc (.cells #[.int .i64 F0] 3)).alloc (.cells #[.int .i64 s0] 3))) :=
      Lib.hid ⟨((bar_of_below HB6.out).alloc _).alloc _, by simp; omega, heap_keep (heap_keep HX6.out _) _, (HN6.out.alloc _).alloc _, ((HBx.out _ HB6.out).alloc _).alloc _⟩
    have hc1 : ((W6.alloc (.cells #[.int .i64 F0] 3)).alloc (.cells #[.int .i64 s0] 3)).cell? ⟨W6.heap.size, 0, none⟩ = some (.int .i64 F0) := (one_cell (t := 3) (heap_keep (World.alloc_heap_new W6 (.cells #[.int .i64 F0] 3)) (.cells #[.int .i64 s0] 3))).1
    have hc2 : ((W6.alloc (.cells #[.int .i64 F0] 3)).alloc (.cells #[.int .i64 s0] 3)).cell? ⟨W6.heap.size + 1, 0, none⟩ = some (.int .i64 s0) := by
      refine (one_cell (t := 3) ?_).1
      have := World.alloc_heap_new (W6.alloc (.cells #[.int .i64 F0] 3)) (.cells #[.int .i64 s0] 3)
      simpa using this
    have HQ2 := Lib.hid (HSt.out _ _ _ hc1 hc2)
    have HK8 := Lib.hid (show ((W6.alloc (.cells #[.int .i64 F0] 3)).alloc (.cells #[.int .i64 s0] 3)).heap[D]? = some (.deferred (some [])) from heap_keep (heap_keep HK6.out _) _)
    have hsz8 : W6.heap.size + 2 ≤ ((W6.alloc (.cells #[.int .i64 F0] 3)).alloc (.cells #[.int .i64 s0] 3)).heap.size := by simp
    clear hc1 hc2
    generalize (W6.alloc (.cells #[.int .i64 F0] 3)).alloc (.cells #[.int .i64 s0] 3) = W8 at *
    generalize pickC d B f 8 = PL at *
    refine wpIn_rangeFunc_ownF rfl hn1 (gf := 138) (lb := #[.pointer (some ⟨W6.heap.size, 0, none⟩), .pointer (some ⟨W6.heap.size + 1, 0, none⟩)]) rfl trivial (enters_of Tryz.func138 (by kernel_rfl) rfl)
      HQ2.out (fun h k => h.t k) ?kb2 (Below.refl _ _) (fun _ => rfl)
      (fun pre W' => Tn2 W gb L (putC d B f L pre) W' ∧ W'.heap[D]? = some (.deferred (some [])) ∧ W8.heap.size ≤ W'.heap.size)
      (fun _ _ _ => False)
      ?own2 (fun _ _ _ _ _ hs _ _ => hs) ?start2
      (fun x => { tmps := #[.pointer (some ⟨gb, 0, none⟩), .pointer (some ⟨gw, 0, none⟩), .int .i64 F0, .int .i64 s0, .pointer (some ⟨W.heap.size, 0, none⟩), undef, undef, undef, .pointer (some ⟨W.heap.size + 1, 0, none⟩), undef, undef, .int .i64 (x.val : Nat), .int .i64 (plC d f x.val : Nat), .int .i64 F0, .int .i64 s0, .func (.func 138) #[] #[.pointer (some ⟨W.heap.size + 1 + 1, 0, none⟩), .pointer (some ⟨W.heap.size + 1 + 1 + 1, 0, none⟩)], undef, undef, undef, undef, undef, undef, undef, undef, undef, .pointer (some ⟨gw, 0, none⟩), .agg (intV PL).toArray, .agg (numsA L), .int .i64 F0, .int .i64 s0, .func (.func 138) #[] #[.pointer (some ⟨W6.heap.size, 0, none⟩), .pointer (some ⟨W6.heap.size + 1, 0, none⟩)], .int .i64 (x.val : Nat), .int .i64 (plC d f x.val : Nat), undef, undef, undef, undef, undef, undef, undef], defers := [] }) ?assign2 ?body2 ?done2 (fun _ _ _ _ _ _ h _ => h.elim)
    case kb2 =>
      intro W' l o o' hl h1 h2 h3
      exact ⟨World.cell?_of_block (World.putObj_heap_other (by simp; omega)), World.cell?_of_block (World.putObj_heap_other (by simp; omega))⟩
    case own2 =>
      intro pre A B' row hI hg' hr
      have hr2 : ∀ r, row = some r → ∃ o : Obj, A.heap[r]? = some o ∧ o.isCells = false := fun r e => (hr r e).2
      obtain ⟨⟨h1, h2, h3, h4, h5⟩, h6, h7⟩ := hI
      refine ⟨⟨h1.grownC hg' (fun r e => by have := (hr r e).1; omega), Nat.le_trans h2 hg'.size, (grownBy_keeps_cells hg' hr2 h3 rfl).trans h3, (grownBy_keeps_cells hg' hr2 h4 rfl).trans h4, (grownBy_keeps_cells hg' hr2 h5 rfl).trans h5⟩, ?_, Nat.le_trans h7 hg'.size⟩
      refine (hg'.block D (Array.getElem?_eq_some_iff.1 h6).1 ?_).trans h6
      intro e
      have := (hr D e.symm).1
      omega
    case start2 => exact ⟨HT2.out, HK8.out, Nat.le_refl _⟩
    case assign2 =>
      intro l x W' K hK
      unfold encC
      gi_wp2
      exact hK
    case body2 =>
      rintro l pre x W' ⟨hI, hKD, hKs⟩ hlt
      have hp := HPl.out x
      have hx := x.isLt
      have c0 := (one_cell hI.box).1
      have c1 := hI.line.cell (k := x.val) (by rw [HLl.out]; omega)
      have c2 := hI.blk.cell (k := plC d f x.val) (by rw [HPlen.out]; omega)
      have f2 := hI.blk.frozen (plC d f x.val)
      have HI := Lib.hid hI
      have HKD := Lib.hid hKD
      have HSn := Lib.hid (putC_snoc d B f L pre x)
      change W'.cell? _ = some (.int .i64 (nthC L x.val)) at c1
      have z1 : ((plC d f x.val : Nat) : Int) < 64 := by omega
      have z2 : (0 : Int) ≤ ((plC d f x.val : Nat) : Int) := by omega
      have z3 : ((x.val : Nat) : Int) < 8 := by omega
      have z4 : (0 : Int) ≤ ((x.val : Nat) : Int) := by omega
      clear hI hKD
      generalize plC d f x.val = P at *
      generalize x.val = X at *
      generalize nthC L X = v at *
      have hFin : ∀ a, ownPostK (KpC W6.heap.size (W6.heap.size + 1)) (fun pre W' => Tn2 W gb L (putC d B f L pre) W' ∧ W'.heap[D]? = some (.deferred (some [])) ∧ W8.heap.size ≤ W'.heap.size) (fun _ _ _ => False) (pre ++ [x]) W' .normal a (W'.setCell ⟨gb, P, none⟩ (.int .i64 v)).drew := by
        intro a
        have hI := HI.out
        refine ⟨(KeepsOthers.setCell _ _ _).trans (KeepsOthers.drew _), ⟨World.cell?_of_block (heap_setCell_other W' _ _ _ (by simp; omega)), World.cell?_of_block (heap_setCell_other W' _ _ _ (by simp; omega))⟩, ⟨(hI.bar.setCell (p := ⟨gb, P, none⟩) (fun _ => rfl) _).drew, by simpa [World.drew] using hI.size, (heap_setCell_other W' _ _ _ (by simp; omega)).trans hI.box, (hI.line.other (p := ⟨gb, P, none⟩) (by simp; omega) _), ?_⟩, (heap_setCell_other W' _ _ _ (by simp; omega)).trans HKD.out, by simpa [World.drew] using hKs⟩
        rw [HSn.out]
        exact hI.blk.set P v
      have HFin := Lib.hid hFin
      clear hFin
      gi_wp2
      refine wpIn_mono (Q := fun e _ w9 => e = .normal ∧ w9 = (W'.setCell ⟨gb, P, none⟩ (.int .i64 v)).drew) ?_ ?_
      · clear HFin HSn HI HKD HT2 HQ2 HK8 HX6 HK6 HN6 HB6 HS HSt HBx HNx HGa HPu HLi HPl HGl HPlen HQ HT
        gi_region
        all_goals exact ⟨rfl, rfl⟩
      · rintro e a9 w9 ⟨rfl, rfl⟩
        gi_wp2
        exact HFin.out _
    case done2 =>
      rintro D2 ys W' hD2 rfl ⟨hI, hKD, hKs⟩ hK2
      have hb := hI.blk
      rw [HPu.out] at hb
      refine leaves_marks (B := W.heap.size) _ W'.heap.size _ ?_ ?_
      · exact ⟨D2, rfl, by omega, (Array.getElem?_eq_some_iff.1 hK2).1, hK2, D, rfl, by omega, by omega, hKD, trivial⟩
      · intro W9 hb9
        exact ⟨_, results_none rfl _ _ _, rfl, (hb9.block _ hgb).trans hb, ⟨hb9.os.trans hI.bar.os, hb9.tape.trans hI.bar.tape, hb9.output.trans hI.bar.output, Nat.le_trans hI.bar.size hb9.size, fun k hk hn => (hb9.block k hk).trans (hI.bar.block k hk hn)⟩⟩

theorem turn_any {W : World} {gb gw : Nat} {B : List Int} (hB : NumsAt W gb 113 B) (hBl : B.length = 64) (hN : NumsAt W gw 133 wtL) (hin : ∀ j, -1099511627776 ≤ nthC B j ∧ nthC B j ≤ 1099511627776) (d : Bool) {f : Nat} (hf : f < 8) :
    Calls Tryz.prog 101 #[.pointer (some ⟨gb, 0, none⟩), .pointer (some ⟨gw, 0, none⟩), .int .i64 (plC d f 0 : Nat), .int .i64 (stpC d : Nat)] W fun e w' => e = .returned (.tuple #[]) ∧ NumsAt w' gb 113 (turnC d B f 8) ∧ Bar (fun k => k = gb) W w' :=
  callsIn_wide.1 (turn_in 4 (by omega) hB hBl hN hin d hf)

end Go.Proofs.YtbcfiafgolcbpaaGreatDoor

/- cosine's isPlace, rounded, check, Weight, Line. -/
namespace Go.Proofs.YtbcfiafgolcbpaaGreatDoor
open Go.RowKit Go.Shelf
set_option linter.unusedVariables false
theorem rounded_any (s : Int) (h1 : -549755813888 ≤ s) (h2 : s ≤ 549755813888) (w : World) : Calls Tryz.prog 102 #[.int .i64 s] w fun e w' => e = .returned (.int .i64 (rndC s)) ∧ w = w' := by
  unfold rndC
  go_enter Tryz.func102, Tryz.ntmps102
  go_wp2
  go_ret
  exact ⟨rfl, rfl⟩

set_option maxRecDepth 100000 in
set_option maxHeartbeats 1000000 in
theorem check11_any {n₀ : Nat} {w : World} {av : Option Addr} {len cap : Nat} {xs : List Int} (hR : RowV n₀ w av len cap (intV xs)) (hn : n₀ ≤ w.heap.size) (hlen : len ≤ 1000000) (m : Nat) (lo hi : Int) :
    Calls Tryz.prog 76 #[.slice av len cap, .int .i64 m, .int .i64 lo, .int .i64 hi] w fun e w' => e = .returned (.int .i64 (checkR xs m lo hi)) ∧ w = w' := by
  have hl : xs.length = len := by have := hR.1; simpa using this
  have HR := Lib.hid hR
  clear hR
  by_cases hm : len = m
  · have e1 : ((len : Int) != (m : Int)) = false := by simp [hm]
    obtain ⟨R, hRes⟩ : ∃ R, checkR xs m lo hi = R := ⟨_, rfl⟩
    rw [hRes]
    have HRes := Lib.hid hRes
    clear hRes
    go_enter Tryz.func76, Tryz.ntmps76
    go_wp2_with fail
    go_loop [17] (fun i => ∃ k : Nat, i = .int .i64 k ∧ k ≤ len ∧ ∀ j, j < k → okNC lo hi (nthC xs j) = true) (fun i => len - (intOf i).toNat)
    case atStart => exact ⟨0, rfl, by omega, fun j hj => by omega⟩
    case round =>
      obtain ⟨k, rfl, hk, hno⟩ := hrel
      have HNo := Lib.hid hno
      clear hno
      by_cases hk2 : k < len
      · obtain ⟨b, off, rfl, hb, hc⟩ := HR.out.cells (by omega)
        have x1 := hc k (.int .i64 (xs[k]?.getD 0)) (by simp [show k < xs.length by omega])
        have hA := @not_allC xs lo hi k (by omega)
        have z1 : (k : Int) < len := by omega
        have HSt : Hid (okNC lo hi (nthC xs k) = true → ∀ j, j < k + 1 → okNC lo hi (nthC xs j) = true) := by
          show okNC lo hi (nthC xs k) = true → ∀ j, j < k + 1 → okNC lo hi (nthC xs j) = true
          intro h j hj
          by_cases e : j = k
          · rw [e]; exact h
          · exact HNo.out j (by omega)
        clear hc
        change w.cell? _ = some (.int .i64 (nthC xs k)) at x1
        generalize nthC xs k = x at *
        by_cases h1 : x < lo
        · have HA : Hid (R = 3) := by show R = 3; rw [← HRes.out, checkR_bad (by omega) (hA (by simp [okNC]; omega))]
          clear hA HSt
          go_wp2_with fail
          go_ret
          exact ⟨ret_int HA.out.symm, rfl⟩
        · by_cases h2 : hi < x
          · have HA : Hid (R = 3) := by show R = 3; rw [← HRes.out, checkR_bad (by omega) (hA (by simp [okNC]; omega))]
            clear hA HSt
            go_wp2_with fail
            go_ret
            exact ⟨ret_int HA.out.symm, rfl⟩
          · have HS2 := Lib.hid (HSt.out (by simp [okNC]; omega))
            clear hA HSt
            go_wp2_with fail
            go_round
            case rel => exact ⟨k + 1, by go_num, by omega, HS2.out⟩
            case measure => simp [intOf]; omega
      · obtain rfl : k = len := by omega
        have HA : Hid (R = 0) := by show R = 0; rw [← HRes.out, checkR_ok (by omega) ((allC_iff xs lo hi).2 (fun j hj => HNo.out j (by omega)))]
        go_wp2_with fail
        go_ret
        exact ⟨ret_int HA.out.symm, rfl⟩
  · rw [checkR_len (by omega)]
    have e1 : ((len : Int) != (m : Int)) = true := by simp; omega
    go_enter Tryz.func76, Tryz.ntmps76
    go_wp2
    go_ret
    exact ⟨rfl, rfl⟩

theorem a8_under : Tryz.prog.underlying 131 = some (.array 8 3) := by kernel_rfl
theorem wt_index1 {u : Nat} (hu : u < 8) (W : World) : (Instr.index 133 (.agg (numsA wtL)) (.int .i64 u)).run Tryz.prog W = .ok (.agg (numsA ((List.range 8).map fun x => wt u x))) W := by
  rcases (by omega : u = 0 ∨ u = 1 ∨ u = 2 ∨ u = 3 ∨ u = 4 ∨ u = 5 ∨ u = 6 ∨ u = 7) with rfl | rfl | rfl | rfl | rfl | rfl | rfl | rfl <;> kernel_rfl
theorem wt_index2 (u : Nat) {x : Nat} (hx : x < 8) (W : World) : (Instr.index 131 (.agg (numsA ((List.range 8).map fun x => wt u x))) (.int .i64 x)).run Tryz.prog W = .ok (.int .i64 (wt u x)) W :=
  run_indexC 8 _ a8_under _ x _ hx (by simp [hx]) W
end Go.Proofs.YtbcfiafgolcbpaaGreatDoor

/- cosine.Line. -/
namespace Go.Proofs.YtbcfiafgolcbpaaGreatDoor
open Go.RowKit Go.Shelf
set_option linter.unusedVariables false

theorem NumsAt.ownC {w : World} {g n : Nat} {t : TypeId} {b : List Int} (h : NumsAt w g t b) (hb : b.length = n) (hn : n ≤ 64) {base : Nat} (hg : base ≤ g) : w.ownsRow base t 1 (.slice (some ⟨g, 0, none⟩) n n) n (intV b) :=
  ⟨by simp [hb], .inr ⟨g, n, numsA b, rfl, hg, h, Nat.le_refl _, by unfold maxLen; omega, by simp [hb], List.take_of_length_le (by simp [hb])⟩⟩
theorem lineR_size (l : List Int) : (lineR l).2.length ≤ 8 := by
  unfold lineR
  split <;> simp [lineS_length]

end Go.Proofs.YtbcfiafgolcbpaaGreatDoor

/- cosine's samples and Inverse. -/
namespace Go.Proofs.YtbcfiafgolcbpaaGreatDoor
open Go.RowKit Go.Shelf
set_option linter.unusedVariables false

/-- the sums, so many of them rounded -/
def rndL (S : List Int) (k : Nat) : List Int := ofC 64 fun j => if j < k then rndC (nthC S j) else nthC S j
theorem rndL_length (S : List Int) (k : Nat) : (rndL S k).length = 64 := ofC_length _ _
theorem rndL_zero {S : List Int} (h : S.length = 64) : rndL S 0 = S := listC_ext (rndL_length _ _) h (fun j hj => by unfold rndL; rw [ofC_get hj, if_neg (by omega)])
theorem rndL_step (S : List Int) {k : Nat} (hk : k < 64) : (rndL S k).set k (rndC (nthC S k)) = rndL S (k + 1) := by
  unfold rndL
  rw [ofC_set hk]
  apply ofC_congr
  intro j hj
  by_cases h : j = k
  · rw [if_pos h, if_pos (by omega), h]
  · rw [if_neg h]
    by_cases h2 : j < k
    · rw [if_pos h2, if_pos (by omega)]
    · rw [if_neg h2, if_neg (by omega)]
theorem rndL_all (b : List Int) : rndL (ofC 64 (invS b)) 64 = invL b := by
  unfold rndL invL
  apply ofC_congr
  intro j hj
  rw [if_pos hj, ofC_get hj]

structure SmW (W0 : World) (G : Nat) (cur : List Int) (W : World) : Prop where
  below : Below W0.heap.size W0 W
  res : NumsAt W (W0.heap.size + 1) 113 zeros64
  blk : NumsAt W W0.heap.size 113 cur
  wts : NumsAt W G 133 wtL
  lo : W0.heap.size + 2 ≤ G
theorem SmW.bar {W0 W W' : World} {G : Nat} {cur cur' : List Int} (h : SmW W0 G cur W) (hb : Bar (fun k => k = W0.heap.size) W W') (hN : NumsAt W' W0.heap.size 113 cur') : SmW W0 G cur' W' := by
  have h1 := h.res.lt
  have h2 := h.wts.lt
  have h3 := h.lo
  exact ⟨h.below.trans (hb.below (by omega) (fun k hk e => by omega)), (hb.block _ h1 (by omega)).trans h.res, hN, (hb.block _ h2 (by omega)).trans h.wts, h3⟩
theorem SmW.set {W0 W : World} {G : Nat} {cur : List Int} (h : SmW W0 G cur W) (k : Nat) (x : Int) : SmW W0 G (cur.set k x) (W.setCell ⟨W0.heap.size, k, none⟩ (.int .i64 x)) :=
  ⟨h.below.setCell (p := ⟨W0.heap.size, k, none⟩) (by simp) _, h.res.other (by simp) _, h.blk.set k x, h.wts.other (by have := h.lo; simp; omega) _, h.lo⟩
/-- turn, where samples calls it -/
theorem SmW.rows {W0 W : World} {G : Nat} {B : List Int} {y : Nat} (h : SmW W0 G (mixC false B B y 0) W) (hy : y < 8) (hin : ∀ j, -1099511627776 ≤ nthC (mixC false B B y 0) j ∧ nthC (mixC false B B y 0) j ≤ 1099511627776) :
    Calls Tryz.prog 101 #[.pointer (some ⟨W0.heap.size, 0, none⟩), .pointer (some ⟨G, 0, none⟩), .int .i64 (8 * (y : Int)), .int .i64 1] W fun e w' => e = .returned (.tuple #[]) ∧ SmW W0 G (mixC false B B (y + 1) 0) w' := by
  have := turn_any h.blk (mix_length _ _ _ _ _) h.wts hin false hy
  rw [turn_mix false B hy, show ((plC false y 0 : Nat) : Int) = 8 * (y : Int) by simp [plC], show ((stpC false : Nat) : Int) = 1 from rfl] at this
  exact this.mono (fun e w' hh => ⟨hh.1, h.bar hh.2.2 hh.2.1⟩)
theorem SmW.cols {W0 W : World} {G : Nat} {B : List Int} {x : Nat} (h : SmW W0 G (mixC true B B x 0) W) (hx : x < 8) (hin : ∀ j, -1099511627776 ≤ nthC (mixC true B B x 0) j ∧ nthC (mixC true B B x 0) j ≤ 1099511627776) :
    Calls Tryz.prog 101 #[.pointer (some ⟨W0.heap.size, 0, none⟩), .pointer (some ⟨G, 0, none⟩), .int .i64 (x : Int), .int .i64 8] W fun e w' => e = .returned (.tuple #[]) ∧ SmW W0 G (mixC true B B (x + 1) 0) w' := by
  have := turn_any h.blk (mix_length _ _ _ _ _) h.wts hin true hx
  rw [turn_mix true B hx, show ((plC true x 0 : Nat) : Int) = (x : Int) by simp [plC], show ((stpC true : Nat) : Int) = 8 from rfl] at this
  exact this.mono (fun e w' hh => ⟨hh.1, h.bar hh.2.2 hh.2.1⟩)
theorem num11_index {b : List Int} (hb : b.length = 64) {k : Nat} (hk : k < 64) (W : World) : (Instr.index 113 (.agg (numsA b)) (.int .i64 k)).run Tryz.prog W = .ok (.int .i64 (nthC b k)) W :=
  run_indexC 64 _ num11_under _ k _ hk (numsA_get (by omega)) W
theorem zero64_size : (numsA zeros64).size = 64 := rfl

set_option maxRecDepth 100000 in
set_option maxHeartbeats 4000000 in
theorem samples_any (B : List Int) (hBl : B.length = 64) (hb : ∀ j, -2048 ≤ nthC B j ∧ nthC B j ≤ 2048) (W : World) :
    Calls Tryz.prog 77 #[.agg (numsA B)] W fun e w' => e = .returned (.agg (numsA (invL B))) ∧ Below W.heap.size W w' := by
  have HM := Lib.hid (makeWeights_any ((W.alloc (.cells (numsA B) 113)).alloc (.cells (numsA zeros64) 113)))
  have HMk : Hid (∀ d f j, -1099511627776 ≤ nthC (mixC d B B f 0) j ∧ nthC (mixC d B B f 0) j ≤ 1099511627776) := by
    show ∀ d f j, _
    intro d f j
    have := mix_in d (M := 2048) (by omega) hb f 0 j
    omega
  have HMk2 : Hid (∀ f j, -1099511627776 ≤ nthC (mixC true (linesC false B) (linesC false B) f 0) j ∧ nthC (mixC true (linesC false B) (linesC false B) f 0) j ≤ 1099511627776) := by
    show ∀ f j, _
    intro f j
    have := mix_in true (M := 8 * (2048 * 2048)) (by omega) (lines_in false (M := 2048) (by omega) hb) f 0 j
    omega
  have HIn : Hid (∀ k, k < 64 → -549755813888 ≤ invS B k ∧ invS B k ≤ 549755813888) := fun k hk => invP_in (n := 64) (by omega) hb hk
  have HBA := Lib.hid (show (numsA B).size = 64 by simp [hBl])
  clear hb
  go_enter Tryz.func77, Tryz.ntmps77
  go_wp2_with (first
    | (with_reducible refine wpList_boxZ rfl 113 _ rfl (numsA B) rfl ?_)
    | (with_reducible refine wpList_allocZ rfl 113 (numsA zeros64) rfl num11_zero ?_)
    | (go_at_call 100; refine HM.out.mono ?_; rintro e w1 ⟨rfl, b1⟩; have B1 := Lib.hid b1; clear b1)
    | (with_reducible refine wpList_allocZ rfl 133 (numsA zeros64) rfl wts_zero ?_)
    | (with_reducible refine stop_storeZ 133 _ _ rfl ?_; refine Hid.out ?_))
  refine Lib.hid ?_
  refine wpList_storeZ rfl 133 _ _ rfl w1.heap.size (numsA wtL) rfl rfl 133 (numsA zeros64) (World.alloc_heap_new _ _) 64 wtL_size wts_info zeroW_size (numsA_one _) ?_
  have hs1 := B1.out.size
  simp only [World.size_alloc] at hs1
  have hS : SmW W w1.heap.size B ((w1.alloc (.cells (numsA zeros64) 133)).setRow w1.heap.size (numsA wtL)) := by
    have hb0 : Below W.heap.size W ((W.alloc (.cells (numsA B) 113)).alloc (.cells (numsA zeros64) 113)) := ((Below.refl _ W).alloc (Nat.le_refl _) _).alloc (by simp) _
    have hb1 : Below W.heap.size W w1 := hb0.trans (B1.out.mono hb0.size)
    have n0 : NumsAt w1 W.heap.size 113 B := ((numsAt_new W 113 B).alloc _).below B1.out (by simp; omega)
    have n1 : NumsAt w1 (W.heap.size + 1) 113 zeros64 := by
      have := (numsAt_new (W.alloc (.cells (numsA B) 113)) 113 zeros64).below B1.out (by simp)
      rwa [World.size_alloc] at this
    exact ⟨below_setRowZ (hb1.alloc hb1.size _) hb1.size _, (n1.alloc _).setRow_other (by omega) _, (n0.alloc _).setRow_other (by omega) _, (numsAt_new w1 133 zeros64).setRow, by omega⟩
  have HS := Lib.hid hS
  clear hS
  generalize (w1.alloc (.cells (numsA zeros64) 133)).setRow w1.heap.size (numsA wtL) = w2 at *
  generalize w1.heap.size = G at *
  generalize hWA : numsA wtL = WA at *
  clear B1 HM hWA
  go_wp2_with fail
  go_loopw [9] (fun i wr => ∃ y : Nat, i = .int .i64 y ∧ y ≤ 8 ∧ SmW W G (mixC false B B y 0) wr) (fun i _ => 8 - (intOf i).toNat)
  case atStart => exact ⟨0, rfl, by omega, by rw [mix_zero false B hBl]; exact HS.out⟩
  case round =>
    obtain ⟨y, rfl, hy, hW⟩ := hrel
    by_cases hy2 : y < 8
    · have z1 : (y : Int) < 8 := by omega
      have HC := Lib.hid (hW.rows hy2 (HMk.out false y))
      clear hW
      go_wp2_with fail
      refine HC.out.mono ?_
      rintro e w3 ⟨rfl, hW3⟩
      have HW3 := Lib.hid hW3
      clear hW3
      go_wp2_with fail
      go_roundw
      case rel => exact ⟨y + 1, by go_num, by omega, HW3.out⟩
      case measure => simp [intOf]; omega
    · obtain rfl : y = 8 := by omega
      have HW := Lib.hid hW
      rw [mix_all] at HW
      clear hW
      have hBl1 := lines_length false B
      have HTwo := Lib.hid (lines_two B)
      generalize linesC false B = B1 at *
      go_wp2_with fail
      go_loopw [16] (fun i wr => ∃ x : Nat, i = .int .i64 x ∧ x ≤ 8 ∧ SmW W G (mixC true B1 B1 x 0) wr) (fun i _ => 8 - (intOf i).toNat)
      case atStart => exact ⟨0, rfl, by omega, by rw [mix_zero true B1 hBl1]; exact HW.out⟩
      case round =>
        obtain ⟨x, rfl, hx, hW⟩ := hrel
        by_cases hx2 : x < 8
        · have z1 : (x : Int) < 8 := by omega
          have HC := Lib.hid (hW.cols hx2 (HMk2.out x))
          clear hW
          go_wp2_with fail
          refine HC.out.mono ?_
          rintro e w3 ⟨rfl, hW3⟩
          have HW3 := Lib.hid hW3
          clear hW3
          go_wp2_with fail
          go_roundw
          case rel =>
            repeat apply Exists.intro
            exact ⟨⟨x + 1, by go_num, by omega, HW3.out⟩, rfl⟩
          case measure => simp [intOf]; omega
        · obtain rfl : x = 8 := by omega
          have HW2 := Lib.hid hW
          rw [mix_all, HTwo.out] at HW2
          clear hW
          have hSl := ofC_length 64 (invS B)
          have HRa := Lib.hid (rndL_all B)
          have HSn : Hid (∀ k, k < 64 → -549755813888 ≤ nthC (ofC 64 (invS B)) k ∧ nthC (ofC 64 (invS B)) k ≤ 549755813888) := by
            show ∀ k, _ → _
            intro k hk
            rw [ofC_get hk]
            exact HIn.out k hk
          generalize ofC 64 (invS B) = S at *
          have HSc := Lib.hid HW2.out.blk.cells
          have HSv := Lib.hid (show (intV S).length = 64 by simp [hSl])
          have HIx := Lib.hid (fun k hk W' => @num11_index S hSl k hk W')
          go_wp2_with (with_reducible refine wpList_loadZ rfl 113 _ rfl ⟨W.heap.size, 0, none⟩ rfl (intV S) HSc.out 64 3 num11_under 64 HSv.out num11_info ?_)
          go_loopw [23] (fun i wr => ∃ k : Nat, i = .int .i64 k ∧ k ≤ 64 ∧ SmW W G (rndL S k) wr) (fun i _ => 64 - (intOf i).toNat)
          case atStart => exact ⟨0, rfl, by omega, by rw [rndL_zero hSl]; exact HW2.out⟩
          case round =>
            obtain ⟨k, rfl, hk, hW⟩ := hrel
            have HW4 := Lib.hid hW
            clear hW
            by_cases hk2 : k < 64
            · have z1 : (k : Int) < 64 := by omega
              have ix := HIx.out k hk2
              obtain ⟨s1, s2⟩ := HSn.out k hk2
              have HRd := Lib.hid (fun W => rounded_any (nthC S k) s1 s2 W)
              have HSt := Lib.hid (rndL_step S hk2)
              have c1 := HW4.out.blk.cell (k := k) (by rw [rndL_length]; omega)
              have f1 := HW4.out.blk.frozen k
              go_wp2_with (go_at_call 102; refine (HRd.out _).mono ?_; rintro e w' ⟨rfl, rfl⟩)
              go_roundw
              case rel => exact ⟨k + 1, by go_num, by omega, by rw [← HSt.out]; exact HW4.out.set k _⟩
              case measure => simp [intOf]; omega
            · obtain rfl : k = 64 := by omega
              have HB4 := Lib.hid HW4.out.blk
              rw [HRa.out] at HB4
              have HRs := Lib.hid (show wr.heap[W.heap.size + 1]? = some (.cells (numsA zeros64) 113 (0, 0)) from HW4.out.res)
              have HLs := Lib.hid (show (intV (invL B)).length = 64 by simp [invL_length])
              have HLz := Lib.hid (show (numsA (invL B)).size = 64 by simp [invL_length])
              go_wp2_with (first
                | (with_reducible refine wpList_loadZ rfl 113 _ rfl ⟨W.heap.size, 0, none⟩ rfl (intV (invL B)) HB4.out.cells 64 3 num11_under 64 HLs.out num11_info ?_)
                | (with_reducible refine wpList_storeZ rfl 113 _ _ rfl (W.heap.size + 1) (numsA (invL B)) rfl rfl 113 (numsA zeros64) HRs.out 64 HLz.out num11_info zero64_size (numsA_one _) ?_))
              have hR5 : (wr.setRow (W.heap.size + 1) (numsA (invL B))).heap[W.heap.size + 1]? = some (.cells (numsA (invL B)) 113 (0, 0)) := setRow_heap wr _ _ _ _ _ HRs.out
              exact bodyPost_ret (v := .agg (numsA (invL B))) (results_cell_row rfl _ _ (W.heap.size + 1) 113 _ (0, 0) (.array 64 3) rfl hR5 num11_under rfl (by rw [HLz.out]; exact num11_info)) rfl ⟨rfl, below_setRowZ HW4.out.below (by omega) _⟩

theorem invR_size (l : List Int) : (invR l).2.length ≤ 64 := by
  unfold invR
  split <;> simp [invL_length]

set_option maxRecDepth 100000 in
set_option maxHeartbeats 2000000 in
theorem inv11_any {n₀ : Nat} {w : World} {av : Option Addr} {len cap : Nat} {xs : List Int} (hR : RowV n₀ w av len cap (intV xs)) (hn : n₀ ≤ w.heap.size) (hlen : len ≤ 1000000) :
    Calls Tryz.prog 48 #[.slice av len cap] w fun e w' => ∃ v, e = .returned (.tuple #[v, .int .i64 (invR xs).1]) ∧ OwnI w' w.heap.size v (invR xs).2 ∧ Below w.heap.size w w' := by
  have hl : xs.length = len := by have := hR.1; simpa using this
  have HC := Lib.hid (show Calls Tryz.prog 76 #[.slice av len cap, .int .i64 64, .int .i64 (-2048), .int .i64 2047] w _ from check11_any hR hn hlen 64 (-2048) 2047)
  rcases checkR_cases xs 64 (-2048) 2047 with h | h | ⟨h, h8, hall⟩
  · rw [invR_bad (by rw [h]; decide)]
    rw [h] at HC ⊢
    clear h hR
    go_enter Tryz.func48, Tryz.ntmps48
    go_wp2_with fail
    refine HC.out.mono ?_
    rintro e w1 ⟨rfl, rfl⟩
    go_wp2_with fail
    go_ret2
    exact ⟨_, rfl, ownI_nil _ _, Below.refl _ _⟩
  · rw [invR_bad (by rw [h]; decide)]
    rw [h] at HC ⊢
    clear h hR
    go_enter Tryz.func48, Tryz.ntmps48
    go_wp2_with fail
    refine HC.out.mono ?_
    rintro e w1 ⟨rfl, rfl⟩
    go_wp2_with fail
    go_ret2
    exact ⟨_, rfl, ownI_nil _ _, Below.refl _ _⟩
  · rw [invR_ok h]
    rw [h] at HC
    obtain rfl : len = 64 := by omega
    have HIn := Lib.hid (checkR_in (m := 64) hall (M := 2048) (by omega) (by omega) (by omega))
    obtain ⟨b, off, rfl, hb, hc⟩ := hR.cells (by omega)
    have HB := Lib.hid (fun w' (hb' : Below w.heap.size w w') j u (hu : (intV xs)[j]? = some u) => (hb'.cell (p := ⟨b, off + j, none⟩) (by simp; omega)).trans (hc j u hu))
    have HS := Lib.hid (samples_any xs h8 HIn.out w)
    have HAd := Lib.hid (RowV.addCells (n₀ := 0) (len := 64) (cap := 64) (HB.out _ (Below.refl _ w)))
    have HLn := Lib.hid (show (intV xs).length = 64 by simp [hl])
    have HLz := Lib.hid (show (numsA (invL xs)).size = 64 by simp [invL_length])
    have HLi := invL_length xs
    clear h hR hall hc HIn
    simp only
    go_enter Tryz.func48, Tryz.ntmps48
    go_wp2_with fail
    refine HC.out.mono ?_
    rintro e w1 ⟨rfl, rfl⟩
    go_wp2_with (first
      | (with_reducible refine wpList_arrZ rfl 113 _ rfl _ 64 _ 64 3 rfl num11_under (Nat.le_refl _) ?_)
      | (with_reducible refine wpList_loadZ rfl 113 _ rfl ⟨b, off, none⟩ rfl (intV xs) HAd.out 64 3 num11_under 64 HLn.out num11_info ?_))
    refine HS.out.mono ?_
    rintro e w4 ⟨rfl, b4⟩
    have B4 := Lib.hid b4
    have HZ4 := Lib.hid (World.alloc_heap_new w4 (.cells (numsA zeros64) 113))
    have HN5 := Lib.hid ((numsAt_new w4 113 zeros64).setRow (c := invL xs))
    have h5 := B4.out.size
    have HB5 := Lib.hid (below_setRowZ (B4.out.alloc h5 (.cells (numsA zeros64) 113)) h5 (numsA (invL xs)))
    clear b4
    go_wp2_with (first
      | (with_reducible refine wpList_allocZ rfl 113 (numsA zeros64) rfl num11_zero ?_)
      | (with_reducible refine wpList_storeZ rfl 113 _ _ rfl w4.heap.size (numsA (invL xs)) rfl rfl 113 (numsA zeros64) HZ4.out 64 HLz.out num11_info zero64_size (numsA_one _) ?_))
    go_ret2
    exact ⟨_, rfl, ⟨113, by rw [HLi]; exact HN5.out.ownC HLi (by omega) h5⟩, HB5.out⟩

end Go.Proofs.YtbcfiafgolcbpaaGreatDoor
