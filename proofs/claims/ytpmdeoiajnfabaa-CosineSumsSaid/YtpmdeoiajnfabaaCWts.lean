/- cosine.makeWeights: all weights. -/
import Derived.Test.YtpmdeoiajnfabaaCGet
import Derived.Test.YtpmdeoiajnfabaaQTail
namespace Go.Proofs.Ytpmdeoiajnfabaa
open Go.RowKit Go.Shelf
set_option linter.unusedVariables false

/-! ### the weights -/
theorem wts_under : Try.prog.underlying 46 = some (.array 8 44) := by kernel_rfl
theorem wts_info : (Try.prog.info? 46).map (·.size) = some 64 := by kernel_rfl
theorem wts_zero : (Try.prog.info? 46).map (·.zero) = some (some (.agg (numsA zeros64))) := by kernel_rfl
theorem zeroW_size : (numsA zeros64).size = 64 := rfl
theorem wtL_size : (numsA wtL).size = 64 := rfl
theorem wtL_lengthV : (intV wtL).length = 64 := rfl
/-- the weights, of so many x, and of so many u at one more -/
def fillW (x u : Nat) : List Int := ofC 64 fun j => if j % 8 < x ∨ (j % 8 = x ∧ j / 8 < u) then wt (j / 8) (j % 8) else 0
theorem fillW_length (x u : Nat) : (fillW x u).length = 64 := ofC_length _ _
theorem fillW_step : ∀ x u : Fin 8, (fillW x u).set (8 * u.val + x.val) (wt u x) = fillW x (u.val + 1) := by decide +kernel
theorem fillW_next : ∀ x : Fin 8, fillW x 8 = fillW (x.val + 1) 0 := by decide +kernel
theorem fillW_zero : fillW 0 0 = zeros64 := by decide +kernel
theorem fillW_all : fillW 8 0 = wtL := by decide +kernel

set_option maxRecDepth 100000 in
set_option maxHeartbeats 4000000 in
theorem makeWeights_any (w : World) : Calls Try.prog 28 #[] w fun e w' => e = .returned (.agg (numsA wtL)) ∧ Below w.heap.size w w' := by
  have HC := Lib.hid (fun k hk W => cosine_any k hk W)
  go_enter Try.func28, Try.ntmps28
  go_wp2_with (first
    | (with_reducible refine wpList_allocZ rfl 46 (numsA zeros64) rfl wts_zero ?_))
  have hS : Below w.heap.size w ((w.alloc (.cells (numsA zeros64) 46)).alloc (.cells (numsA zeros64) 46)) ∧ NumsAt ((w.alloc (.cells (numsA zeros64) 46)).alloc (.cells (numsA zeros64) 46)) w.heap.size 46 zeros64 ∧ NumsAt ((w.alloc (.cells (numsA zeros64) 46)).alloc (.cells (numsA zeros64) 46)) (w.heap.size + 1) 46 zeros64 := by
    refine ⟨((Below.refl _ w).alloc (Nat.le_refl _) _).alloc (by simp) _, (numsAt_new w _ _).alloc _, ?_⟩
    have := numsAt_new (w.alloc (.cells (numsA zeros64) 46)) 46 zeros64
    rwa [World.size_alloc] at this
  have HS := Lib.hid hS
  clear hS
  generalize (w.alloc (.cells (numsA zeros64) 46)).alloc (.cells (numsA zeros64) 46) = w2 at *
  go_loopw [4] (fun i wr => ∃ x : Nat, i = .int .i64 x ∧ x ≤ 8 ∧ NumsAt wr w.heap.size 46 zeros64 ∧ NumsAt wr (w.heap.size + 1) 46 (fillW x 0) ∧ Below w.heap.size w wr) (fun i _ => 8 - (intOf i).toNat)
  case atStart => exact ⟨0, rfl, by omega, HS.out.2.1, by rw [fillW_zero]; exact HS.out.2.2, HS.out.1⟩
  case round =>
    obtain ⟨x, rfl, hx, hN0, hN, hB⟩ := hrel
    have HN0 := Lib.hid hN0
    have HN := Lib.hid hN
    have HB := Lib.hid hB
    clear hN0 hN hB
    by_cases hx2 : x < 8
    · have z1 : (x : Int) < 8 := by omega
      have c1 := HN.out.cell (k := x) (by rw [fillW_length]; omega)
      have f1 := HN.out.frozen x
      have HN1 := Lib.hid (HN.out.set x 1448)
      rw [show (fillW x 0).set x 1448 = fillW x 1 by
        have h := fillW_step ⟨x, hx2⟩ ⟨0, by omega⟩
        simp only [Nat.mul_zero, Nat.zero_add] at h
        rw [← h, show wt 0 x = 1448 from wt_zero ⟨x, hx2⟩]] at HN1
      have HN01 := Lib.hid (HN0.out.other (p := ⟨w.heap.size + 1, x, none⟩) (by simp) (.int .i64 1448))
      have HB1 := Lib.hid (HB.out.setCell (p := ⟨w.heap.size + 1, x, none⟩) (by simp) (.int .i64 1448))
      go_wp2_with fail
      clear c1 f1
      generalize wr.setCell ⟨w.heap.size + 1, x, none⟩ (.int .i64 1448) = w3 at *
      go_loopw [3] (fun i ws => ∃ u : Nat, i = .int .i64 u ∧ 1 ≤ u ∧ u ≤ 8 ∧ NumsAt ws w.heap.size 46 zeros64 ∧ NumsAt ws (w.heap.size + 1) 46 (fillW x u) ∧ Below w.heap.size w ws) (fun i _ => 8 - (intOf i).toNat)
      case atStart => exact ⟨1, rfl, by omega, by omega, HN01.out, HN1.out, HB1.out⟩
      case round =>
        obtain ⟨u, rfl, hu1, hu, hN0, hN, hB⟩ := hrel
        have HM0 := Lib.hid hN0
        have HM := Lib.hid hN
        have HC0 := Lib.hid hB
        clear hN0 hN hB
        by_cases hu2 : u < 8
        · have z2 : (u : Int) < 8 := by omega
          have z3 : (0 : Int) ≤ u := by omega
          have p0 : (0 : Int) ≤ (2 * (x : Int) + 1) * u := Int.mul_nonneg (by omega) z3
          have p1 : (2 * (x : Int) + 1) * u ≤ 15 * 7 := Int.mul_le_mul (by omega) (by omega) z3 (by omega)
          have HCx : Hid (∀ W, Calls Try.prog 34 #[.int .i64 (Int.tmod ((2 * (x : Int) + 1) * u) 32)] W fun e w' => e = .returned (.int .i64 (wt u x)) ∧ Below W.heap.size W w') := by
            show ∀ W, _
            intro W
            rw [Int.tmod_eq_emod_of_nonneg p0, show (2 * (x : Int) + 1) * u % 32 = (((2 * x + 1) * u % 32 : Nat) : Int) by push_cast; rfl, show wt u x = cK ((2 * x + 1) * u % 32) from wt_cK ⟨u, hu2⟩ ⟨x, hx2⟩ hu1]
            exact HC.out _ (Nat.mod_lt _ (by omega)) W
          have HSt := Lib.hid (fillW_step ⟨x, hx2⟩ ⟨u, hu2⟩)
          have hwl := HM.out.lt
          go_wp2_with fail
          have e1 : IntKind.i64.wrap (2 * (x : Int)) = 2 * x := by rw [IntKind.wrap_i64]; omega
          have e2 : IntKind.i64.wrap (2 * (x : Int) + 1) = 2 * x + 1 := by rw [IntKind.wrap_i64]; omega
          have e3 : IntKind.i64.wrap ((2 * (x : Int) + 1) * u) = (2 * x + 1) * u := by rw [IntKind.wrap_i64]; omega
          have C1 : ∀ d os, Calls Try.prog 34 #[.int .i64 (Int.tmod ((2 * (x : Int) + 1) * u) 32)] (Sort.grow (redrawn wr d) os) fun e w'' => e = .returned (.int .i64 (wt u x)) ∧ ∃ p : Regrown, w'' = Sort.grow (redrawn wr p.d) p.os := fun d os => Calls.regrown_of (HCx.out _)
          refine wp_region_below_tail 11 (by kernel_rfl) (by kernel_rfl) ?_
          simp only [List.take_succ_cons, List.take_zero, List.drop_succ_cons, List.drop_zero]
          iterate 11 quiet_step ((go_at_call 34; exact C1 _ _))
          refine wpQuiet_nil ?_
          rintro _ ⟨⟨dq, osq⟩, rfl⟩
          have b4 := below_regrown wr dq osq
          have HM4 := Lib.hid (HM.out.below b4 hwl)
          have HM04 := Lib.hid (HM0.out.below b4 (by have := HM0.out.lt; omega))
          have HC4 := Lib.hid (HC0.out.trans (b4.mono HC0.out.size))
          have c4 := HM4.out.cell (k := u * 8 + x) (by rw [fillW_length]; omega)
          have f4 := HM4.out.frozen (u * 8 + x)
          generalize Sort.grow (redrawn wr dq) osq = w4 at *
          go_wp2_with fail
          go_roundw
          case rel => exact ⟨u + 1, by go_num, by omega, by omega, HM04.out.other (p := ⟨w.heap.size + 1, u * 8 + x, none⟩) (by simp) _, by rw [← HSt.out, Nat.mul_comm 8 u]; exact HM4.out.set _ _, HC4.out.setCell (p := ⟨w.heap.size + 1, u * 8 + x, none⟩) (by simp) _⟩
          case measure => simp [intOf]; omega
        · obtain rfl : u = 8 := by omega
          go_wp2_with fail
          go_roundw
          case rel => exact ⟨x + 1, by go_num, by omega, HM0.out, by rw [← fillW_next ⟨x, hx2⟩]; exact HM.out, HC0.out⟩
          case measure => simp [intOf]; omega
    · obtain rfl : x = 8 := by omega
      have HW := Lib.hid HN.out
      have HRs := Lib.hid (show wr.heap[w.heap.size]? = some (.cells (numsA zeros64) 46 (0, 0)) from HN0.out)
      rw [fillW_all] at HW
      go_wp2_with (first
        | (with_reducible refine wpList_loadZ rfl 46 _ rfl ⟨w.heap.size + 1, 0, none⟩ rfl (intV wtL) HW.out.cells 8 44 wts_under 64 wtL_lengthV wts_info ?_)
        | (with_reducible refine wpList_storeZ rfl 46 _ _ rfl w.heap.size (numsA wtL) rfl rfl 46 (numsA zeros64) HRs.out 64 wtL_size wts_info zeroW_size (numsA_one _) ?_))
      have hR5 : (wr.setRow w.heap.size (numsA wtL)).heap[w.heap.size]? = some (.cells (numsA wtL) 46 (0, 0)) := setRow_heap wr w.heap.size _ _ _ _ HRs.out
      exact bodyPost_ret (v := .agg (numsA wtL)) (results_cell_row rfl _ _ w.heap.size 46 _ (0, 0) (.array 8 44) rfl hR5 wts_under rfl wts_info) rfl ⟨rfl, below_setRowZ HB.out (Nat.le_refl _) _⟩

end Go.Proofs.Ytpmdeoiajnfabaa
