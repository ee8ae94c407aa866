/- quant's small functions: isLevel, isQuant, clip, scales, worth, Value, DC. quant.check, quant.values, quant.Inter, quant.Intra: what the levels of a block are worth. -/
import Derived.Test.YtbcfiafgolcbpaaGreatDoorCPlain
import Derived.Lib.MinMax
import Derived.Test.YtbcfiafgolcbpaaGreatDoorZArr
/- quant's small functions: isLevel, isQuant, clip, scales, worth, Value, DC. -/
namespace Go.Proofs.YtbcfiafgolcbpaaGreatDoor
open Go.RowKit Go.Shelf
set_option linter.unusedVariables false

theorem isLevelU_any (x : Int) (w : World) : Calls Tryz.prog 119 #[.int .i64 x] w fun e w' => e = .returned (.bool (okLU x)) ∧ w = w' := by
  by_cases h1 : -127 ≤ x
  · have hr : okLU x = decide (x ≤ 127) := by simp [okLU, h1]
    rw [hr]
    clear hr
    by_cases h2 : x ≤ 127
    · go_enter Tryz.func119, Tryz.ntmps119
      go_wp2
      go_ret
      exact ⟨by simp [h2], rfl⟩
    · go_enter Tryz.func119, Tryz.ntmps119
      go_wp2
      go_ret
      exact ⟨by simp [h2], rfl⟩
  · have hr : okLU x = false := by simp [okLU, h1]
    rw [hr]
    clear hr
    go_enter Tryz.func119, Tryz.ntmps119
    go_wp2
    go_ret
    exact ⟨rfl, rfl⟩
theorem isQuantU_any (x : Int) (w : World) : Calls Tryz.prog 120 #[.int .i64 x] w fun e w' => e = .returned (.bool (okQU x)) ∧ w = w' := by
  by_cases h1 : 1 ≤ x
  · have hr : okQU x = decide (x ≤ 31) := by simp [okQU, h1]
    rw [hr]
    clear hr
    by_cases h2 : x ≤ 31
    · go_enter Tryz.func120, Tryz.ntmps120
      go_wp2
      go_ret
      exact ⟨by simp [h2], rfl⟩
    · go_enter Tryz.func120, Tryz.ntmps120
      go_wp2
      go_ret
      exact ⟨by simp [h2], rfl⟩
  · have hr : okQU x = false := by simp [okQU, h1]
    rw [hr]
    clear hr
    go_enter Tryz.func120, Tryz.ntmps120
    go_wp2
    go_ret
    exact ⟨rfl, rfl⟩
theorem clipU_any (n low high : Int) (w : World) : Calls Tryz.prog 137 #[.int .i64 n, .int .i64 low, .int .i64 high] w fun e w' => e = .returned (.int .i64 (max low (min n high))) ∧ w = w' := by
  go_enter Tryz.func137, Tryz.ntmps137
  go_wp2
  go_ret
  exact ⟨rfl, rfl⟩
theorem scale1_any (m q : Int) (h0 : 0 ≤ m) (hm : m ≤ 127) (h1 : 1 ≤ q) (hq : q ≤ 31) (w : World) : Calls Tryz.prog 147 #[.int .i64 m, .int .i64 q] w fun e w' => e = .returned (.int .i64 (q * (2 * m + 1) - 1)) ∧ w = w' := by
  have hb : q * (2 * m + 1) ≤ 31 * 255 := Int.mul_le_mul hq (by omega) (by omega) (by omega)
  have hc : 0 ≤ q * (2 * m + 1) := Int.mul_nonneg (by omega) (by omega)
  go_enter Tryz.func147, Tryz.ntmps147
  go_wp2
  go_ret
  exact ⟨rfl, rfl⟩
theorem scale2_any (m q : Int) (h0 : 0 ≤ m) (hm : m ≤ 127) (h1 : 1 ≤ q) (hq : q ≤ 31) (w : World) : Calls Tryz.prog 148 #[.int .i64 m, .int .i64 q] w fun e w' => e = .returned (.int .i64 (q * (2 * m + 1))) ∧ w = w' := by
  have hb : q * (2 * m + 1) ≤ 31 * 255 := Int.mul_le_mul hq (by omega) (by omega) (by omega)
  have hc : 0 ≤ q * (2 * m + 1) := Int.mul_nonneg (by omega) (by omega)
  go_enter Tryz.func148, Tryz.ntmps148
  go_wp2
  go_ret
  exact ⟨rfl, rfl⟩
/-- the two funcs -/
def scalesA : Value := .agg #[.func (.func 147) #[] #[], .func (.func 148) #[] #[]]
@[go_sem] theorem run_store_funcU {P : Program} {w : World} {a : Addr} {m : Mode} (fn : Fn) (first captured : Array Value) : (store a (.func fn first captured) m).run P w = stored P w a (.func fn first captured) m := run_store P w a _ m rfl
theorem two_cellsU (w : World) (x y : Value) (t : TypeId) : (w.alloc (.cells #[x, y] t (0, 0))).cell? ⟨w.heap.size, 0, none⟩ = some x ∧ (w.alloc (.cells #[x, y] t (0, 0))).cell? ⟨w.heap.size, 1, none⟩ = some y := by
  have h := World.alloc_heap_new w (.cells #[x, y] t (0, 0))
  generalize w.alloc (.cells #[x, y] t (0, 0)) = w' at h ⊢
  simp [World.cell?, h]
theorem frozen_new (w : World) (vs : Array Value) (t : TypeId) (k : Nat) : (w.alloc (.cells vs t (0, 0))).frozen? ⟨w.heap.size, k, none⟩ = false := Lib.frozen_of_heap (World.alloc_heap_new w (.cells vs t (0, 0))) k
theorem scales_any (w : World) : Calls Tryz.prog 136 #[] w fun e w' => e = .returned scalesA ∧ Below w.heap.size w w' := by
  obtain ⟨c0, c1⟩ := two_cellsU w .nilFunc .nilFunc 174
  have f0 := frozen_new w #[.nilFunc, .nilFunc] 174 0
  have f1 := frozen_new w #[.nilFunc, .nilFunc] 174 1
  have hb : Below w.heap.size w (w.alloc (.cells #[.nilFunc, .nilFunc] 174 (0, 0))) := (Below.refl _ w).alloc (Nat.le_refl _) _
  have HB := Lib.hid hb
  have HH := Lib.hid (World.alloc_heap_new w (.cells #[.nilFunc, .nilFunc] 174 (0, 0)))
  clear hb
  go_enter Tryz.func136, Tryz.ntmps136
  go_wp2
  exact bodyPost_ret (v := scalesA) (results_cell_row rfl _ _ w.heap.size 174 _ (0, 0) (.array 2 55) rfl (World.alloc_heap_new w _) (by kernel_rfl) rfl (by kernel_rfl)) rfl ⟨rfl, (Below.refl _ w).alloc (Nat.le_refl _) _⟩

theorem scales_ix0 (W : World) : (Instr.index 174 scalesA (.int .i64 0)).run Tryz.prog W = .ok (.func (.func 147) #[] #[]) W := by kernel_rfl
theorem scales_ix1 (W : World) : (Instr.index 174 scalesA (.int .i64 1)).run Tryz.prog W = .ok (.func (.func 148) #[] #[]) W := by kernel_rfl
/-- either func, by the quantiser's parity -/
theorem scaleOf_any (q m : Int) (h0 : 1 ≤ m) (hm : m ≤ 127) (h1 : 1 ≤ q) (hq : q ≤ 31) :
    (Int.tmod q 2 = 0 ∧ ∀ W, Calls Tryz.prog 147 #[.int .i64 m, .int .i64 q] W fun e w' => e = .returned (.int .i64 (farU m q)) ∧ W = w') ∨
     (Int.tmod q 2 = 1 ∧ ∀ W, Calls Tryz.prog 148 #[.int .i64 m, .int .i64 q] W fun e w' => e = .returned (.int .i64 (farU m q)) ∧ W = w') := by
  have he := Int.tmod_eq_emod_of_nonneg (b := 2) (show 0 ≤ q by omega)
  rcases (by omega : q % 2 = 0 ∨ q % 2 = 1) with hr | hr
  · refine .inl ⟨by rw [he, hr], fun W => ?_⟩
    have := scale1_any m q (by omega) hm h1 hq W
    rwa [show farU m q = q * (2 * m + 1) - 1 by unfold farU; rw [if_pos hr]]
  · refine .inr ⟨by rw [he, hr], fun W => ?_⟩
    have := scale2_any m q (by omega) hm h1 hq W
    rwa [show farU m q = q * (2 * m + 1) by unfold farU; rw [if_neg (by omega)]]
set_option maxHeartbeats 1000000 in
theorem worth_any (l q : Int) (hl : okLU l = true) (hq : okQU q = true) (w : World) : Calls Tryz.prog 121 #[.int .i64 l, .int .i64 q] w fun e w' => e = .returned (.int .i64 (worthU l q)) ∧ Below w.heap.size w w' := by
  rw [okLU_iff] at hl
  rw [okQU_iff] at hq
  obtain ⟨l1, l2⟩ := hl
  obtain ⟨q1, q2⟩ := hq
  have HS := Lib.hid (scales_any w)
  have ix0 := scales_ix0
  have ix1 := scales_ix1
  have HC := Lib.hid (fun n W => clipU_any n (-2048) 2047 W)
  rcases Int.lt_trichotomy l 0 with h1 | h1 | h1
  · have HF := scaleOf_any q (-l) (by omega) (by omega) q1 q2
    have HW : worthU l q = max (-2048) (min (-(farU (-l) q)) 2047) := by unfold worthU; rw [if_neg (by omega), if_pos h1]
    have b1 := farU_ge (m := -l) (by omega) q1
    have b2 := farU_le (m := -l) (by omega) (by omega) q1 q2
    rw [HW]
    clear HW
    generalize farU (-l) q = t at *
    rcases HF with ⟨hr2, HF⟩ | ⟨hr2, HF⟩
    · have HG := Lib.hid HF
      clear HF
      go_enter Tryz.func121, Tryz.ntmps121
      go_wp2_with (first
        | (go_at_call 136; refine HS.out.mono ?_; rintro e w1 ⟨rfl, hb⟩)
        | (go_at_call 147; refine (HG.out _).mono ?_; rintro e w2 ⟨rfl, rfl⟩)
        | (go_at_call 137; refine (HC.out _ _).mono ?_; rintro e w3 ⟨rfl, rfl⟩))
      go_ret
      exact ⟨rfl, hb⟩
    · have HG := Lib.hid HF
      clear HF
      go_enter Tryz.func121, Tryz.ntmps121
      go_wp2_with (first
        | (go_at_call 136; refine HS.out.mono ?_; rintro e w1 ⟨rfl, hb⟩)
        | (go_at_call 148; refine (HG.out _).mono ?_; rintro e w2 ⟨rfl, rfl⟩)
        | (go_at_call 137; refine (HC.out _ _).mono ?_; rintro e w3 ⟨rfl, rfl⟩))
      go_ret
      exact ⟨rfl, hb⟩
  · subst h1
    have HF := scaleOf_any q 1 (by omega) (by omega) q1 q2
    rw [worthU_zero]
    rcases HF with ⟨hr2, HF⟩ | ⟨hr2, HF⟩
    · clear HF
      go_enter Tryz.func121, Tryz.ntmps121
      go_wp2_with (go_at_call 136; refine HS.out.mono ?_; rintro e w1 ⟨rfl, hb⟩)
      go_ret
      exact ⟨rfl, hb⟩
    · clear HF
      go_enter Tryz.func121, Tryz.ntmps121
      go_wp2_with (go_at_call 136; refine HS.out.mono ?_; rintro e w1 ⟨rfl, hb⟩)
      go_ret
      exact ⟨rfl, hb⟩
  · have HF := scaleOf_any q l (by omega) (by omega) q1 q2
    have HW : worthU l q = max (-2048) (min (farU l q) 2047) := by unfold worthU; rw [if_pos h1]
    rw [HW]
    clear HW
    generalize farU l q = t at *
    rcases HF with ⟨hr2, HF⟩ | ⟨hr2, HF⟩
    · have HG := Lib.hid HF
      clear HF
      go_enter Tryz.func121, Tryz.ntmps121
      go_wp2_with (first
        | (go_at_call 136; refine HS.out.mono ?_; rintro e w1 ⟨rfl, hb⟩)
        | (go_at_call 147; refine (HG.out _).mono ?_; rintro e w2 ⟨rfl, rfl⟩)
        | (go_at_call 137; refine (HC.out _ _).mono ?_; rintro e w3 ⟨rfl, rfl⟩))
      go_ret
      exact ⟨rfl, hb⟩
    · have HG := Lib.hid HF
      clear HF
      go_enter Tryz.func121, Tryz.ntmps121
      go_wp2_with (first
        | (go_at_call 136; refine HS.out.mono ?_; rintro e w1 ⟨rfl, hb⟩)
        | (go_at_call 148; refine (HG.out _).mono ?_; rintro e w2 ⟨rfl, rfl⟩)
        | (go_at_call 137; refine (HC.out _ _).mono ?_; rintro e w3 ⟨rfl, rfl⟩))
      go_ret
      exact ⟨rfl, hb⟩

theorem valueU_ok {l q : Int} (hl : okLU l = true) (hq : okQU q = true) : valueU l q = (worthU l q, 0) := by unfold valueU; rw [hl, hq]; rfl
theorem dcU_any (c : Int) (w : World) : Calls Tryz.prog 98 #[.int .i64 c] w fun e w' => e = .returned (.tuple #[.int .i64 (dcU c).1, .int .i64 (dcU c).2]) ∧ w = w' := by
  by_cases h0 : c < 0
  · have hv : dcU c = (0, 3) := by unfold dcU; rw [if_pos (.inl h0)]
    rw [hv]
    clear hv
    go_enter Tryz.func98, Tryz.ntmps98
    go_wp2
    go_ret2
    exact ⟨rfl, rfl⟩
  by_cases h1 : 255 < c
  · have hv : dcU c = (0, 3) := by unfold dcU; rw [if_pos (.inr h1)]
    rw [hv]
    clear hv
    go_enter Tryz.func98, Tryz.ntmps98
    go_wp2
    go_ret2
    exact ⟨rfl, rfl⟩
  by_cases h2 : c = 0
  · subst h2
    go_enter Tryz.func98, Tryz.ntmps98
    go_wp2
    go_ret2
    exact ⟨rfl, rfl⟩
  by_cases h3 : c = 128
  · subst h3
    go_enter Tryz.func98, Tryz.ntmps98
    go_wp2
    go_ret2
    exact ⟨rfl, rfl⟩
  by_cases h4 : c = 255
  · subst h4
    go_enter Tryz.func98, Tryz.ntmps98
    go_wp2
    go_ret2
    exact ⟨rfl, rfl⟩
  have hv : dcU c = (8 * c, 0) := by unfold dcU; rw [if_neg (by omega), if_neg (by omega), if_neg h4]
  have e1 : (c == 0) = false := by simpa using h2
  have e2 : (c == 128) = false := by simpa using h3
  have e3 : (c == 255) = false := by simpa using h4
  rw [hv]
  clear hv
  go_enter Tryz.func98, Tryz.ntmps98
  go_wp2
  go_ret2
  exact ⟨rfl, rfl⟩

end Go.Proofs.YtbcfiafgolcbpaaGreatDoor

/- quant.check, quant.values, quant.Inter, quant.Intra: what the levels of a block are worth. -/
namespace Go.Proofs.YtbcfiafgolcbpaaGreatDoor
open Go.RowKit Go.Shelf
set_option linter.unusedVariables false

set_option maxRecDepth 100000 in
set_option maxHeartbeats 1000000 in
theorem checkU_any {n₀ : Nat} {w : World} {av : Option Addr} {len cap : Nat} {xs : List Int} (hR : RowV n₀ w av len cap (intV xs)) (hn : n₀ ≤ w.heap.size) (hlen : len ≤ 1000000) (q : Int) :
    Calls Tryz.prog 97 #[.slice av len cap, .int .i64 q] w fun e w' => e = .returned (.int .i64 (interU xs q).1) ∧ w = w' := by
  have hl : xs.length = len := by have := hR.1; simpa using this
  have HL := Lib.hid (fun x W => isLevelU_any x W)
  have HQ := Lib.hid (fun W => isQuantU_any q W)
  have HR := Lib.hid hR
  clear hR
  by_cases h64 : len = 64
  · subst h64
    obtain ⟨R, hRes⟩ : ∃ R, (interU xs q).1 = R := ⟨_, rfl⟩
    rw [hRes]
    have HRes := Lib.hid hRes
    clear hRes
    go_enter Tryz.func97, Tryz.ntmps97
    go_wp2_with fail
    go_loop [12] (fun i => ∃ k : Nat, i = .int .i64 k ∧ k ≤ 64 ∧ ∀ j, j < k → okLU (xs[j]?.getD 0) = true) (fun i => 64 - (intOf i).toNat)
    case atStart => exact ⟨0, rfl, by omega, fun j hj => by omega⟩
    case round =>
      obtain ⟨k, rfl, hk, hno⟩ := hrel
      have HNo := Lib.hid hno
      clear hno
      by_cases hk2 : k < 64
      · obtain ⟨b, off, rfl, hb, hc⟩ := HR.out.cells (by omega)
        have x1 := hc k (.int .i64 (xs[k]?.getD 0)) (by simp [show k < xs.length by omega])
        have hA := @not_allU xs k (by omega)
        have z1 : (k : Int) < 64 := by omega
        have HLx := Lib.hid (fun W => HL.out (xs[k]?.getD 0) W)
        have HSt : Hid (okLU (xs[k]?.getD 0) = true → ∀ j, j < k + 1 → okLU (xs[j]?.getD 0) = true) := by
          show okLU (xs[k]?.getD 0) = true → ∀ j, j < k + 1 → okLU (xs[j]?.getD 0) = true
          intro h j hj
          by_cases e : j = k
          · rw [e]; exact h
          · exact HNo.out j (by omega)
        clear hc
        generalize xs[k]?.getD 0 = x at *
        cases hin : okLU x with
        | true =>
          rw [hin] at HLx
          have HS2 := Lib.hid (HSt.out hin)
          clear hA HSt hin
          go_wp2_with (go_at_call 119; refine (HLx.out _).mono ?_; rintro e w' ⟨rfl, rfl⟩)
          go_round
          case rel => exact ⟨k + 1, by go_num, by omega, HS2.out⟩
          case measure => simp [intOf]; omega
        | false =>
          rw [hin] at HLx
          have HA : Hid (R = 3) := by show R = 3; rw [← HRes.out, interU_bad hl (.inl (hA hin))]
          clear hA HSt hin
          go_wp2_with (go_at_call 119; refine (HLx.out _).mono ?_; rintro e w' ⟨rfl, rfl⟩)
          go_ret
          exact ⟨ret_int HA.out.symm, rfl⟩
      · obtain rfl : k = 64 := by omega
        have HA : Hid (xs.all okLU = true) := (allU_iff xs).2 (fun j hj => HNo.out j (by omega))
        cases hq : okQU q with
        | false =>
          rw [hq] at HQ
          have HA2 : Hid (R = 3) := by show R = 3; rw [← HRes.out, interU_bad hl (.inr hq)]
          clear hq
          go_wp2_with (go_at_call 120; refine (HQ.out _).mono ?_; rintro e w' ⟨rfl, rfl⟩)
          go_ret
          exact ⟨ret_int HA2.out.symm, rfl⟩
        | true =>
          rw [hq] at HQ
          have HA2 : Hid (R = 0) := by show R = 0; rw [← HRes.out, interU_ok hl HA.out hq]
          clear hq
          go_wp2_with (go_at_call 120; refine (HQ.out _).mono ?_; rintro e w' ⟨rfl, rfl⟩)
          go_ret
          exact ⟨ret_int HA2.out.symm, rfl⟩
  · rw [interU_len q (by omega)]
    have e1 : ((len : Int) != 64) = true := by simp; omega
    go_enter Tryz.func97, Tryz.ntmps97
    go_wp2
    go_ret
    exact ⟨rfl, rfl⟩

set_option maxRecDepth 100000 in
set_option maxHeartbeats 1000000 in
theorem valuesU_any {n₀ : Nat} {w : World} {av : Option Addr} {cap : Nat} {xs : List Int} (hR : RowV n₀ w av 64 cap (intV xs)) (hn : n₀ ≤ w.heap.size) (q : Int) (hA : xs.all okLU = true) (hq : okQU q = true) :
    Calls Tryz.prog 99 #[.slice av 64 cap, .int .i64 q] w fun e w' => ∃ g, e = .returned (.slice (some ⟨g, 0, none⟩) 64 64) ∧ w.heap.size ≤ g ∧ NumsAt w' g 3 (xs.map fun l => worthU l q) ∧ Below w.heap.size w w' := by
  have hl : xs.length = 64 := by have := hR.1; simpa using this
  have HR := Lib.hid hR
  have HV := Lib.hid (fun l hl W => worth_any l q hl hq W)
  have HA := Lib.hid ((allU_iff xs).1 hA)
  have hmk := made64
  have HB0 := Lib.hid (ints64_new w 3 zeros64)
  have HN0 := Lib.hid (numsAt_new w 3 zeros64)
  have HE := Lib.hid (fillU_all q hl)
  have HSt := Lib.hid (fun k hk => @fillU_step xs q k hl hk)
  have HFl := Lib.hid (fun k hk => @fillU_length xs q k hl hk)
  have HZ := Lib.hid (show NumsAt (w.alloc (.cells (numsA zeros64) 3)) w.heap.size 3 (fillU xs q 0) by rw [fillU_zero]; exact HN0.out)
  clear hR hA hq HN0
  go_enter Tryz.func99, Tryz.ntmps99
  go_wp2_with fail
  generalize w.alloc (.cells (numsA zeros64) 3 (0, 0)) = w1 at *
  clear hmk
  go_loopw [13] (fun i wr => ∃ k : Nat, i = .int .i64 k ∧ k ≤ 64 ∧ NumsAt wr w.heap.size 3 (fillU xs q k) ∧ Below w.heap.size w wr) (fun i _ => 64 - (intOf i).toNat)
  case atStart => exact ⟨0, rfl, by omega, HZ.out, HB0.out⟩
  case round =>
    obtain ⟨k, rfl, hk, hN, hB⟩ := hrel
    have HN := Lib.hid hN
    have HB := Lib.hid hB
    clear hN hB
    by_cases hk2 : k < 64
    · obtain ⟨b, off, rfl, hb, hc⟩ := HR.out.cells (by omega)
      have x1 := (HB.out.cell (p := ⟨b, off + k, none⟩) (by simp; omega)).trans (hc k (.int .i64 (xs[k]?.getD 0)) (by simp [show k < xs.length by omega]))
      have z1 : (k : Int) < 64 := by omega
      have HVx := Lib.hid (HV.out (xs[k]?.getD 0) (HA.out k (by omega)))
      have HS2 := Lib.hid (HSt.out k hk2)
      have HF2 := Lib.hid (HFl.out k hk)
      have hgw := HN.out.lt
      clear hc
      generalize xs[k]?.getD 0 = x at *
      generalize worthU x q = y at *
      generalize fillU xs q k = F at *
      go_wp2_with (go_at_call 121; refine (HVx.out _).mono ?_; rintro e w2 ⟨rfl, b2⟩; have HB2 := Lib.hid (HB.out.trans (b2.mono HB.out.size)); have HN2 := Lib.hid (HN.out.below b2 hgw); clear b2; have c2 := HN2.out.cell (k := k) (by rw [HF2.out]; omega); have f2 := HN2.out.frozen k)
      go_roundw
      case rel => exact ⟨k + 1, by go_num, by omega, by rw [← HS2.out]; exact HN2.out.set k y, HB2.out.setCell (p := ⟨w.heap.size, k, none⟩) (Nat.le_refl _) (.int .i64 y)⟩
      case measure => simp [intOf]; omega
    · obtain rfl : k = 64 := by omega
      go_wp2_with fail
      go_ret
      exact ⟨_, rfl, Nat.le_refl _, by rw [← HE.out]; exact HN.out, HB.out⟩

set_option maxHeartbeats 1000000 in
theorem interU_any {n₀ : Nat} {w : World} {av : Option Addr} {len cap : Nat} {xs : List Int} (hR : RowV n₀ w av len cap (intV xs)) (hn : n₀ ≤ w.heap.size) (hlen : len ≤ 1000000) (q : Int) :
    Calls Tryz.prog 75 #[.slice av len cap, .int .i64 q] w fun e w' => ∃ v, e = .returned (.tuple #[v, .int .i64 (interU xs q).1]) ∧ OwnI w' w.heap.size v (interU xs q).2 ∧ Below w.heap.size w w' := by
  have HC := Lib.hid (checkU_any hR hn hlen q)
  have hl : xs.length = len := by have := hR.1; simpa using this
  rcases interU_cases xs q with h | h | ⟨h64, hA, hq, h⟩
  · rw [h] at HC ⊢
    clear h hR
    go_enter Tryz.func75, Tryz.ntmps75
    go_wp2_with (go_at_call 97; refine HC.out.mono ?_; rintro e w' ⟨rfl, rfl⟩)
    go_ret2
    exact ⟨_, rfl, ownI_nil _ _, Below.refl _ _⟩
  · rw [h] at HC ⊢
    clear h hR
    go_enter Tryz.func75, Tryz.ntmps75
    go_wp2_with (go_at_call 97; refine HC.out.mono ?_; rintro e w' ⟨rfl, rfl⟩)
    go_ret2
    exact ⟨_, rfl, ownI_nil _ _, Below.refl _ _⟩
  · obtain rfl : len = 64 := by omega
    have HV := Lib.hid (valuesU_any hR hn q hA hq)
    rw [h] at HC ⊢
    have h2 : (xs.map fun l => worthU l q).length = 64 := by simpa using h64
    clear h hR hA hq h64 hl
    generalize (xs.map fun l => worthU l q) = ys at *
    go_enter Tryz.func75, Tryz.ntmps75
    go_wp2_with (first
      | (go_at_call 97; refine HC.out.mono ?_; rintro e w' ⟨rfl, rfl⟩)
      | (go_at_call 99; refine HV.out.mono ?_; rintro e w' ⟨g, rfl, hg, hN, hb⟩))
    go_ret2
    exact ⟨_, rfl, ⟨3, by rw [h2]; exact hN.own h2 hg⟩, hb⟩

theorem intraU_err {xs : List Int} {q c : Int} (h : (interU xs q).1 ≠ 0) : intraU xs q c = ((interU xs q).1, []) := by unfold intraU; rw [if_pos h]
theorem intraU_dc {xs : List Int} {q c : Int} (h : (interU xs q).1 = 0) (h2 : (dcU c).2 ≠ 0) : intraU xs q c = ((dcU c).2, []) := by unfold intraU; rw [if_neg (by omega), if_pos h2]
theorem intraU_ok {xs : List Int} {q c : Int} (h : (interU xs q).1 = 0) (h2 : (dcU c).2 = 0) : intraU xs q c = (0, (interU xs q).2.set 0 (dcU c).1) := by unfold intraU; rw [if_neg (by omega), if_neg (by omega)]
set_option maxHeartbeats 1000000 in
theorem intraU_any {n₀ : Nat} {w : World} {av : Option Addr} {len cap : Nat} {xs : List Int} (hR : RowV n₀ w av len cap (intV xs)) (hn : n₀ ≤ w.heap.size) (hlen : len ≤ 1000000) (q c : Int) :
    Calls Tryz.prog 74 #[.slice av len cap, .int .i64 q, .int .i64 c] w fun e w' => ∃ v, e = .returned (.tuple #[v, .int .i64 (intraU xs q c).1]) ∧ OwnI w' w.heap.size v (intraU xs q c).2 ∧ Below w.heap.size w w' := by
  have HC := Lib.hid (checkU_any hR hn hlen q)
  have HD := Lib.hid (fun W => dcU_any c W)
  have hl : xs.length = len := by have := hR.1; simpa using this
  rcases interU_cases xs q with h | h | ⟨h64, hA, hq, h⟩
  · rw [intraU_err (by rw [h]; decide)]
    rw [h] at HC ⊢
    clear h hR
    go_enter Tryz.func74, Tryz.ntmps74
    go_wp2_with (go_at_call 97; refine HC.out.mono ?_; rintro e w' ⟨rfl, rfl⟩)
    go_ret2
    exact ⟨_, rfl, ownI_nil _ _, Below.refl _ _⟩
  · rw [intraU_err (by rw [h]; decide)]
    rw [h] at HC ⊢
    clear h hR
    go_enter Tryz.func74, Tryz.ntmps74
    go_wp2_with (go_at_call 97; refine HC.out.mono ?_; rintro e w' ⟨rfl, rfl⟩)
    go_ret2
    exact ⟨_, rfl, ownI_nil _ _, Below.refl _ _⟩
  · obtain rfl : len = 64 := by omega
    have HV := Lib.hid (valuesU_any hR hn q hA hq)
    by_cases hd : (dcU c).2 = 0
    · rw [intraU_ok (by rw [h]) hd]
      rw [h] at HC ⊢
      rw [hd] at HD
      have h2 : (xs.map fun l => worthU l q).length = 64 := by simpa using h64
      clear h hR hA hq h64 hl hd
      simp only
      generalize (xs.map fun l => worthU l q) = ys at *
      generalize (dcU c).1 = d at *
      have hys : (ys.set 0 d).length = 64 := by simpa using h2
      go_enter Tryz.func74, Tryz.ntmps74
      go_wp2_with (first
        | (go_at_call 97; refine HC.out.mono ?_; rintro e w' ⟨rfl, rfl⟩)
        | (go_at_call 98; refine (HD.out _).mono ?_; rintro e w' ⟨rfl, rfl⟩)
        | (go_at_call 99; refine HV.out.mono ?_; rintro e w' ⟨g, rfl, hg, hN, hb⟩; have HN := Lib.hid hN; have c2 := hN.cell (k := 0) (by rw [h2]; omega); have f2 := hN.frozen 0; clear hN))
      go_ret2
      exact ⟨_, rfl, ⟨3, by rw [hys]; exact (HN.out.set 0 d).own hys hg⟩, hb.setCell (p := ⟨g, 0, none⟩) hg _⟩
    · rw [intraU_dc (by rw [h]) hd]
      rw [h] at HC
      have hne : ((dcU c).2 != 0) = true := by simpa using hd
      clear h hR hA hq h64 hl hd HV
      generalize (dcU c).2 = E at *
      generalize (dcU c).1 = d at *
      go_enter Tryz.func74, Tryz.ntmps74
      go_wp2_with (first
        | (go_at_call 97; refine HC.out.mono ?_; rintro e w' ⟨rfl, rfl⟩)
        | (go_at_call 98; refine (HD.out _).mono ?_; rintro e w' ⟨rfl, rfl⟩))
      go_ret2
      exact ⟨_, rfl, ownI_nil _ _, Below.refl _ _⟩

end Go.Proofs.YtbcfiafgolcbpaaGreatDoor
