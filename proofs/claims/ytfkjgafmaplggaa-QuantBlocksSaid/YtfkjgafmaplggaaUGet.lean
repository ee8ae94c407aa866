/- quant's small functions: isLevel, isQuant, clip, scales, worth, Value, DC. -/
import Derived.Test.YtfkjgafmaplggaaUPlain
import Derived.Lib.MinMax
namespace Go.Proofs.Ytfkjgafmaplggaa
open Go.RowKit Go.Shelf
set_option linter.unusedVariables false

theorem isLevelU_any (x : Int) (w : World) : Calls Try.prog 29 #[.int .i64 x] w fun e w' => e = .returned (.bool (okLU x)) ∧ w = w' := by
  by_cases h1 : -127 ≤ x
  · have hr : okLU x = decide (x ≤ 127) := by simp [okLU, h1]
    rw [hr]
    clear hr
    by_cases h2 : x ≤ 127
    · go_enter Try.func29, Try.ntmps29
      go_wp2
      go_ret
      exact ⟨by simp [h2], rfl⟩
    · go_enter Try.func29, Try.ntmps29
      go_wp2
      go_ret
      exact ⟨by simp [h2], rfl⟩
  · have hr : okLU x = false := by simp [okLU, h1]
    rw [hr]
    clear hr
    go_enter Try.func29, Try.ntmps29
    go_wp2
    go_ret
    exact ⟨rfl, rfl⟩
theorem isQuantU_any (x : Int) (w : World) : Calls Try.prog 30 #[.int .i64 x] w fun e w' => e = .returned (.bool (okQU x)) ∧ w = w' := by
  by_cases h1 : 1 ≤ x
  · have hr : okQU x = decide (x ≤ 31) := by simp [okQU, h1]
    rw [hr]
    clear hr
    by_cases h2 : x ≤ 31
    · go_enter Try.func30, Try.ntmps30
      go_wp2
      go_ret
      exact ⟨by simp [h2], rfl⟩
    · go_enter Try.func30, Try.ntmps30
      go_wp2
      go_ret
      exact ⟨by simp [h2], rfl⟩
  · have hr : okQU x = false := by simp [okQU, h1]
    rw [hr]
    clear hr
    go_enter Try.func30, Try.ntmps30
    go_wp2
    go_ret
    exact ⟨rfl, rfl⟩
theorem clipU_any (n low high : Int) (w : World) : Calls Try.prog 38 #[.int .i64 n, .int .i64 low, .int .i64 high] w fun e w' => e = .returned (.int .i64 (max low (min n high))) ∧ w = w' := by
  go_enter Try.func38, Try.ntmps38
  go_wp2
  go_ret
  exact ⟨rfl, rfl⟩
theorem scale1_any (m q : Int) (h0 : 0 ≤ m) (hm : m ≤ 127) (h1 : 1 ≤ q) (hq : q ≤ 31) (w : World) : Calls Try.prog 40 #[.int .i64 m, .int .i64 q] w fun e w' => e = .returned (.int .i64 (q * (2 * m + 1) - 1)) ∧ w = w' := by
  have hb : q * (2 * m + 1) ≤ 31 * 255 := Int.mul_le_mul hq (by omega) (by omega) (by omega)
  have hc : 0 ≤ q * (2 * m + 1) := Int.mul_nonneg (by omega) (by omega)
  go_enter Try.func40, Try.ntmps40
  go_wp2
  go_ret
  exact ⟨rfl, rfl⟩
theorem scale2_any (m q : Int) (h0 : 0 ≤ m) (hm : m ≤ 127) (h1 : 1 ≤ q) (hq : q ≤ 31) (w : World) : Calls Try.prog 41 #[.int .i64 m, .int .i64 q] w fun e w' => e = .returned (.int .i64 (q * (2 * m + 1))) ∧ w = w' := by
  have hb : q * (2 * m + 1) ≤ 31 * 255 := Int.mul_le_mul hq (by omega) (by omega) (by omega)
  have hc : 0 ≤ q * (2 * m + 1) := Int.mul_nonneg (by omega) (by omega)
  go_enter Try.func41, Try.ntmps41
  go_wp2
  go_ret
  exact ⟨rfl, rfl⟩
/-- the two funcs -/
def scalesA : Value := .agg #[.func (.func 40) #[] #[], .func (.func 41) #[] #[]]
@[go_sem] theorem run_store_funcU {P : Program} {w : World} {a : Addr} {m : Mode} (fn : Fn) (first captured : Array Value) : (store a (.func fn first captured) m).run P w = stored P w a (.func fn first captured) m := run_store P w a _ m rfl
theorem two_cellsU (w : World) (x y : Value) (t : TypeId) : (w.alloc (.cells #[x, y] t (0, 0))).cell? ⟨w.heap.size, 0, none⟩ = some x ∧ (w.alloc (.cells #[x, y] t (0, 0))).cell? ⟨w.heap.size, 1, none⟩ = some y := by
  have h := World.alloc_heap_new w (.cells #[x, y] t (0, 0))
  generalize w.alloc (.cells #[x, y] t (0, 0)) = w' at h ⊢
  simp [World.cell?, h]
theorem frozen_new (w : World) (vs : Array Value) (t : TypeId) (k : Nat) : (w.alloc (.cells vs t (0, 0))).frozen? ⟨w.heap.size, k, none⟩ = false := Lib.frozen_of_heap (World.alloc_heap_new w (.cells vs t (0, 0))) k
theorem scales_any (w : World) : Calls Try.prog 37 #[] w fun e w' => e = .returned scalesA ∧ Below w.heap.size w w' := by
  obtain ⟨c0, c1⟩ := two_cellsU w .nilFunc .nilFunc 47
  have f0 := frozen_new w #[.nilFunc, .nilFunc] 47 0
  have f1 := frozen_new w #[.nilFunc, .nilFunc] 47 1
  have hb : Below w.heap.size w (w.alloc (.cells #[.nilFunc, .nilFunc] 47 (0, 0))) := (Below.refl _ w).alloc (Nat.le_refl _) _
  have HB := Lib.hid hb
  have HH := Lib.hid (World.alloc_heap_new w (.cells #[.nilFunc, .nilFunc] 47 (0, 0)))
  clear hb
  go_enter Try.func37, Try.ntmps37
  go_wp2
  exact bodyPost_ret (v := scalesA) (results_cell_row rfl _ _ w.heap.size 47 _ (0, 0) (.array 2 42) rfl (World.alloc_heap_new w _) (by kernel_rfl) rfl (by kernel_rfl)) rfl ⟨rfl, (Below.refl _ w).alloc (Nat.le_refl _) _⟩

theorem scales_ix0 (W : World) : (Instr.index 47 scalesA (.int .i64 0)).run Try.prog W = .ok (.func (.func 40) #[] #[]) W := by kernel_rfl
theorem scales_ix1 (W : World) : (Instr.index 47 scalesA (.int .i64 1)).run Try.prog W = .ok (.func (.func 41) #[] #[]) W := by kernel_rfl
/-- either func, by the quantiser's parity -/
theorem scaleOf_any (q m : Int) (h0 : 1 ≤ m) (hm : m ≤ 127) (h1 : 1 ≤ q) (hq : q ≤ 31) :
    (Int.tmod q 2 = 0 ∧ ∀ W, Calls Try.prog 40 #[.int .i64 m, .int .i64 q] W fun e w' => e = .returned (.int .i64 (farU m q)) ∧ W = w') ∨
     (Int.tmod q 2 = 1 ∧ ∀ W, Calls Try.prog 41 #[.int .i64 m, .int .i64 q] W fun e w' => e = .returned (.int .i64 (farU m q)) ∧ W = w') := by
  have he := Int.tmod_eq_emod_of_nonneg (b := 2) (show 0 ≤ q by omega)
  rcases (by omega : q % 2 = 0 ∨ q % 2 = 1) with hr | hr
  · refine .inl ⟨by rw [he, hr], fun W => ?_⟩
    have := scale1_any m q (by omega) hm h1 hq W
    rwa [show farU m q = q * (2 * m + 1) - 1 by unfold farU; rw [if_pos hr]]
  · refine .inr ⟨by rw [he, hr], fun W => ?_⟩
    have := scale2_any m q (by omega) hm h1 hq W
    rwa [show farU m q = q * (2 * m + 1) by unfold farU; rw [if_neg (by omega)]]
set_option maxHeartbeats 1000000 in
theorem worth_any (l q : Int) (hl : okLU l = true) (hq : okQU q = true) (w : World) : Calls Try.prog 31 #[.int .i64 l, .int .i64 q] w fun e w' => e = .returned (.int .i64 (worthU l q)) ∧ Below w.heap.size w w' := by
  rw [okLU_iff] at hl
  rw [okQU_iff] at hq
  obtain ⟨l1, l2⟩ := hl
  obtain ⟨q1, q2⟩ := hq
  have HS := Lib.hid (scales_any w)
  have ix0 := scales_ix0
  have ix1 := scales_ix1
  have HC := Lib.hid (fun n W => clipU_any n (-2048) 2047 W)
  rcases Int.lt_trichotomy l 0 with h1 | h1 | h1
  · have HF := scaleOf_any q (-l) (by omega) (by omega) q1 q2
    have HW : worthU l q = max (-2048) (min (-(farU (-l) q)) 2047) := by unfold worthU; rw [if_neg (by omega), if_pos h1]
    have b1 := farU_ge (m := -l) (by omega) q1
    have b2 := farU_le (m := -l) (by omega) (by omega) q1 q2
    rw [HW]
    clear HW
    generalize farU (-l) q = t at *
    rcases HF with ⟨hr2, HF⟩ | ⟨hr2, HF⟩
    · have HG := Lib.hid HF
      clear HF
      go_enter Try.func31, Try.ntmps31
      go_wp2_with (first
        | (go_at_call 37; refine HS.out.mono ?_; rintro e w1 ⟨rfl, hb⟩)
        | (go_at_call 40; refine (HG.out _).mono ?_; rintro e w2 ⟨rfl, rfl⟩)
        | (go_at_call 38; refine (HC.out _ _).mono ?_; rintro e w3 ⟨rfl, rfl⟩))
      go_ret
      exact ⟨rfl, hb⟩
    · have HG := Lib.hid HF
      clear HF
      go_enter Try.func31, Try.ntmps31
      go_wp2_with (first
        | (go_at_call 37; refine HS.out.mono ?_; rintro e w1 ⟨rfl, hb⟩)
        | (go_at_call 41; refine (HG.out _).mono ?_; rintro e w2 ⟨rfl, rfl⟩)
        | (go_at_call 38; refine (HC.out _ _).mono ?_; rintro e w3 ⟨rfl, rfl⟩))
      go_ret
      exact ⟨rfl, hb⟩
  · subst h1
    have HF := scaleOf_any q 1 (by omega) (by omega) q1 q2
    rw [worthU_zero]
    rcases HF with ⟨hr2, HF⟩ | ⟨hr2, HF⟩
    · clear HF
      go_enter Try.func31, Try.ntmps31
      go_wp2_with (go_at_call 37; refine HS.out.mono ?_; rintro e w1 ⟨rfl, hb⟩)
      go_ret
      exact ⟨rfl, hb⟩
    · clear HF
      go_enter Try.func31, Try.ntmps31
      go_wp2_with (go_at_call 37; refine HS.out.mono ?_; rintro e w1 ⟨rfl, hb⟩)
      go_ret
      exact ⟨rfl, hb⟩
  · have HF := scaleOf_any q l (by omega) (by omega) q1 q2
    have HW : worthU l q = max (-2048) (min (farU l q) 2047) := by unfold worthU; rw [if_pos h1]
    rw [HW]
    clear HW
    generalize farU l q = t at *
    rcases HF with ⟨hr2, HF⟩ | ⟨hr2, HF⟩
    · have HG := Lib.hid HF
      clear HF
      go_enter Try.func31, Try.ntmps31
      go_wp2_with (first
        | (go_at_call 37; refine HS.out.mono ?_; rintro e w1 ⟨rfl, hb⟩)
        | (go_at_call 40; refine (HG.out _).mono ?_; rintro e w2 ⟨rfl, rfl⟩)
        | (go_at_call 38; refine (HC.out _ _).mono ?_; rintro e w3 ⟨rfl, rfl⟩))
      go_ret
      exact ⟨rfl, hb⟩
    · have HG := Lib.hid HF
      clear HF
      go_enter Try.func31, Try.ntmps31
      go_wp2_with (first
        | (go_at_call 37; refine HS.out.mono ?_; rintro e w1 ⟨rfl, hb⟩)
        | (go_at_call 41; refine (HG.out _).mono ?_; rintro e w2 ⟨rfl, rfl⟩)
        | (go_at_call 38; refine (HC.out _ _).mono ?_; rintro e w3 ⟨rfl, rfl⟩))
      go_ret
      exact ⟨rfl, hb⟩

theorem valueU_ok {l q : Int} (hl : okLU l = true) (hq : okQU q = true) : valueU l q = (worthU l q, 0) := by unfold valueU; rw [hl, hq]; rfl
theorem valueU_any (l q : Int) (w : World) : Calls Try.prog 10 #[.int .i64 l, .int .i64 q] w fun e w' => e = .returned (.tuple #[.int .i64 (valueU l q).1, .int .i64 (valueU l q).2]) ∧ Below w.heap.size w w' := by
  have HL := Lib.hid (fun W => isLevelU_any l W)
  have HQ := Lib.hid (fun W => isQuantU_any q W)
  cases hl : okLU l with
  | false =>
    have hv : valueU l q = (0, 3) := by unfold valueU; rw [hl]; rfl
    rw [hv]
    rw [hl] at HL
    clear hl hv
    go_enter Try.func10, Try.ntmps10
    go_wp2_with (go_at_call 29; refine (HL.out _).mono ?_; rintro e w1 ⟨rfl, rfl⟩)
    go_ret2
    exact ⟨rfl, Below.refl _ _⟩
  | true =>
    rw [hl] at HL
    cases hq : okQU q with
    | false =>
      have hv : valueU l q = (0, 3) := by unfold valueU; rw [hl, hq]; rfl
      rw [hv]
      rw [hq] at HQ
      clear hl hq hv
      go_enter Try.func10, Try.ntmps10
      go_wp2_with (first
        | (go_at_call 29; refine (HL.out _).mono ?_; rintro e w1 ⟨rfl, rfl⟩)
        | (go_at_call 30; refine (HQ.out _).mono ?_; rintro e w1 ⟨rfl, rfl⟩))
      go_ret2
      exact ⟨rfl, Below.refl _ _⟩
    | true =>
      have HW := Lib.hid (worth_any l q hl hq)
      rw [valueU_ok hl hq]
      rw [hq] at HQ
      clear hl hq
      generalize worthU l q = t at *
      go_enter Try.func10, Try.ntmps10
      go_wp2_with (first
        | (go_at_call 29; refine (HL.out _).mono ?_; rintro e w1 ⟨rfl, rfl⟩)
        | (go_at_call 30; refine (HQ.out _).mono ?_; rintro e w1 ⟨rfl, rfl⟩)
        | (go_at_call 31; refine (HW.out _).mono ?_; rintro e w1 ⟨rfl, hb⟩))
      go_ret2
      exact ⟨rfl, hb⟩
theorem dcU_any (c : Int) (w : World) : Calls Try.prog 12 #[.int .i64 c] w fun e w' => e = .returned (.tuple #[.int .i64 (dcU c).1, .int .i64 (dcU c).2]) ∧ w = w' := by
  by_cases h0 : c < 0
  · have hv : dcU c = (0, 3) := by unfold dcU; rw [if_pos (.inl h0)]
    rw [hv]
    clear hv
    go_enter Try.func12, Try.ntmps12
    go_wp2
    go_ret2
    exact ⟨rfl, rfl⟩
  by_cases h1 : 255 < c
  · have hv : dcU c = (0, 3) := by unfold dcU; rw [if_pos (.inr h1)]
    rw [hv]
    clear hv
    go_enter Try.func12, Try.ntmps12
    go_wp2
    go_ret2
    exact ⟨rfl, rfl⟩
  by_cases h2 : c = 0
  · subst h2
    go_enter Try.func12, Try.ntmps12
    go_wp2
    go_ret2
    exact ⟨rfl, rfl⟩
  by_cases h3 : c = 128
  · subst h3
    go_enter Try.func12, Try.ntmps12
    go_wp2
    go_ret2
    exact ⟨rfl, rfl⟩
  by_cases h4 : c = 255
  · subst h4
    go_enter Try.func12, Try.ntmps12
    go_wp2
    go_ret2
    exact ⟨rfl, rfl⟩
  have hv : dcU c = (8 * c, 0) := by unfold dcU; rw [if_neg (by omega), if_neg (by omega), if_neg h4]
  have e1 : (c == 0) = false := by simpa using h2
  have e2 : (c == 128) = false := by simpa using h3
  have e3 : (c == 255) = false := by simpa using h4
  rw [hv]
  clear hv
  go_enter Try.func12, Try.ntmps12
  go_wp2
  go_ret2
  exact ⟨rfl, rfl⟩

end Go.Proofs.Ytfkjgafmaplggaa
