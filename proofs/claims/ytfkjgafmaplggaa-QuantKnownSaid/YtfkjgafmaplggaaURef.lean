/- The reference's answers for quant (praxinoscoperef10). -/
import Derived.Test.YtfkjgafmaplggaaUGet
import Derived.Test.YtfkjgafmaplggaaNums
namespace Go.Proofs.Ytfkjgafmaplggaa
open Go.RowKit Go.Shelf
set_option linter.unusedVariables false

theorem r10level_any (x : Int) (w : World) : Calls Try.prog 32 #[.int .i64 x] w fun e w' => e = .returned (.bool (okLU x)) ∧ w = w' := by
  by_cases h1 : -127 ≤ x
  · have hr : okLU x = decide (x ≤ 127) := by simp [okLU, h1]
    rw [hr]
    clear hr
    by_cases h2 : x ≤ 127
    · go_enter Try.func32, Try.ntmps32
      go_wp2
      go_ret
      exact ⟨by simp [h2], rfl⟩
    · go_enter Try.func32, Try.ntmps32
      go_wp2
      go_ret
      exact ⟨by simp [h2], rfl⟩
  · have hr : okLU x = false := by simp [okLU, h1]
    rw [hr]
    clear hr
    go_enter Try.func32, Try.ntmps32
    go_wp2
    go_ret
    exact ⟨rfl, rfl⟩
theorem r10quant_any (x : Int) (w : World) : Calls Try.prog 33 #[.int .i64 x] w fun e w' => e = .returned (.bool (okQU x)) ∧ w = w' := by
  by_cases h1 : 1 ≤ x
  · have hr : okQU x = decide (x ≤ 31) := by simp [okQU, h1]
    rw [hr]
    clear hr
    by_cases h2 : x ≤ 31
    · go_enter Try.func33, Try.ntmps33
      go_wp2
      go_ret
      exact ⟨by simp [h2], rfl⟩
    · go_enter Try.func33, Try.ntmps33
      go_wp2
      go_ret
      exact ⟨by simp [h2], rfl⟩
  · have hr : okQU x = false := by simp [okQU, h1]
    rw [hr]
    clear hr
    go_enter Try.func33, Try.ntmps33
    go_wp2
    go_ret
    exact ⟨rfl, rfl⟩

theorem r10value_any (l q : Int) (w : World) : Calls Try.prog 11 #[.int .i64 l, .int .i64 q] w fun e w' => e = .returned (.tuple #[.int .i64 (valueU l q).1, .int .i64 (valueU l q).2]) ∧ w = w' := by
  have HL := Lib.hid (fun W => r10level_any l W)
  have HQ := Lib.hid (fun W => r10quant_any q W)
  cases hl : okLU l with
  | false =>
    have hv : valueU l q = (0, 3) := by unfold valueU; rw [hl]; rfl
    rw [hv]
    rw [hl] at HL
    clear hl hv
    go_enter Try.func11, Try.ntmps11
    go_wp2_with (go_at_call 32; refine (HL.out _).mono ?_; rintro e w1 ⟨rfl, rfl⟩)
    go_ret2
    exact ⟨rfl, rfl⟩
  | true =>
    rw [hl] at HL
    cases hq : okQU q with
    | false =>
      have hv : valueU l q = (0, 3) := by unfold valueU; rw [hl, hq]; rfl
      rw [hv]
      rw [hq] at HQ
      clear hl hq hv
      go_enter Try.func11, Try.ntmps11
      go_wp2_with (first
        | (go_at_call 32; refine (HL.out _).mono ?_; rintro e w1 ⟨rfl, rfl⟩)
        | (go_at_call 33; refine (HQ.out _).mono ?_; rintro e w1 ⟨rfl, rfl⟩))
      go_ret2
      exact ⟨rfl, rfl⟩
    | true =>
      rw [valueU_ok hl hq]
      rw [hq] at HQ
      obtain ⟨l1, l2⟩ := (okLU_iff l).1 hl
      obtain ⟨q1, q2⟩ := (okQU_iff q).1 hq
      have he := Int.tmod_eq_emod_of_nonneg (b := 2) (show 0 ≤ q by omega)
      clear hl hq
      rcases Int.lt_trichotomy l 0 with h1 | h1 | h1
      · have hb1 : q * (2 * -l + 1) ≤ 31 * 255 := Int.mul_le_mul q2 (by omega) (by omega) (by omega)
        have hb2 : 1 * 3 ≤ q * (2 * -l + 1) := Int.mul_le_mul q1 (by omega) (by omega) (by omega)
        have hm : max l (-l) = -l := by omega
        have e0 : (l == 0) = false := by simp; omega
        by_cases hr : q % 2 = 0
        · have hr2 : Int.tmod q 2 = 0 := by rw [he, hr]
          have hb3 : 2 * 3 ≤ q * (2 * -l + 1) := Int.mul_le_mul (by omega) (by omega) (by omega) (by omega)
          have hW : worthU l q = -min (q * (2 * -l + 1) - 1) 2048 := by unfold worthU farU; rw [if_neg (by omega), if_pos h1, if_pos hr]; omega
          rw [hW]
          clear hW he
          go_enter Try.func11, Try.ntmps11
          go_wp2_with (first
            | (go_at_call 32; refine (HL.out _).mono ?_; rintro e w1 ⟨rfl, rfl⟩)
            | (go_at_call 33; refine (HQ.out _).mono ?_; rintro e w1 ⟨rfl, rfl⟩))
          go_ret2
          exact ⟨rfl, rfl⟩
        · have hr2 : Int.tmod q 2 = 1 := by rw [he]; omega
          have hW : worthU l q = -min (q * (2 * -l + 1)) 2048 := by unfold worthU farU; rw [if_neg (by omega), if_pos h1, if_neg hr]; omega
          rw [hW]
          clear hW he
          go_enter Try.func11, Try.ntmps11
          go_wp2_with (first
            | (go_at_call 32; refine (HL.out _).mono ?_; rintro e w1 ⟨rfl, rfl⟩)
            | (go_at_call 33; refine (HQ.out _).mono ?_; rintro e w1 ⟨rfl, rfl⟩))
          go_ret2
          exact ⟨rfl, rfl⟩
      · subst h1
        rw [worthU_zero]
        go_enter Try.func11, Try.ntmps11
        go_wp2_with (first
          | (go_at_call 32; refine (HL.out _).mono ?_; rintro e w1 ⟨rfl, rfl⟩)
          | (go_at_call 33; refine (HQ.out _).mono ?_; rintro e w1 ⟨rfl, rfl⟩))
        go_ret2
        exact ⟨rfl, rfl⟩
      · have hb1 : q * (2 * l + 1) ≤ 31 * 255 := Int.mul_le_mul q2 (by omega) (by omega) (by omega)
        have hb2 : 1 * 3 ≤ q * (2 * l + 1) := Int.mul_le_mul q1 (by omega) (by omega) (by omega)
        have hm : max l (-l) = l := by omega
        have e0 : (l == 0) = false := by simp; omega
        by_cases hr : q % 2 = 0
        · have hr2 : Int.tmod q 2 = 0 := by rw [he, hr]
          have hW : worthU l q = min (q * (2 * l + 1) - 1) 2047 := by unfold worthU farU; rw [if_pos h1, if_pos hr]; omega
          rw [hW]
          clear hW he
          go_enter Try.func11, Try.ntmps11
          go_wp2_with (first
            | (go_at_call 32; refine (HL.out _).mono ?_; rintro e w1 ⟨rfl, rfl⟩)
            | (go_at_call 33; refine (HQ.out _).mono ?_; rintro e w1 ⟨rfl, rfl⟩))
          go_ret2
          exact ⟨rfl, rfl⟩
        · have hr2 : Int.tmod q 2 = 1 := by rw [he]; omega
          have hW : worthU l q = min (q * (2 * l + 1)) 2047 := by unfold worthU farU; rw [if_pos h1, if_neg hr]; omega
          rw [hW]
          clear hW he
          go_enter Try.func11, Try.ntmps11
          go_wp2_with (first
            | (go_at_call 32; refine (HL.out _).mono ?_; rintro e w1 ⟨rfl, rfl⟩)
            | (go_at_call 33; refine (HQ.out _).mono ?_; rintro e w1 ⟨rfl, rfl⟩))
          go_ret2
          exact ⟨rfl, rfl⟩

theorem r10dc_any (c : Int) (w : World) : Calls Try.prog 13 #[.int .i64 c] w fun e w' => e = .returned (.tuple #[.int .i64 (dcU c).1, .int .i64 (dcU c).2]) ∧ w = w' := by
  by_cases h0 : c < 0
  · have hv : dcU c = (0, 3) := by unfold dcU; rw [if_pos (.inl h0)]
    rw [hv]
    clear hv
    go_enter Try.func13, Try.ntmps13
    go_wp2
    go_ret2
    exact ⟨rfl, rfl⟩
  by_cases h1 : 255 < c
  · have hv : dcU c = (0, 3) := by unfold dcU; rw [if_pos (.inr h1)]
    rw [hv]
    clear hv
    go_enter Try.func13, Try.ntmps13
    go_wp2
    go_ret2
    exact ⟨rfl, rfl⟩
  by_cases h2 : c = 0
  · subst h2
    go_enter Try.func13, Try.ntmps13
    go_wp2
    go_ret2
    exact ⟨rfl, rfl⟩
  by_cases h3 : c = 128
  · subst h3
    go_enter Try.func13, Try.ntmps13
    go_wp2
    go_ret2
    exact ⟨rfl, rfl⟩
  by_cases h4 : c = 255
  · subst h4
    go_enter Try.func13, Try.ntmps13
    go_wp2
    go_ret2
    exact ⟨rfl, rfl⟩
  have hv : dcU c = (8 * c, 0) := by unfold dcU; rw [if_neg (by omega), if_neg (by omega), if_neg h4]
  have e1 : (c == 0) = false := by simpa using h2
  have e2 : (c == 128) = false := by simpa using h3
  have e3 : (c == 255) = false := by simpa using h4
  rw [hv]
  clear hv
  go_enter Try.func13, Try.ntmps13
  go_wp2
  go_ret2
  exact ⟨rfl, rfl⟩

end Go.Proofs.Ytfkjgafmaplggaa
