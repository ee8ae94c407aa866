/- The reference's Nearest. -/
import Derived.Test.YtfkjgafmaplggaaURef
namespace Go.Proofs.Ytfkjgafmaplggaa
open Go.RowKit Go.Shelf
set_option linter.unusedVariables false

/-- between the two sides -/
def midU (q n : Int) (m : Nat) : Int := if gapU q n (-1 * m) < gapU q n (bestU q n m) then -1 * m else bestU q n m
theorem midU_best {q n : Int} {m : Nat} (hq : 1 ≤ q) (hm : 1 ≤ m) : bestU q n (m + 1) = if gapU q n (1 * m) < gapU q n (midU q n m) then 1 * (m : Int) else midU q n m := by
  have h0 := bestU_gap0 q n m
  by_cases hn : n < 0
  · have hs : sideU n = -1 := by unfold sideU; rw [if_pos hn]
    have h1 : bestU q n (m + 1) = midU q n m := by
      show (if gapU q n (sideU n * m) < gapU q n (bestU q n m) then sideU n * (m : Int) else bestU q n m) = _
      rw [hs]
      rfl
    have h2 := bestU_gap0 q n (m + 1)
    have h3 := gapU_other (q := q) (n := n) (l := 1 * m) hq (by omega) (.inl ⟨hn, by omega⟩)
    rw [h1] at h2 ⊢
    rw [if_neg (by omega)]
  · have hs : sideU n = 1 := by unfold sideU; rw [if_neg hn]
    have h3 := gapU_other (q := q) (n := n) (l := -1 * m) hq (by omega) (.inr ⟨by omega, by omega⟩)
    have h1 : midU q n m = bestU q n m := by unfold midU; rw [if_neg (by omega)]
    rw [h1]
    show (if gapU q n (sideU n * m) < gapU q n (bestU q n m) then sideU n * (m : Int) else bestU q n m) = _
    rw [hs]
/-- the best one as the sides are gone through: ahead of both, of the second one, behind both -/
def atSide (q n : Int) (m : Nat) (s : Nat) : Int := match s with
  | 0 => bestU q n m
  | 1 => midU q n m
  | _ => bestU q n (m + 1)
theorem atSide_step {q n : Int} {m : Nat} (hq : 1 ≤ q) (hm : 1 ≤ m) {s : Nat} (hs : s < 2) : atSide q n m (s + 1) = if gapU q n ((2 * (s : Int) - 1) * m) < gapU q n (atSide q n m s) then (2 * (s : Int) - 1) * m else atSide q n m s := by
  have h : s = 0 ∨ s = 1 := by omega
  rcases h with rfl | rfl
  · rfl
  · exact midU_best hq hm
theorem gapU_bounds (q n l : Int) (h1 : -2048 ≤ n) (h2 : n ≤ 2047) : -2048 ≤ worthU l q ∧ worthU l q ≤ 2047 := worthU_in l q

set_option maxRecDepth 100000 in
set_option maxHeartbeats 1000000 in
theorem r10near_in (n q : Int) (hq : okQU q = true) (h1 : -2048 ≤ n) (h2 : n ≤ 2047) (w : World) (R : Int) (hR : bestU q n 128 = R) :
    Calls Try.prog 15 #[.int .i64 n, .int .i64 q] w fun e w' => e = .returned (.tuple #[.int .i64 R, .int .i64 0]) ∧ w = w' := by
  have HR := Lib.hid hR
  have HQ := Lib.hid (fun W => r10quant_any q W)
  rw [hq] at HQ
  have q1 := ((okQU_iff q).1 hq).1
  have HV := Lib.hid (fun l (hl : okLU l = true) W => by have := r10value_any l q W; rw [valueU_ok hl hq] at this; exact this)
  have H1 := Lib.hid (bestU_one q n)
  have HG0 := Lib.hid (gapU_zero q n)
  have HIn := Lib.hid (fun l => worthU_in l q)
  have HSt := Lib.hid (fun m hm s hs => @atSide_step q n m q1 hm s hs)
  have HGp : Hid (∀ l, max (worthU l q - n) (n - worthU l q) = gapU q n l) := fun l => rfl
  clear hR hq
  go_enter Try.func15, Try.ntmps15
  go_wp2_with (go_at_call 33; refine (HQ.out _).mono ?_; rintro e w1 ⟨rfl, rfl⟩)
  go_loop [6, 7, 8] (fun bv fv i => ∃ m : Nat, i = .int .i64 m ∧ 1 ≤ m ∧ m ≤ 128 ∧ bv = .int .i64 (bestU q n m) ∧ fv = .int .i64 (gapU q n (bestU q n m))) (fun _ _ i => 128 - (intOf i).toNat)
  case atStart =>
    refine ⟨1, rfl, by omega, by omega, by rw [H1.out], ?_⟩
    rw [H1.out, HG0.out, Int.max_comm]
  case round =>
    obtain ⟨m, rfl, hm1, hm, rfl, rfl⟩ := hrel
    by_cases hm2 : m < 128
    · have z1 : (m : Int) ≤ 127 := by omega
      go_wp2_with fail
      go_loop [6, 7, 9] (fun bv fv i => ∃ s : Nat, i = .int .i64 (2 * (s : Int) - 1) ∧ s ≤ 2 ∧ bv = .int .i64 (atSide q n m s) ∧ fv = .int .i64 (gapU q n (atSide q n m s))) (fun _ _ i => 4 - (intOf i + 1).toNat)
      case atStart => exact ⟨0, rfl, by omega, rfl, rfl⟩
      case round =>
        obtain ⟨s, rfl, hs, rfl, rfl⟩ := hrel
        by_cases hs2 : s < 2
        · have z2 : 2 * (s : Int) - 1 ≤ 1 := by omega
          have z3 : -1 ≤ 2 * (s : Int) - 1 := by omega
          have z5 : (2 * (s : Int) - 1) + 2 = 2 * ((s + 1 : Nat) : Int) - 1 := by omega
          have hst := HSt.out m hm1 s hs2
          have hd1 : -127 ≤ (2 * (s : Int) - 1) * m ∧ (2 * (s : Int) - 1) * m ≤ 127 := by
            rcases (by omega : s = 0 ∨ s = 1) with rfl | rfl <;> constructor <;> omega
          generalize ht : 2 * (s : Int) - 1 = t at *
          generalize hd : t * (m : Int) = d at *
          obtain ⟨d1, d2⟩ := hd1
          have HVd := Lib.hid (HV.out d (by rw [okLU_iff]; omega))
          obtain ⟨x1, x2⟩ := HIn.out d
          have hgx := HGp.out d
          have HSs := Lib.hid hst
          have HZ5 := Lib.hid z5
          clear hst z5
          generalize worthU d q = x at *
          generalize atSide q n m s = B at *
          generalize hg2 : gapU q n B = g2 at *
          generalize hg1 : gapU q n d = g1 at *
          have HG1 := Lib.hid hg1
          have HG2 := Lib.hid hg2
          clear hg1 hg2
          by_cases hlt : g1 < g2
          · rw [if_pos hlt] at HSs
            go_wp2_with (go_at_call 11; refine (HVd.out _).mono ?_; rintro e w1 ⟨rfl, rfl⟩)
            go_round
            case rel => exact ⟨s + 1, by rw [HZ5.out], by omega, by rw [HSs.out], by rw [HSs.out, HG1.out]⟩
            case measure => simp [intOf]; omega
          · rw [if_neg hlt] at HSs
            go_wp2_with (go_at_call 11; refine (HVd.out _).mono ?_; rintro e w1 ⟨rfl, rfl⟩)
            go_round
            case rel => exact ⟨s + 1, by rw [HZ5.out], by omega, by rw [HSs.out], by rw [HSs.out, HG2.out]⟩
            case measure => simp [intOf]; omega
        · obtain rfl : s = 2 := by omega
          go_wp2_with fail
          go_round
          case rel => exact ⟨m + 1, by go_num, by omega, by omega, rfl, rfl⟩
          case measure => simp [intOf]; omega
    · have hke : m = 128 := by omega
      have hBR : bestU q n m = R := by rw [hke]; exact HR.out
      rw [hBR]
      clear hBR
      subst hke
      go_wp2_with fail
      go_ret2
      exact ⟨rfl, rfl⟩

theorem r10nearest_any (n q : Int) (w : World) : Calls Try.prog 15 #[.int .i64 n, .int .i64 q] w fun e w' => e = .returned (.tuple #[.int .i64 (nearU n q).1, .int .i64 (nearU n q).2]) ∧ w = w' := by
  have HQ := Lib.hid (fun W => r10quant_any q W)
  by_cases h1 : n < -2048
  · have hv : nearU n q = (0, 3) := by unfold nearU; rw [if_neg (by omega)]
    rw [hv]
    clear hv
    go_enter Try.func15, Try.ntmps15
    go_wp2
    go_ret2
    exact ⟨rfl, rfl⟩
  by_cases h2 : 2047 < n
  · have hv : nearU n q = (0, 3) := by unfold nearU; rw [if_neg (by omega)]
    rw [hv]
    clear hv
    go_enter Try.func15, Try.ntmps15
    go_wp2
    go_ret2
    exact ⟨rfl, rfl⟩
  cases hq : okQU q with
  | false =>
    have hv : nearU n q = (0, 3) := by unfold nearU; rw [if_neg (by rw [hq]; simp)]
    rw [hv]
    rw [hq] at HQ
    clear hv hq
    go_enter Try.func15, Try.ntmps15
    go_wp2_with (go_at_call 33; refine (HQ.out _).mono ?_; rintro e w1 ⟨rfl, rfl⟩)
    go_ret2
    exact ⟨rfl, rfl⟩
  | true =>
    have hv : nearU n q = (bestU q n 128, 0) := by unfold nearU; rw [if_pos ⟨by omega, by omega, hq⟩]
    rw [hv]
    exact r10near_in n q hq (by omega) (by omega) w _ rfl

end Go.Proofs.Ytfkjgafmaplggaa
