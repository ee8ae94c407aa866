/- general: the reference's Read (praxinoscoperef01), at any place (moved out of ERef). -/
import Derived.Test.YtlcaboddkcpgaaaDoorKit
namespace Go.Proofs.YtlcaboddkcpgaaaDoor
open Go.RowKit Go.Shelf
set_option linter.unusedVariables false

/-- what the reference's Read answers at a place of the bits, or behind them -/
def r1N (zs : List UInt8) (A n : Nat) : Int := if 8 * zs.length < A + n then 0 else num zs A n
def r1E (zs : List UInt8) (A n : Nat) : Int := if 8 * zs.length < A + n then 5 else 0
set_option maxRecDepth 100000 in
set_option maxHeartbeats 1000000 in
theorem r1read_any {n₀ : Nat} {w : World} {sv : Value} {zs : List UInt8} (hB : Byt n₀ w sv zs) (i : Int) (A : Nat) (hi : i = A) (n : Nat) (hn : n ≤ 32) (hA : A ≤ 8 * zs.length) (hl : zs.length ≤ 1099511627776) :
    Calls Tryd.prog 37 #[sv, .int .i64 i, .int .i64 (n : Nat)] w fun e w' => e = .returned (.tuple #[.int .i64 (r1N zs A n), .int .i64 (r1E zs A n)]) ∧ w = w' := by
  subst hi
  have HC := Lib.hid (rcount_any hB)
  by_cases h : 8 * zs.length < A + n
  · rw [show r1N zs A n = 0 from if_pos h, show r1E zs A n = 5 from if_pos h]
    obtain ⟨a, cap, rfl, hl', _⟩ := hB
    go_enter Tryd.func37, Tryd.ntmps37
    go_wp2_with (go_at_call 36; refine HC.out.mono ?_; rintro e w' ⟨rfl, rfl⟩)
    go_ret2
    exact ⟨rfl, rfl⟩
  · rw [show r1N zs A n = num zs A n from if_neg h, show r1E zs A n = 0 from if_neg h]
    have HB := Lib.hid (fun (i : Int) (k : Nat) (hi : i = k) (h : k < 8 * zs.length) => rbit_any hB i k hi h)
    have HL := Lib.hid (fun k => num_lt32 zs A k)
    obtain ⟨a, cap, rfl, hl', _⟩ := hB
    go_enter Tryd.func37, Tryd.ntmps37
    go_wp2_with (go_at_call 36; refine HC.out.mono ?_; rintro e w' ⟨rfl, rfl⟩)
    go_loop [8, 9] (fun x i => ∃ k : Nat, k ≤ n ∧ x = .int .i64 (num zs A k : Nat) ∧ i = .int .i64 k) (fun _ i => n - (intOf i).toNat)
    case atStart => exact ⟨0, Nat.zero_le _, rfl, rfl⟩
    case round =>
      obtain ⟨k, hk, rfl, rfl⟩ := hrel
      by_cases hk2 : k < n
      · have h1 := HL.out k (by omega)
        have h2 := bt_le zs (A + k)
        have hs : num zs A (k + 1) = 2 * num zs A k + bt zs (A + k) := rfl
        have HS := Lib.hid hs
        have HBk := Lib.hid (HB.out ((A : Int) + (k : Int)) (A + k) (by omega) (by omega))
        clear hs
        generalize num zs A k = x at *
        generalize bt zs (A + k) = b at *
        go_wp2_with fail
        refine HBk.out.mono ?_
        rintro e w' ⟨rfl, rfl⟩
        go_wp2
        go_round
        case rel => exact ⟨k + 1, by omega, by rw [HS.out]; go_num, by go_num⟩
        case measure => simp [intOf]; omega
      · have hkn : k = n := by omega
        subst hkn
        go_wp2
        go_ret2
        exact ⟨rfl, rfl⟩

set_option maxRecDepth 100000 in
set_option maxHeartbeats 1000000 in
/-- at any place at all -/
theorem r1readZ_any {n₀ : Nat} {w : World} {sv : Value} {zs : List UInt8} (hB : Byt n₀ w sv zs) (i : Int) (n : Nat) (hn0 : 1 ≤ n) (hn : n ≤ 32) (hl : zs.length ≤ 1099511627776) :
    Calls Tryd.prog 37 #[sv, .int .i64 i, .int .i64 (n : Nat)] w fun e w' => e = .returned (.tuple #[.int .i64 (readN zs i n), .int .i64 (readE zs i n)]) ∧ w = w' := by
  by_cases h0 : i < 0
  · rw [show readN zs i n = 0 from if_pos (.inl h0), show readE zs i n = 3 from if_pos (.inl h0)]
    obtain ⟨a, cap, rfl, hl', _⟩ := hB
    go_enter Tryd.func37, Tryd.ntmps37
    go_wp2
    go_ret2
    exact ⟨rfl, rfl⟩
  · have hno : ¬ (i < 0 ∨ (n : Int) < 0 ∨ 32 < (n : Int)) := by omega
    by_cases h1 : i ≤ 8 * zs.length
    · obtain ⟨A, rfl⟩ : ∃ A : Nat, i = A := ⟨i.toNat, by omega⟩
      have e1 : readN zs (A : Int) n = r1N zs A n := by
        unfold readN r1N
        rw [if_neg hno, Int.toNat_natCast, Int.toNat_natCast]
        by_cases h2 : 8 * zs.length < A + n
        · rw [if_pos (by omega), if_pos h2]
        · rw [if_neg (by omega), if_neg h2]
      have e2 : readE zs (A : Int) n = r1E zs A n := by
        unfold readE r1E
        rw [if_neg hno]
        by_cases h2 : 8 * zs.length < A + n
        · rw [if_pos (by omega), if_pos h2]
        · rw [if_neg (by omega), if_neg h2]
      rw [e1, e2]
      exact r1read_any hB (A : Int) A rfl n hn (by omega) hl
    · have e1 : readN zs i n = 0 := by unfold readN; rw [if_neg hno, if_pos (by omega)]
      have e2 : readE zs i n = 5 := by unfold readE; rw [if_neg hno, if_pos (by omega)]
      rw [e1, e2]
      have HC := Lib.hid (rcount_any hB)
      obtain ⟨a, cap, rfl, hl', _⟩ := hB
      go_enter Tryd.func37, Tryd.ntmps37
      go_wp2_with (go_at_call 36; refine HC.out.mono ?_; rintro e w' ⟨rfl, rfl⟩)
      go_ret2
      exact ⟨rfl, rfl⟩

end Go.Proofs.YtlcaboddkcpgaaaDoor
