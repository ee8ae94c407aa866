/- Contracts of address's Next and Row; of bits.Read of one bit. -/
import Derived.Test.YtmmnnedhoanhnaaDoorLit
namespace Go.Proofs.YtmmnnedhoanhnaaDoor
open Go.RowKit Go.Shelf
set_option linter.unusedVariables false

/-! ### Next and Row -/
def nextN (a d : Int) : Int := if a < 0 ∨ 33 < a ∨ d < 1 ∨ 33 < d then 0 else if 33 < a + d then 0 else a + d
def nextE (a d : Int) : Int := if a < 0 ∨ 33 < a ∨ d < 1 ∨ 33 < d then 3 else if 33 < a + d then 13 else 0
def rowR (a : Int) : Int := if a < 1 ∨ 33 < a then 0 else (a - 1) / 11
def rowC (a : Int) : Int := if a < 1 ∨ 33 < a then 0 else (a - 1) % 11
def rowE (a : Int) : Int := if a < 1 ∨ 33 < a then 3 else 0
set_option maxHeartbeats 1000000 in
theorem arow_any (a : Int) (w : World) :
    Calls Tryd.prog 51 #[.int .i64 a] w fun e w' => e = .returned (.tuple #[.int .i64 (rowR a), .int .i64 (rowC a), .int .i64 (rowE a)]) ∧ w = w' := by
  unfold rowR rowC rowE
  by_cases h1 : a < 1
  · rw [if_pos (.inl h1), if_pos (.inl h1), if_pos (.inl h1)]
    go_enter Tryd.func51, Tryd.ntmps51
    go_wp2
    go_ret3
    exact ⟨rfl, rfl⟩
  · by_cases h2 : 33 < a
    · rw [if_pos (.inr h2), if_pos (.inr h2), if_pos (.inr h2)]
      go_enter Tryd.func51, Tryd.ntmps51
      go_wp2
      go_ret3
      exact ⟨rfl, rfl⟩
    · rw [if_neg (by omega), if_neg (by omega), if_neg (by omega)]
      have e1 : (a - 1).tdiv 11 = (a - 1) / 11 := Int.tdiv_eq_ediv_of_nonneg (by omega)
      have e2 : (a - 1).tmod 11 = (a - 1) % 11 := Int.tmod_eq_emod_of_nonneg (by omega)
      go_enter Tryd.func51, Tryd.ntmps51
      go_wp2
      go_ret3
      exact ⟨rfl, rfl⟩

theorem read1_in {n₁ : Nat} {w : World} {sv : Value} {zs : List UInt8} (hB : Byt n₁ w sv zs) (i : Int) (a : Nat) (hi : i = (a : Int)) (ha : a < 8 * zs.length) (hl : zs.length ≤ 1152921504606846975) :
    Calls Tryd.prog 30 #[sv, .int .i64 i, .int .i64 1] w fun e w' => e = .returned (.tuple #[.int .i64 (bt zs a : Nat), .int .i64 0]) ∧ w = w' := by
  subst hi
  have h := read_any hB (a : Int) 1 (by omega)
  unfold readV at h
  rw [if_neg (by omega), if_neg (by omega), Int.toNat_natCast] at h
  simpa [num] using h
theorem read1_out {n₁ : Nat} {w : World} {sv : Value} {zs : List UInt8} (hB : Byt n₁ w sv zs) (i : Int) (a : Nat) (hi : i = (a : Int)) (ha : 8 * zs.length ≤ a) (ha2 : a ≤ 9223372036854775807) :
    Calls Tryd.prog 30 #[sv, .int .i64 i, .int .i64 1] w fun e w' => e = .returned (.tuple #[.int .i64 0, .int .i64 5]) ∧ w = w' := by
  subst hi
  have h := read_any hB (a : Int) 1 (by omega)
  unfold readV at h
  rw [if_neg (by omega), if_pos (by omega)] at h
  exact h

end Go.Proofs.YtmmnnedhoanhnaaDoor
