/- The contract of Pick: a number from 0 on below n. -/
import Derived.Test.YtmampneedmodeaaDoorRead
namespace Go.Proofs.YtmampneedmodeaaDoor
open Go.RowKit
set_option linter.unusedVariables false

theorem tmod_ge {x n : Int} (hn : 0 < n) (h : 0 ≤ x.tmod n) : x.tmod n = x % n := by
  have e := Int.tmod_add_mul_tdiv x n
  have l := Int.tmod_lt_of_pos x hn
  conv => rhs; rw [← e, Int.add_mul_emod_self_left]
  exact (Int.emod_eq_of_lt h l).symm
theorem tmod_neg {x n : Int} (hn : 0 < n) (h : x.tmod n < 0) : x.tmod n + n = x % n := by
  have e := Int.tmod_add_mul_tdiv x n
  have l : -n < x.tmod n := Int.lt_tmod_of_pos x hn
  conv => rhs; rw [← e, Int.add_mul_emod_self_left, ← Int.add_emod_right]
  exact (Int.emod_eq_of_lt (by omega) (by omega)).symm
set_option maxHeartbeats 400000 in
theorem pick_any (x n : Int) (w : World) (hn : 1 ≤ n) (hn2 : n ≤ 9223372036854775807) :
    Calls Tryd.prog 22 #[.int .i64 x, .int .i64 n] w fun e w' => e = .returned (.int .i64 (x % n)) ∧ w = w' := by
  have hm := Int.emod_nonneg x (b := n) (by omega)
  have hm2 := Int.emod_lt_of_pos x (b := n) (by omega)
  by_cases ht : x.tmod n < 0
  · have e := tmod_neg (by omega) ht
    have E := Lib.hid e
    have hw : wrap64 (x.tmod n + n) = x.tmod n + n := IntWalk.wrap64_in _ ⟨by omega, by omega⟩
    have HW := Lib.hid hw
    clear e hw
    go_enter Tryd.func22, Tryd.ntmps22
    go_wp2
    go_ret
    exact ⟨ret_int (HW.out.trans E.out), rfl⟩
  · have e := tmod_ge (x := x) (n := n) (by omega) (by omega)
    have E := Lib.hid e
    clear e
    go_enter Tryd.func22, Tryd.ntmps22
    go_wp2
    go_ret
    exact ⟨ret_int E.out, rfl⟩

end Go.Proofs.YtmampneedmodeaaDoor
