/- Contracts of the functions that read bits of bytes (bits.Count, bitAt, bitsFrom, Read). The contract of Pick: a number from 0 on below n. -/
import Derived.Test.YtlcaboddkcpgaaaDoorRows
import Derived.WalkKit
import Derived.WalkSpells
import Derived.WalkLawsBesides
import Derived.Laws.DeepBits32
import Derived.Lib.Hide
/- Contracts of the functions that read bits of bytes (bits.Count, bitAt, bitsFrom, Read). -/
namespace Go.Proofs.YtlcaboddkcpgaaaDoor
open Go.RowKit
set_option linter.unusedVariables false

/-- the bit at a place -/
def bt (zs : List UInt8) (i : Nat) : Nat := (zs.getD (i / 8) 0).toNat / 2 ^ (7 - i % 8) % 2
/-- the number of n bits at a place -/
def num (zs : List UInt8) (at_ : Nat) : Nat → Nat
  | 0 => 0
  | n + 1 => 2 * num zs at_ n + bt zs (at_ + n)

theorem bt_le (zs : List UInt8) (i : Nat) : bt zs i ≤ 1 := by unfold bt; omega
theorem num_lt (zs : List UInt8) (at_ n : Nat) : num zs at_ n < 2 ^ n := by
  induction n with
  | zero => simp [num]
  | succ n ih => have := bt_le zs (at_ + n); simp only [num, Nat.pow_succ]; omega
theorem num_lt32 (zs : List UInt8) (at_ n : Nat) (h : n ≤ 32) : num zs at_ n < 4294967296 :=
  Nat.lt_of_lt_of_le (num_lt zs at_ n) (by have : 2 ^ n ≤ 2 ^ 32 := Nat.pow_le_pow_right (by omega) h; simpa using this)

theorem i64_and1 (n : Int) : bits .and .i64 n 1 = n % 2 := by
  have h1 : (BitVec.ofInt 64 1).toNat = 2 ^ 1 - 1 := by decide
  have key : (BitVec.ofInt 64 n &&& BitVec.ofInt 64 1).toNat = (n % ((2 ^ 64 : Nat) : Int)).toNat % 2 ^ 1 := by
    rw [BitVec.toNat_and, BitVec.toNat_ofInt, h1, Nat.and_two_pow_sub_one_eq_mod]
  show IntKind.i64.wrap ((BitVec.ofInt 64 n &&& BitVec.ofInt 64 1).toNat : Nat) = n % 2
  rw [key, IntKind.wrap_i64]
  omega
theorem ofInt_nat64 (y : Nat) (h : y < 18446744073709551616) : (BitVec.ofInt 64 (y : Int)).toNat = y := by
  rw [BitVec.toNat_ofInt]; omega
theorem i64_or_bit (y b : Nat) (hy : y % 2 = 0) (hb : b ≤ 1) (hl : y < 4611686018427387904) : bits .or .i64 (y : Int) (b : Int) = ((y + b : Nat) : Int) := by
  show IntKind.i64.wrap ((BitVec.ofInt 64 (y : Int) ||| BitVec.ofInt 64 (b : Int)).toNat : Int) = _
  rw [BitVec.toNat_or, ofInt_nat64 y (by omega), ofInt_nat64 b (by omega), or_bit y b hy hb, IntKind.wrap_i64]
  omega
theorem ret_int {k : IntKind} {a b : Int} (h : a = b) : Ending.returned (.int k a) = .returned (.int k b) := by rw [h]
theorem ret_two {k : IntKind} {a b : Int} {v : Value} (h : a = b) : Ending.returned (.tuple #[.int k a, v]) = .returned (.tuple #[.int k b, v]) := by rw [h]

theorem shr_bt (zs : List UInt8) (k : Nat) :
    bits .and .i64 (wrap64 (((zs[k / 8]?.getD 0).toNat : Int) / 2 ^ (7 - k % 8))) 1 = (bt zs k : Int) := by
  have hb : (zs[k / 8]?.getD 0).toNat < 256 := UInt8.toNat_lt _
  have e : (((zs[k / 8]?.getD 0).toNat : Int) / 2 ^ (7 - k % 8)) = (((zs[k / 8]?.getD 0).toNat / 2 ^ (7 - k % 8) : Nat) : Int) := by
    rw [Int.natCast_ediv]; simp
  have hle : (zs[k / 8]?.getD 0).toNat / 2 ^ (7 - k % 8) ≤ (zs[k / 8]?.getD 0).toNat := Nat.div_le_self _ _
  rw [e]
  unfold bt
  rw [List.getD_eq_getElem?_getD]
  generalize (zs[k / 8]?.getD 0).toNat / 2 ^ (7 - k % 8) = q at *
  rw [IntWalk.wrap64_in _ ⟨by omega, by omega⟩, i64_and1]
  omega

theorem count_any (a : Option Addr) (len cap : Nat) (w : World) (hl : len ≤ 1152921504606846975) :
    Calls Tryd.prog 55 #[.slice a len cap] w fun e w' => e = .returned (.int .i64 (len * 8)) ∧ w = w' := by
  go_enter Tryd.func55, Tryd.ntmps55
  go_wp2
  go_ret
  exact ⟨rfl, rfl⟩

set_option maxHeartbeats 400000 in
theorem bitAt_any (b off len cap : Nat) (zs : List UInt8) (i : Int) (w : World) (h0 : 0 ≤ i) (h1 : i < 8 * len) (hl : len ≤ 1152921504606846975)
    (hc : w.cell? ⟨b, off + i.toNat / 8, none⟩ = some (.int .u8 ((zs[i.toNat / 8]?.getD 0).toNat))) :
    Calls Tryd.prog 47 #[.slice (some ⟨b, off, none⟩) len cap, .int .i64 i] w fun e w' => e = .returned (.int .i64 (bt zs i.toNat)) ∧ w = w' := by
  obtain ⟨k, rfl⟩ := Int.eq_ofNat_of_zero_le h0
  rw [Int.toNat_natCast] at *
  go_enter Tryd.func47, Tryd.ntmps47
  go_wp2
  go_ret
  exact ⟨ret_int (shr_bt zs k), rfl⟩

set_option maxHeartbeats 400000 in
theorem bitsFrom_any (a : Option Addr) (len cap : Nat) (i : Int) (w : World) (h0 : 0 ≤ i) (h1 : i ≤ 9223372036854775807) (hl : len ≤ 1152921504606846975) :
    Calls Tryd.prog 46 #[.slice a len cap, .int .i64 i] w fun e w' => e = .returned (.int .i64 (max 0 (len * 8 - i))) ∧ w = w' := by
  go_enter Tryd.func46, Tryd.ntmps46
  go_wp2_with (go_at_call 55; refine (count_any _ _ _ _ (by omega)).mono ?_; rintro e w' ⟨rfl, rfl⟩)
  all_goals
    go_ret
    exact ⟨ret_int (by omega), rfl⟩

/-- The slice value sv holds the bytes zs (an empty one may lie anywhere). -/
def Byt (n₀ : Nat) (w : World) (sv : Value) (zs : List UInt8) : Prop :=
  ∃ a cap, sv = .slice a zs.length cap ∧ zs.length ≤ 1152921504606846975 ∧
    (zs = [] ∨ ∃ b off, a = some ⟨b, off, none⟩ ∧ b < n₀ ∧ ∀ j, j < zs.length → w.cell? ⟨b, off + j, none⟩ = some (.int .u8 ((zs[j]?.getD 0).toNat)))
theorem Byt.below {n₀ : Nat} {A B : World} (h : Below n₀ A B) {sv : Value} {zs : List UInt8} : Byt n₀ A sv zs → Byt n₀ B sv zs
  | ⟨a, cap, e, hl, .inl z⟩ => ⟨a, cap, e, hl, .inl z⟩
  | ⟨a, cap, e, hl, .inr ⟨b, off, ea, hb, hc⟩⟩ => ⟨a, cap, e, hl, .inr ⟨b, off, ea, hb, fun j hj => (h.cell (p := ⟨b, off + j, none⟩) hb).trans (hc j hj)⟩⟩

/-- what Read answers -/
def readV (zs : List UInt8) (i n : Int) : Value :=
  if i < 0 ∨ n < 0 ∨ 32 < n then .tuple #[.int .i64 0, .int .i64 3]
  else if max 0 (zs.length * 8 - i) < n then .tuple #[.int .i64 0, .int .i64 5]
  else .tuple #[.int .i64 (num zs i.toNat n.toNat), .int .i64 0]

set_option maxHeartbeats 400000 in
theorem read_range (a : Option Addr) (len cap : Nat) (i n : Int) (w : World) (h : i < 0 ∨ n < 0 ∨ 32 < n) :
    Calls Tryd.prog 29 #[.slice a len cap, .int .i64 i, .int .i64 n] w fun e w' => e = .returned (.tuple #[.int .i64 0, .int .i64 3]) ∧ w = w' := by
  by_cases h1 : i < 0
  · go_enter Tryd.func29, Tryd.ntmps29
    go_wp2
    go_ret2
    exact ⟨rfl, rfl⟩
  · by_cases h2 : n < 0
    · go_enter Tryd.func29, Tryd.ntmps29
      go_wp2
      go_ret2
      exact ⟨rfl, rfl⟩
    · have h3 : 32 < n := by omega
      go_enter Tryd.func29, Tryd.ntmps29
      go_wp2
      go_ret2
      exact ⟨rfl, rfl⟩

set_option maxHeartbeats 400000 in
theorem read_more (a : Option Addr) (len cap : Nat) (i n : Int) (w : World) (hl : len ≤ 1152921504606846975) (h1 : 0 ≤ i) (h2 : 0 ≤ n) (h3 : n ≤ 32) (h4 : i ≤ 9223372036854775807) (h : max 0 (len * 8 - i) < n) :
    Calls Tryd.prog 29 #[.slice a len cap, .int .i64 i, .int .i64 n] w fun e w' => e = .returned (.tuple #[.int .i64 0, .int .i64 5]) ∧ w = w' := by
  go_enter Tryd.func29, Tryd.ntmps29
  go_wp2_with (go_at_call 46; refine (bitsFrom_any _ _ _ _ _ (by omega) (by omega) (by omega)).mono ?_; rintro e w' ⟨rfl, rfl⟩)
  go_ret2
  exact ⟨rfl, rfl⟩

set_option maxHeartbeats 400000 in
theorem read_ok (b off len cap : Nat) (zs : List UInt8) (i n : Nat) (w : World) (hl : len ≤ 1152921504606846975) (h3 : n ≤ 32) (h : i + n ≤ len * 8)
    (hc : ∀ j, j < len → w.cell? ⟨b, off + j, none⟩ = some (.int .u8 ((zs[j]?.getD 0).toNat))) :
    Calls Tryd.prog 29 #[.slice (some ⟨b, off, none⟩) len cap, .int .i64 i, .int .i64 n] w fun e w' => e = .returned (.tuple #[.int .i64 (num zs i n), .int .i64 0]) ∧ w = w' := by
  have HC := Lib.hid hc
  clear hc
  have hm : ¬ (max 0 ((len : Int) * 8 - i) < n) := by omega
  go_enter Tryd.func29, Tryd.ntmps29
  go_wp2_with (go_at_call 46; refine (bitsFrom_any _ _ _ _ _ (by omega) (by omega) (by omega)).mono ?_; rintro e w' ⟨rfl, rfl⟩)
  go_loop [8, 26] (fun x k => ∃ j : Nat, j ≤ n ∧ k = .int .i64 j ∧ x = .int .i64 (num zs i j)) (fun _ k => n - (intOf k).toNat)
  case atStart => exact ⟨0, Nat.zero_le _, rfl, rfl⟩
  case round =>
    obtain ⟨j, hj, rfl, rfl⟩ := hrel
    have hn := num_lt32 zs i j (by omega)
    by_cases hlt : j < n
    · have hb := bt_le zs (i + j)
      go_wp2_with (go_at_call 47; refine (bitAt_any _ _ _ _ zs _ _ (by omega) (by omega) (by omega) (HC.out _ (by omega))).mono ?_; rintro e w' ⟨rfl, rfl⟩)
      go_round
      case rel => exact ⟨j + 1, by omega, by go_num, by rw [show ((num zs i j : Int) * 2) = ((num zs i j * 2 : Nat) : Int) by omega, i64_or_bit _ _ (by omega) hb (by omega), num, Nat.mul_comm]⟩
      case measure => simp [intOf]; omega
    · obtain rfl : j = n := by omega
      go_wp2
      go_ret2
      exact ⟨rfl, rfl⟩

set_option maxHeartbeats 400000 in
theorem read_none (a : Option Addr) (len cap : Nat) (i : Int) (w : World) (hl : len ≤ 1152921504606846975) (h0 : 0 ≤ i) (h1 : i ≤ 9223372036854775807) :
    Calls Tryd.prog 29 #[.slice a len cap, .int .i64 i, .int .i64 0] w fun e w' => e = .returned (.tuple #[.int .i64 0, .int .i64 0]) ∧ w = w' := by
  have hm : ¬ (max 0 ((len : Int) * 8 - i) < 0) := by omega
  go_enter Tryd.func29, Tryd.ntmps29
  go_wp2_with (go_at_call 46; refine (bitsFrom_any _ _ _ _ _ (by omega) (by omega) (by omega)).mono ?_; rintro e w' ⟨rfl, rfl⟩)
  go_loop [8, 26] (fun x k => k = .int .i64 0 ∧ x = .int .i64 0) (fun _ k => 0)
  case atStart => exact ⟨rfl, rfl⟩
  case round =>
    obtain ⟨rfl, rfl⟩ := hrel
    go_wp2
    go_ret2
    exact ⟨rfl, rfl⟩

theorem read_any {n₀ : Nat} {w : World} {sv : Value} {zs : List UInt8} (hB : Byt n₀ w sv zs) (i n : Int) (h1 : i ≤ 9223372036854775807) :
    Calls Tryd.prog 29 #[sv, .int .i64 i, .int .i64 n] w fun e w' => e = .returned (readV zs i n) ∧ w = w' := by
  obtain ⟨a, cap, rfl, hl, hz⟩ := hB
  unfold readV
  by_cases hr : i < 0 ∨ n < 0 ∨ 32 < n
  · rw [if_pos hr]; exact read_range _ _ _ _ _ _ hr
  · rw [if_neg hr]
    by_cases hm : max 0 ((zs.length : Int) * 8 - i) < n
    · rw [if_pos hm]; exact read_more _ _ _ _ _ _ hl (by omega) (by omega) (by omega) h1 hm
    · rw [if_neg hm]
      obtain ⟨i, rfl⟩ := Int.eq_ofNat_of_zero_le (a := i) (by omega)
      obtain ⟨n, rfl⟩ := Int.eq_ofNat_of_zero_le (a := n) (by omega)
      rw [Int.toNat_natCast, Int.toNat_natCast]
      by_cases hn : n = 0
      · subst hn
        exact read_none _ _ _ _ _ hl (by omega) (by omega)
      · rcases hz with rfl | ⟨b, off, rfl, _, hc⟩
        · simp at hm; omega
        · exact read_ok _ _ _ _ zs _ _ _ hl (by omega) (by omega) hc

end Go.Proofs.YtlcaboddkcpgaaaDoor

/- The contract of Pick: a number from 0 on below n. -/
namespace Go.Proofs.YtlcaboddkcpgaaaDoor
open Go.RowKit
set_option linter.unusedVariables false

theorem tmod_ge {x n : Int} (hn : 0 < n) (h : 0 ≤ x.tmod n) : x.tmod n = x % n := by
  have e := Int.tmod_add_mul_tdiv x n
  have l := Int.tmod_lt_of_pos x hn
  conv => rhs; rw [← e, Int.add_mul_emod_self_left]
  exact (Int.emod_eq_of_lt h l).symm
theorem tmod_neg {x n : Int} (hn : 0 < n) (h : x.tmod n < 0) : x.tmod n + n = x % n := by
  have e := Int.tmod_add_mul_tdiv x n
  have l : -n < x.tmod n := Int.lt_tmod_of_pos x hn
  conv => rhs; rw [← e, Int.add_mul_emod_self_left, ← Int.add_emod_right]
  exact (Int.emod_eq_of_lt (by omega) (by omega)).symm
set_option maxHeartbeats 400000 in
theorem pick_any (x n : Int) (w : World) (hn : 1 ≤ n) (hn2 : n ≤ 9223372036854775807) :
    Calls Tryd.prog 24 #[.int .i64 x, .int .i64 n] w fun e w' => e = .returned (.int .i64 (x % n)) ∧ w = w' := by
  have hm := Int.emod_nonneg x (b := n) (by omega)
  have hm2 := Int.emod_lt_of_pos x (b := n) (by omega)
  by_cases ht : x.tmod n < 0
  · have e := tmod_neg (by omega) ht
    have E := Lib.hid e
    have hw : wrap64 (x.tmod n + n) = x.tmod n + n := IntWalk.wrap64_in _ ⟨by omega, by omega⟩
    have HW := Lib.hid hw
    clear e hw
    go_enter Tryd.func24, Tryd.ntmps24
    go_wp2
    go_ret
    exact ⟨ret_int (HW.out.trans E.out), rfl⟩
  · have e := tmod_ge (x := x) (n := n) (by omega) (by omega)
    have E := Lib.hid e
    clear e
    go_enter Tryd.func24, Tryd.ntmps24
    go_wp2
    go_ret
    exact ⟨ret_int E.out, rfl⟩

end Go.Proofs.YtlcaboddkcpgaaaDoor
