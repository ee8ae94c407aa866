/- Contracts of the functions that read bits of bytes (bits.Count, bitAt, bitsFrom, Read). The contract of Pick: a number from 0 on below n. -/
import Derived.Test.YtenplmmongphoaaRows
import Derived.WalkKit
import Derived.WalkSpells
import Derived.WalkLawsBesides
import Derived.Laws.DeepBits32
import Derived.Lib.Hide
/- Contracts of the functions that read bits of bytes (bits.Count, bitAt, bitsFrom, Read). -/
namespace Go.Proofs.Ytenplmmongphoaa
open Go.RowKit
set_option linter.unusedVariables false

/-- the bit at a place -/
def bt (zs : List UInt8) (i : Nat) : Nat := (zs.getD (i / 8) 0).toNat / 2 ^ (7 - i % 8) % 2
/-- the number of n bits at a place -/
def num (zs : List UInt8) (at_ : Nat) : Nat → Nat
  | 0 => 0
  | n + 1 => 2 * num zs at_ n + bt zs (at_ + n)

theorem bt_le (zs : List UInt8) (i : Nat) : bt zs i ≤ 1 := by unfold bt; omega
theorem num_lt (zs : List UInt8) (at_ n : Nat) : num zs at_ n < 2 ^ n := by
  induction n with
  | zero => simp [num]
  | succ n ih => have := bt_le zs (at_ + n); simp only [num, Nat.pow_succ]; omega
theorem num_lt32 (zs : List UInt8) (at_ n : Nat) (h : n ≤ 32) : num zs at_ n < 4294967296 :=
  Nat.lt_of_lt_of_le (num_lt zs at_ n) (by have : 2 ^ n ≤ 2 ^ 32 := Nat.pow_le_pow_right (by omega) h; simpa using this)

theorem i64_and1 (n : Int) : bits .and .i64 n 1 = n % 2 := by
  have h1 : (BitVec.ofInt 64 1).toNat = 2 ^ 1 - 1 := by decide
  have key : (BitVec.ofInt 64 n &&& BitVec.ofInt 64 1).toNat = (n % ((2 ^ 64 : Nat) : Int)).toNat % 2 ^ 1 := by
    rw [BitVec.toNat_and, BitVec.toNat_ofInt, h1, Nat.and_two_pow_sub_one_eq_mod]
  show IntKind.i64.wrap ((BitVec.ofInt 64 n &&& BitVec.ofInt 64 1).toNat : Nat) = n % 2
  rw [key, IntKind.wrap_i64]
  omega
theorem ofInt_nat64 (y : Nat) (h : y < 18446744073709551616) : (BitVec.ofInt 64 (y : Int)).toNat = y := by
  rw [BitVec.toNat_ofInt]; omega
theorem i64_or_bit (y b : Nat) (hy : y % 2 = 0) (hb : b ≤ 1) (hl : y < 4611686018427387904) : bits .or .i64 (y : Int) (b : Int) = ((y + b : Nat) : Int) := by
  show IntKind.i64.wrap ((BitVec.ofInt 64 (y : Int) ||| BitVec.ofInt 64 (b : Int)).toNat : Int) = _
  rw [BitVec.toNat_or, ofInt_nat64 y (by omega), ofInt_nat64 b (by omega), or_bit y b hy hb, IntKind.wrap_i64]
  omega
theorem ret_int {k : IntKind} {a b : Int} (h : a = b) : Ending.returned (.int k a) = .returned (.int k b) := by rw [h]
theorem ret_two {k : IntKind} {a b : Int} {v : Value} (h : a = b) : Ending.returned (.tuple #[.int k a, v]) = .returned (.tuple #[.int k b, v]) := by rw [h]

theorem shr_bt (zs : List UInt8) (k : Nat) :
    bits .and .i64 (wrap64 (((zs[k / 8]?.getD 0).toNat : Int) / 2 ^ (7 - k % 8))) 1 = (bt zs k : Int) := by
  have hb : (zs[k / 8]?.getD 0).toNat < 256 := UInt8.toNat_lt _
  have e : (((zs[k / 8]?.getD 0).toNat : Int) / 2 ^ (7 - k % 8)) = (((zs[k / 8]?.getD 0).toNat / 2 ^ (7 - k % 8) : Nat) : Int) := by
    rw [Int.natCast_ediv]; simp
  have hle : (zs[k / 8]?.getD 0).toNat / 2 ^ (7 - k % 8) ≤ (zs[k / 8]?.getD 0).toNat := Nat.div_le_self _ _
  rw [e]
  unfold bt
  rw [List.getD_eq_getElem?_getD]
  generalize (zs[k / 8]?.getD 0).toNat / 2 ^ (7 - k % 8) = q at *
  rw [IntWalk.wrap64_in _ ⟨by omega, by omega⟩, i64_and1]
  omega

/-- The slice value sv holds the bytes zs (an empty one may lie anywhere). -/
def Byt (n₀ : Nat) (w : World) (sv : Value) (zs : List UInt8) : Prop :=
  ∃ a cap, sv = .slice a zs.length cap ∧ zs.length ≤ 1152921504606846975 ∧
    (zs = [] ∨ ∃ b off, a = some ⟨b, off, none⟩ ∧ b < n₀ ∧ ∀ j, j < zs.length → w.cell? ⟨b, off + j, none⟩ = some (.int .u8 ((zs[j]?.getD 0).toNat)))
theorem Byt.below {n₀ : Nat} {A B : World} (h : Below n₀ A B) {sv : Value} {zs : List UInt8} : Byt n₀ A sv zs → Byt n₀ B sv zs
  | ⟨a, cap, e, hl, .inl z⟩ => ⟨a, cap, e, hl, .inl z⟩
  | ⟨a, cap, e, hl, .inr ⟨b, off, ea, hb, hc⟩⟩ => ⟨a, cap, e, hl, .inr ⟨b, off, ea, hb, fun j hj => (h.cell (p := ⟨b, off + j, none⟩) hb).trans (hc j hj)⟩⟩

/-- what Read answers -/
def readV (zs : List UInt8) (i n : Int) : Value :=
  if i < 0 ∨ n < 0 ∨ 32 < n then .tuple #[.int .i64 0, .int .i64 3]
  else if max 0 (zs.length * 8 - i) < n then .tuple #[.int .i64 0, .int .i64 5]
  else .tuple #[.int .i64 (num zs i.toNat n.toNat), .int .i64 0]

end Go.Proofs.Ytenplmmongphoaa

/- The contract of Pick: a number from 0 on below n. -/
namespace Go.Proofs.Ytenplmmongphoaa
open Go.RowKit
set_option linter.unusedVariables false

theorem tmod_ge {x n : Int} (hn : 0 < n) (h : 0 ≤ x.tmod n) : x.tmod n = x % n := by
  have e := Int.tmod_add_mul_tdiv x n
  have l := Int.tmod_lt_of_pos x hn
  conv => rhs; rw [← e, Int.add_mul_emod_self_left]
  exact (Int.emod_eq_of_lt h l).symm
theorem tmod_neg {x n : Int} (hn : 0 < n) (h : x.tmod n < 0) : x.tmod n + n = x % n := by
  have e := Int.tmod_add_mul_tdiv x n
  have l : -n < x.tmod n := Int.lt_tmod_of_pos x hn
  conv => rhs; rw [← e, Int.add_mul_emod_self_left, ← Int.add_emod_right]
  exact (Int.emod_eq_of_lt (by omega) (by omega)).symm
set_option maxHeartbeats 400000 in
theorem pick_any (x n : Int) (w : World) (hn : 1 ≤ n) (hn2 : n ≤ 9223372036854775807) :
    Calls Try.prog 22 #[.int .i64 x, .int .i64 n] w fun e w' => e = .returned (.int .i64 (x % n)) ∧ w = w' := by
  have hm := Int.emod_nonneg x (b := n) (by omega)
  have hm2 := Int.emod_lt_of_pos x (b := n) (by omega)
  by_cases ht : x.tmod n < 0
  · have e := tmod_neg (by omega) ht
    have E := Lib.hid e
    have hw : wrap64 (x.tmod n + n) = x.tmod n + n := IntWalk.wrap64_in _ ⟨by omega, by omega⟩
    have HW := Lib.hid hw
    clear e hw
    go_enter Try.func22, Try.ntmps22
    go_wp2
    go_ret
    exact ⟨ret_int (HW.out.trans E.out), rfl⟩
  · have e := tmod_ge (x := x) (n := n) (by omega) (by omega)
    have E := Lib.hid e
    clear e
    go_enter Try.func22, Try.ntmps22
    go_wp2
    go_ret
    exact ⟨ret_int E.out, rfl⟩

end Go.Proofs.Ytenplmmongphoaa
