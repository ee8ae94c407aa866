/- Contracts of bits.NewPen and of a pen's methods made, room, Len, Put. -/
import Derived.Test.YtmampneedmodeaaDoorPen
import Derived.LaidEqlPtr
namespace Go.Proofs.YtmampneedmodeaaDoor
open Go.RowKit Go.Shelf
set_option linter.unusedVariables false
/-- the bits of a number -/
def numBits (n k : Nat) : List Bool := (List.range k).map fun i => decide (n / 2 ^ (k - 1 - i) % 2 = 1)
def putE (L : List Bool) (n k : Int) : Int :=
  if k < 0 ∨ 32 < k ∨ n < 0 ∨ n / 2 ^ k.toNat ≠ 0 then 3 else if 16777216 - (L.length : Int) < k then 4 else 0
def putL (L : List Bool) (n k : Int) : List Bool := if putE L n k = 0 then L ++ numBits n.toNat k.toNat else L

theorem numBits_take (n k j : Nat) (hj : j < k) : (numBits n k).take (j + 1) = (numBits n k).take j ++ [decide (n / 2 ^ (k - 1 - j) % 2 = 1)] := by
  rw [List.take_add_one]
  simp [numBits, hj]
theorem toNat_decide (m : Nat) : ((m : Int) % 2) = ((decide (m % 2 = 1)).toNat : Int) := by
  by_cases h : m % 2 = 1
  · simp [h]; omega
  · simp [h]; omega

end Go.Proofs.YtmampneedmodeaaDoor
