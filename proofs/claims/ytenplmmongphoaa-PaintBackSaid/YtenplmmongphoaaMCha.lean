/- motion: the laws' chapter (praxinoscopelaw14). -/
import Derived.Test.YtenplmmongphoaaMKit
namespace Go.Proofs.Ytenplmmongphoaa
open Go.RowKit Go.Shelf Go.Sort
set_option linter.unusedVariables false

/-- the chapter's picture, byte by byte -/
def chG (k : Nat) : UInt8 := if k < 25344 then UInt8.ofNat (k % 176) else UInt8.ofNat ((k - 25344) % 6336 / 88)
theorem chG_luma {y x : Nat} (hy : y < 144) (hx : x < 176) : (((chG (176 * y + x)).toNat : Nat) : Int) = (x : Int) := by
  have e : (176 * y + x) % 176 = x := by omega
  unfold chG
  rw [if_pos (by omega), e]
  have : (UInt8.ofNat x).toNat = x := by simp; omega
  rw [this]
theorem chG_chroma {k y x : Nat} (hk : k < 2) (hy : y < 72) (hx : x < 88) : (((chG (25344 + (6336 * k + (88 * y + x)))).toNat : Nat) : Int) = (y : Int) := by
  have e : (25344 + (6336 * k + (88 * y + x)) - 25344) % 6336 / 88 = y := by omega
  unfold chG
  rw [if_neg (by omega), e]
  have : (UInt8.ofNat y).toNat = y := by simp; omega
  rw [this]
/-- the first t bytes of it -/
def chT (t : Nat) : List UInt8 := (List.range t).map chG
theorem chT_succ (t : Nat) {z : Int} (h : (((chG t).toNat : Nat) : Int) = z) : u8s (chT (t + 1)) = u8s (chT t) ++ [.int .u8 z] := by
  unfold chT
  rw [List.range_succ, List.map_append]
  simp [u8s, h]
theorem chT_length (t : Nat) : (chT t).length = t := by simp [chT]

end Go.Proofs.Ytenplmmongphoaa
