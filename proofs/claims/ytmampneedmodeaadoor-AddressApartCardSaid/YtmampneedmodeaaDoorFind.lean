/- Contracts of the functions that look for start codes by a range over a function (bits.bitsOn, Find, firstOne). -/
import Derived.RangeFuncNested
import Derived.RangeFuncBound
import Derived.RangeFuncCalls
import Derived.RangeFuncLeaves
import Derived.Shelf.Abstract
import Derived.Shelf.RegionOpen
import Derived.WalkKit
import Derived.OwnWalkIn
import Derived.TacticsInMore
import Derived.LoopNIn
import Derived.LoopIn
import Derived.Test.YtmampneedmodeaaDoorRead
namespace Go.Proofs.YtmampneedmodeaaDoor
open Go.RowKit Go.Shelf
set_option linter.unusedVariables false

attribute [local go_sem] Oper.semAt_some

/-- what the closure of bitsOn hands to a round -/
abbrev encs (zs : List UInt8) (i : Nat) : Array Value := #[.int .i64 i, .int .i64 (bt zs i)]

/-- a round keeps what lay below m, and the closure's two boxes -/
def KpB (m bx by_ : Nat) (A B : World) : Prop := Below m A B ∧ B.cell? ⟨bx, 0, none⟩ = A.cell? ⟨bx, 0, none⟩ ∧ B.cell? ⟨by_, 0, none⟩ = A.cell? ⟨by_, 0, none⟩
theorem KpB.t {m bx by_ : Nat} {A B C : World} (h : KpB m bx by_ A B) (k : KpB m bx by_ B C) : KpB m bx by_ A C := ⟨h.1.trans k.1, k.2.1.trans h.2.1, k.2.2.trans h.2.2⟩
theorem KpB.rfl {m bx by_ : Nat} {A : World} : KpB m bx by_ A A := ⟨Below.refl _ _, .refl _, .refl _⟩

/-! ### The plain side: noughts ahead, and start codes -/
/-- how many noughts stand at the end of some places -/
def zl (zs : List UInt8) (pre : List Nat) : Nat := pre.foldl (fun z i => if bt zs i = 0 then z + 1 else 0) 0
theorem zl_snoc (zs : List UInt8) (pre : List Nat) (x : Nat) : zl zs (pre ++ [x]) = if bt zs x = 0 then zl zs pre + 1 else 0 := by simp [zl]
theorem zl_le (zs : List UInt8) (pre : List Nat) : zl zs pre ≤ pre.length := by
  suffices h : ∀ z, pre.foldl (fun z i => if bt zs i = 0 then z + 1 else 0) z ≤ z + pre.length by have := h 0; unfold zl; omega
  induction pre with
  | nil => simp
  | cons x r ih =>
    intro z
    simp only [List.foldl_cons, List.length_cons]
    split
    · have := ih (z + 1); omega
    · have := ih 0; omega
/-- no place that ends a start code -/
def NoHit (zs : List UInt8) (pre : List Nat) : Prop := ∀ q x, q ++ [x] <+: pre → bt zs x = 0 ∨ zl zs q < 15
theorem noHit_nil (zs : List UInt8) : NoHit zs [] := fun q x h => by
  have := h.length_le; simp at this
theorem noHit_snoc {zs : List UInt8} {pre : List Nat} {x : Nat} (h : NoHit zs pre) (hx : bt zs x = 0 ∨ zl zs pre < 15) : NoHit zs (pre ++ [x]) := by
  intro q y hq
  rcases List.prefix_concat_iff.1 hq with e | e
  · have e1 : q = pre := by have := congrArg List.dropLast e; simpa using this
    have e2 : y = x := by have := congrArg List.getLast? e; simpa using this
    subst e1 e2; exact hx
  · exact h q y e

end Go.Proofs.YtmampneedmodeaaDoor
