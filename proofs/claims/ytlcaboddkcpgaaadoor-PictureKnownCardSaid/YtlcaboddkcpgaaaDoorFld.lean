/- strings.FieldsSeq: its func handed over, and what it hands to a round, for a text of ASCII letters gone through beforehand. -/
import Derived.Test.YtlcaboddkcpgaaaDoorFind
import Derived.Lib.Space
namespace Go.Proofs.YtlcaboddkcpgaaaDoor
open Go.RowKit Go.Shelf
set_option linter.unusedVariables false
attribute [local go_sem] Oper.semAt_some
/-- a text's letters gone through: its fields between white space are those of F, N many -/
def scanL (F : Nat → ByteArray) (N : Nat) (s : ByteArray) : List UInt8 → Nat → Nat → Option Nat → Bool
  | [], i, c, st =>
    match st with
    | none => c == N
    | some a => decide (s.extract a i = F c) && c + 1 == N
  | b :: l, i, c, st => decide (b.toNat < 128) && (if Lib.isSp b = true then
      match st with
      | none => scanL F N s l (i + 1) c none
      | some a => decide (c < N) && decide (s.extract a i = F c) && scanL F N s l (i + 1) (c + 1) none
    else scanL F N s l (i + 1) c (some (st.getD i)))

/-- what FieldsSeq hands to a round -/
abbrev encF (F : Nat → ByteArray) (k : Nat) : Array Value := #[.string (F k)]
def startI : Option Nat → Int
  | none => -1
  | some a => a

end Go.Proofs.YtlcaboddkcpgaaaDoor
