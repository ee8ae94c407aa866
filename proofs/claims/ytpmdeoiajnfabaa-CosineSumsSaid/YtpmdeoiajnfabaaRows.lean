/-
  No cell of these rows narrows 'for every input' (looked for: loops, veiled, ifaces, maps, wideKeys, modest, calm, conditions, laid).
  DERIVED. THE GIVEN ROWS OF THIS SEAT. 7 by the template 'for every input the law returns true; each argument reads behind the call as it read before'; 0 by the template 'total and deterministic' (their statements: YtpmdeoiajnfabaaTotals.lean).
  GIVEN WITH THE SEED: the statements are not yours to turn. If you find one false, say at which input.
  Laid BY PROGRAM, IN A SANDBOX (cutbox-rows.mjs): the forced cells as the released guide's own fill.sh prints them over the translation e5cde69746bd3a9e… (all of the seat's roots in one cut). By AI agents, Wed Nov 11 2026. No macro, syntax, notation, axiom, sorry.
-/
import Derived.Test.YtpmdeoiajnfabaaChecked
import GoSem.Claim
import GoSem.ClaimJoined
import GoSem.ClaimMapViews
import Derived.JoinedTies
import Derived.KernelRfl
namespace Go.Proofs.Ytpmdeoiajnfabaa
/- THE CELL 'sum', in the pinned program and in every row, IS THE sha256 OF THE DUMP (.gsa) THAT YtpmdeoiajnfabaaProg.lean LOADS. Nothing in Lean hashes anything: it is a label: what it is worth is what the hold of that sum in a sandbox is worth. -/
noncomputable def Try.pinned : Pinned := { name := "ytpmdeoiajnfabaa", sum := "e5cde69746bd3a9e5b4102ca2a60c43f10488872f78c317f4cc8d08034d1d9d7", checked := Try.checked }
namespace Rows
def none {H : Type} : Left H := { results := [], args := [] }

/-- 'praxinoscopelaw11.CosineInverts': WHATEVER THE INPUT: true; the input reads as it did. -/
def cosineInvertsSpec : ChangeSpec := { name := "cosineInverts", fn := fun _ => fun
  | [d] => { results := [.lit (.bool true)], args := [d] }
  | _ => none }
def cosineInvertsRow : OpenClaim := { program := "ytpmdeoiajnfabaa", sum := "e5cde69746bd3a9e5b4102ca2a60c43f10488872f78c317f4cc8d08034d1d9d7", func := "praxinoscope/praxinoscopelaw11.CosineInverts", spec := "cosineInverts", unfollowed := true, recurses := true, apart := false }
def CosineInvertsSaid : Prop := cosineInvertsRow.holds Try.pinned (OpenSpec.ofChange cosineInvertsSpec)

/-- ITS FALSE NEIGHBOUR: 'it returns false'. Refute it at one input. -/
def cosineInvertsWrong : ChangeSpec := { name := "cosineInverts", fn := fun _ => fun
  | [d] => { results := [.lit (.bool false)], args := [d] }
  | _ => none }
def CosineInvertsWrongFalsely : Prop := cosineInvertsRow.holds Try.pinned (OpenSpec.ofChange cosineInvertsWrong)

/-- 'praxinoscopelaw11.CosineLines': WHATEVER THE INPUT: true; the input reads as it did. -/
def cosineLinesSpec : ChangeSpec := { name := "cosineLines", fn := fun _ => fun
  | [d1, d2, d3] => { results := [.lit (.bool true)], args := [d1, d2, d3] }
  | _ => none }
def cosineLinesRow : OpenClaim := { program := "ytpmdeoiajnfabaa", sum := "e5cde69746bd3a9e5b4102ca2a60c43f10488872f78c317f4cc8d08034d1d9d7", func := "praxinoscope/praxinoscopelaw11.CosineLines", spec := "cosineLines", unfollowed := true, recurses := true, apart := false }
def CosineLinesSaid : Prop := cosineLinesRow.holds Try.pinned (OpenSpec.ofChange cosineLinesSpec)

/-- ITS FALSE NEIGHBOUR: 'it returns false'. Refute it at one input. -/
def cosineLinesWrong : ChangeSpec := { name := "cosineLines", fn := fun _ => fun
  | [d1, d2, d3] => { results := [.lit (.bool false)], args := [d1, d2, d3] }
  | _ => none }
def CosineLinesWrongFalsely : Prop := cosineLinesRow.holds Try.pinned (OpenSpec.ofChange cosineLinesWrong)

/-- 'praxinoscopelaw11.CosineKnown': WHATEVER THE INPUT: true; the input reads as it did. -/
def cosineKnownSpec : ChangeSpec := { name := "cosineKnown", fn := fun _ => fun
  | [] => { results := [.lit (.bool true)], args := [] }
  | _ => none }
def cosineKnownRow : OpenClaim := { program := "ytpmdeoiajnfabaa", sum := "e5cde69746bd3a9e5b4102ca2a60c43f10488872f78c317f4cc8d08034d1d9d7", func := "praxinoscope/praxinoscopelaw11.CosineKnown", spec := "cosineKnown", unfollowed := true, recurses := true, apart := false }
def CosineKnownSaid : Prop := cosineKnownRow.holds Try.pinned (OpenSpec.ofChange cosineKnownSpec)

/-- ITS FALSE NEIGHBOUR: 'it returns false'. Refute it at one input. -/
def cosineKnownWrong : ChangeSpec := { name := "cosineKnown", fn := fun _ => fun
  | [] => { results := [.lit (.bool false)], args := [] }
  | _ => none }
def CosineKnownWrongFalsely : Prop := cosineKnownRow.holds Try.pinned (OpenSpec.ofChange cosineKnownWrong)

/-- 'praxinoscopelaw11.CosineTwice': WHATEVER THE INPUT: true; the input reads as it did. -/
def cosineTwiceSpec : ChangeSpec := { name := "cosineTwice", fn := fun _ => fun
  | [d] => { results := [.lit (.bool true)], args := [d] }
  | _ => none }
def cosineTwiceRow : OpenClaim := { program := "ytpmdeoiajnfabaa", sum := "e5cde69746bd3a9e5b4102ca2a60c43f10488872f78c317f4cc8d08034d1d9d7", func := "praxinoscope/praxinoscopelaw11.CosineTwice", spec := "cosineTwice", unfollowed := true, recurses := true, apart := false }
def CosineTwiceSaid : Prop := cosineTwiceRow.holds Try.pinned (OpenSpec.ofChange cosineTwiceSpec)

/-- ITS FALSE NEIGHBOUR: 'it returns false'. Refute it at one input. -/
def cosineTwiceWrong : ChangeSpec := { name := "cosineTwice", fn := fun _ => fun
  | [d] => { results := [.lit (.bool false)], args := [d] }
  | _ => none }
def CosineTwiceWrongFalsely : Prop := cosineTwiceRow.holds Try.pinned (OpenSpec.ofChange cosineTwiceWrong)

/-- 'praxinoscopelaw11.CosineTurned': WHATEVER THE INPUT: true; the input reads as it did. -/
def cosineTurnedSpec : ChangeSpec := { name := "cosineTurned", fn := fun _ => fun
  | [d] => { results := [.lit (.bool true)], args := [d] }
  | _ => none }
def cosineTurnedRow : OpenClaim := { program := "ytpmdeoiajnfabaa", sum := "e5cde69746bd3a9e5b4102ca2a60c43f10488872f78c317f4cc8d08034d1d9d7", func := "praxinoscope/praxinoscopelaw11.CosineTurned", spec := "cosineTurned", unfollowed := true, recurses := true, apart := false }
def CosineTurnedSaid : Prop := cosineTurnedRow.holds Try.pinned (OpenSpec.ofChange cosineTurnedSpec)

/-- ITS FALSE NEIGHBOUR: 'it returns false'. Refute it at one input. -/
def cosineTurnedWrong : ChangeSpec := { name := "cosineTurned", fn := fun _ => fun
  | [d] => { results := [.lit (.bool false)], args := [d] }
  | _ => none }
def CosineTurnedWrongFalsely : Prop := cosineTurnedRow.holds Try.pinned (OpenSpec.ofChange cosineTurnedWrong)

/-- 'praxinoscopelaw11.CosineSums': WHATEVER THE INPUT: true; the input reads as it did. -/
def cosineSumsSpec : ChangeSpec := { name := "cosineSums", fn := fun _ => fun
  | [d1, d2] => { results := [.lit (.bool true)], args := [d1, d2] }
  | _ => none }
def cosineSumsRow : OpenClaim := { program := "ytpmdeoiajnfabaa", sum := "e5cde69746bd3a9e5b4102ca2a60c43f10488872f78c317f4cc8d08034d1d9d7", func := "praxinoscope/praxinoscopelaw11.CosineSums", spec := "cosineSums", unfollowed := true, recurses := true, apart := false }
def CosineSumsSaid : Prop := cosineSumsRow.holds Try.pinned (OpenSpec.ofChange cosineSumsSpec)

/-- ITS FALSE NEIGHBOUR: 'it returns false'. Refute it at one input. -/
def cosineSumsWrong : ChangeSpec := { name := "cosineSums", fn := fun _ => fun
  | [d1, d2] => { results := [.lit (.bool false)], args := [d1, d2] }
  | _ => none }
def CosineSumsWrongFalsely : Prop := cosineSumsRow.holds Try.pinned (OpenSpec.ofChange cosineSumsWrong)

/-- 'praxinoscopelaw11.CosineRows': WHATEVER THE INPUT: true; the input reads as it did. -/
def cosineRowsSpec : ChangeSpec := { name := "cosineRows", fn := fun _ => fun
  | [d1, d2] => { results := [.lit (.bool true)], args := [d1, d2] }
  | _ => none }
def cosineRowsRow : OpenClaim := { program := "ytpmdeoiajnfabaa", sum := "e5cde69746bd3a9e5b4102ca2a60c43f10488872f78c317f4cc8d08034d1d9d7", func := "praxinoscope/praxinoscopelaw11.CosineRows", spec := "cosineRows", unfollowed := true, recurses := true, apart := false }
def CosineRowsSaid : Prop := cosineRowsRow.holds Try.pinned (OpenSpec.ofChange cosineRowsSpec)

/-- ITS FALSE NEIGHBOUR: 'it returns false'. Refute it at one input. -/
def cosineRowsWrong : ChangeSpec := { name := "cosineRows", fn := fun _ => fun
  | [d1, d2] => { results := [.lit (.bool false)], args := [d1, d2] }
  | _ => none }
def CosineRowsWrongFalsely : Prop := cosineRowsRow.holds Try.pinned (OpenSpec.ofChange cosineRowsWrong)

/- THE SECOND FORM. 'bulk': how many values and letters a reading holds, each counted each time it is reached (what is shared counts as often as it is met; a slice's spare places count too). A statement '..UptoSaid' is the law's where the arguments, and the package variables that the reading takes, are together of bulk at most 1048576: NARROWER than '..Said'. Prove '..Said' where nothing that the law and all that it calls make is longer than what came in: it says more and counts as full. Else prove '..UptoSaid'. A law counts once. -/
mutual
def uptoBulk {H : Type} : DataW H → Nat
  | .lit (.string bytes) => bytes.length + 1
  | .lit _ => 1
  | .nil => 1
  | .ptr d => uptoBulk d + 1
  | .slice elems spare => uptoBulkAll elems + uptoBulkAll spare + 1
  | .agg parts => uptoBulkAll parts + 1
  | .iface _ d => uptoBulk d + 1
  | .map entries => uptoBulkEntries entries + 1
  | .held _ => 1
def uptoBulkAll {H : Type} : List (DataW H) → Nat
  | [] => 0
  | d :: r => uptoBulk d + uptoBulkAll r
def uptoBulkEntries {H : Type} : List (Lit × DataW H) → Nat
  | [] => 0
  | x :: r => uptoBulkEntry x + uptoBulkEntries r
def uptoBulkEntry {H : Type} : Lit × DataW H → Nat
  | (.string bytes, d) => bytes.length + uptoBulk d + 1
  | (_, d) => uptoBulk d + 1
 end
def uptoSmall : (H : Type) → List (DataW H) → Bool := fun _ ds => decide (uptoBulkAll ds ≤ 1048576)
def OpenSpec.upto (s : _root_.Go.ChangeSpec) : _root_.Go.OpenSpec := { _root_.Go.OpenSpec.ofChange s with cond := some uptoSmall }

/-- 'praxinoscopelaw11.CosineInverts', WHERE WHAT IT READS IS OF BULK AT MOST 1048576: true; the input reads as it did. -/
def cosineInvertsUptoRow : OpenClaim := { program := "ytpmdeoiajnfabaa", sum := "e5cde69746bd3a9e5b4102ca2a60c43f10488872f78c317f4cc8d08034d1d9d7", func := "praxinoscope/praxinoscopelaw11.CosineInverts", spec := "cosineInverts", unfollowed := true, recurses := true, apart := false, narrowed := true }
def CosineInvertsUptoSaid : Prop := cosineInvertsUptoRow.holds Try.pinned (OpenSpec.upto cosineInvertsSpec)

/-- 'praxinoscopelaw11.CosineLines', WHERE WHAT IT READS IS OF BULK AT MOST 1048576: true; the input reads as it did. -/
def cosineLinesUptoRow : OpenClaim := { program := "ytpmdeoiajnfabaa", sum := "e5cde69746bd3a9e5b4102ca2a60c43f10488872f78c317f4cc8d08034d1d9d7", func := "praxinoscope/praxinoscopelaw11.CosineLines", spec := "cosineLines", unfollowed := true, recurses := true, apart := false, narrowed := true }
def CosineLinesUptoSaid : Prop := cosineLinesUptoRow.holds Try.pinned (OpenSpec.upto cosineLinesSpec)

/-- 'praxinoscopelaw11.CosineKnown', WHERE WHAT IT READS IS OF BULK AT MOST 1048576: true; the input reads as it did. -/
def cosineKnownUptoRow : OpenClaim := { program := "ytpmdeoiajnfabaa", sum := "e5cde69746bd3a9e5b4102ca2a60c43f10488872f78c317f4cc8d08034d1d9d7", func := "praxinoscope/praxinoscopelaw11.CosineKnown", spec := "cosineKnown", unfollowed := true, recurses := true, apart := false, narrowed := true }
def CosineKnownUptoSaid : Prop := cosineKnownUptoRow.holds Try.pinned (OpenSpec.upto cosineKnownSpec)

/-- 'praxinoscopelaw11.CosineTwice', WHERE WHAT IT READS IS OF BULK AT MOST 1048576: true; the input reads as it did. -/
def cosineTwiceUptoRow : OpenClaim := { program := "ytpmdeoiajnfabaa", sum := "e5cde69746bd3a9e5b4102ca2a60c43f10488872f78c317f4cc8d08034d1d9d7", func := "praxinoscope/praxinoscopelaw11.CosineTwice", spec := "cosineTwice", unfollowed := true, recurses := true, apart := false, narrowed := true }
def CosineTwiceUptoSaid : Prop := cosineTwiceUptoRow.holds Try.pinned (OpenSpec.upto cosineTwiceSpec)

/-- 'praxinoscopelaw11.CosineTurned', WHERE WHAT IT READS IS OF BULK AT MOST 1048576: true; the input reads as it did. -/
def cosineTurnedUptoRow : OpenClaim := { program := "ytpmdeoiajnfabaa", sum := "e5cde69746bd3a9e5b4102ca2a60c43f10488872f78c317f4cc8d08034d1d9d7", func := "praxinoscope/praxinoscopelaw11.CosineTurned", spec := "cosineTurned", unfollowed := true, recurses := true, apart := false, narrowed := true }
def CosineTurnedUptoSaid : Prop := cosineTurnedUptoRow.holds Try.pinned (OpenSpec.upto cosineTurnedSpec)

/-- 'praxinoscopelaw11.CosineSums', WHERE WHAT IT READS IS OF BULK AT MOST 1048576: true; the input reads as it did. -/
def cosineSumsUptoRow : OpenClaim := { program := "ytpmdeoiajnfabaa", sum := "e5cde69746bd3a9e5b4102ca2a60c43f10488872f78c317f4cc8d08034d1d9d7", func := "praxinoscope/praxinoscopelaw11.CosineSums", spec := "cosineSums", unfollowed := true, recurses := true, apart := false, narrowed := true }
def CosineSumsUptoSaid : Prop := cosineSumsUptoRow.holds Try.pinned (OpenSpec.upto cosineSumsSpec)

/-- 'praxinoscopelaw11.CosineRows', WHERE WHAT IT READS IS OF BULK AT MOST 1048576: true; the input reads as it did. -/
def cosineRowsUptoRow : OpenClaim := { program := "ytpmdeoiajnfabaa", sum := "e5cde69746bd3a9e5b4102ca2a60c43f10488872f78c317f4cc8d08034d1d9d7", func := "praxinoscope/praxinoscopelaw11.CosineRows", spec := "cosineRows", unfollowed := true, recurses := true, apart := false, narrowed := true }
def CosineRowsUptoSaid : Prop := cosineRowsUptoRow.holds Try.pinned (OpenSpec.upto cosineRowsSpec)

end Rows
end Go.Proofs.Ytpmdeoiajnfabaa
