/-
  No cell of these rows narrows 'for every input' (looked for: loops, veiled, ifaces, maps, wideKeys, modest, calm, conditions, laid).
  DERIVED. THE GIVEN ROWS OF THIS SEAT. 7 by the template 'for every input the law returns true; each argument reads behind the call as it read before'; 0 by the template 'total and deterministic' (their statements: YtfkjgafmaplggaaTotals.lean).
  GIVEN WITH THE SEED: the statements are not yours to turn. If you find one false, say at which input.
  Laid BY PROGRAM, IN A SANDBOX (cutbox-rows.mjs): the forced cells as the released guide's own fill.sh prints them over the translation 3ab11c4a0b9fcf57… (all of the seat's roots in one cut). By AI agents, Wed Nov 11 2026. No macro, syntax, notation, axiom, sorry.
-/
import Derived.Test.YtfkjgafmaplggaaChecked
import GoSem.Claim
import GoSem.ClaimJoined
import GoSem.ClaimMapViews
import Derived.JoinedTies
import Derived.KernelRfl
namespace Go.Proofs.Ytfkjgafmaplggaa
/- THE CELL 'sum', in the pinned program and in every row, IS THE sha256 OF THE DUMP (.gsa) THAT YtfkjgafmaplggaaProg.lean LOADS. Nothing in Lean hashes anything: it is a label: what it is worth is what the hold of that sum in a sandbox is worth. -/
noncomputable def Try.pinned : Pinned := { name := "ytfkjgafmaplggaa", sum := "3ab11c4a0b9fcf57dfcba76a70bc594e2b7c5a7e5fbe46a6a56dab9cff82f73c", checked := Try.checked }
namespace Rows
def none {H : Type} : Left H := { results := [], args := [] }

/-- 'praxinoscopelaw10.QuantTells': WHATEVER THE INPUT: true; the input reads as it did. -/
def quantTellsSpec : ChangeSpec := { name := "quantTells", fn := fun _ => fun
  | [d1, d2, d3, d4] => { results := [.lit (.bool true)], args := [d1, d2, d3, d4] }
  | _ => none }
def quantTellsRow : OpenClaim := { program := "ytfkjgafmaplggaa", sum := "3ab11c4a0b9fcf57dfcba76a70bc594e2b7c5a7e5fbe46a6a56dab9cff82f73c", func := "praxinoscope/praxinoscopelaw10.QuantTells", spec := "quantTells", unfollowed := true, recurses := true, apart := false }
def QuantTellsSaid : Prop := quantTellsRow.holds Try.pinned (OpenSpec.ofChange quantTellsSpec)

/-- ITS FALSE NEIGHBOUR: 'it returns false'. Refute it at one input. -/
def quantTellsWrong : ChangeSpec := { name := "quantTells", fn := fun _ => fun
  | [d1, d2, d3, d4] => { results := [.lit (.bool false)], args := [d1, d2, d3, d4] }
  | _ => none }
def QuantTellsWrongFalsely : Prop := quantTellsRow.holds Try.pinned (OpenSpec.ofChange quantTellsWrong)

/-- 'praxinoscopelaw10.QuantBlocks': WHATEVER THE INPUT: true; the input reads as it did. -/
def quantBlocksSpec : ChangeSpec := { name := "quantBlocks", fn := fun _ => fun
  | [d1, d2, d3] => { results := [.lit (.bool true)], args := [d1, d2, d3] }
  | _ => none }
def quantBlocksRow : OpenClaim := { program := "ytfkjgafmaplggaa", sum := "3ab11c4a0b9fcf57dfcba76a70bc594e2b7c5a7e5fbe46a6a56dab9cff82f73c", func := "praxinoscope/praxinoscopelaw10.QuantBlocks", spec := "quantBlocks", unfollowed := true, recurses := true, apart := false }
def QuantBlocksSaid : Prop := quantBlocksRow.holds Try.pinned (OpenSpec.ofChange quantBlocksSpec)

/-- ITS FALSE NEIGHBOUR: 'it returns false'. Refute it at one input. -/
def quantBlocksWrong : ChangeSpec := { name := "quantBlocks", fn := fun _ => fun
  | [d1, d2, d3] => { results := [.lit (.bool false)], args := [d1, d2, d3] }
  | _ => none }
def QuantBlocksWrongFalsely : Prop := quantBlocksRow.holds Try.pinned (OpenSpec.ofChange quantBlocksWrong)

/-- 'praxinoscopelaw10.QuantKnown': WHATEVER THE INPUT: true; the input reads as it did. -/
def quantKnownSpec : ChangeSpec := { name := "quantKnown", fn := fun _ => fun
  | [] => { results := [.lit (.bool true)], args := [] }
  | _ => none }
def quantKnownRow : OpenClaim := { program := "ytfkjgafmaplggaa", sum := "3ab11c4a0b9fcf57dfcba76a70bc594e2b7c5a7e5fbe46a6a56dab9cff82f73c", func := "praxinoscope/praxinoscopelaw10.QuantKnown", spec := "quantKnown", unfollowed := true, recurses := true, apart := false }
def QuantKnownSaid : Prop := quantKnownRow.holds Try.pinned (OpenSpec.ofChange quantKnownSpec)

/-- ITS FALSE NEIGHBOUR: 'it returns false'. Refute it at one input. -/
def quantKnownWrong : ChangeSpec := { name := "quantKnown", fn := fun _ => fun
  | [] => { results := [.lit (.bool false)], args := [] }
  | _ => none }
def QuantKnownWrongFalsely : Prop := quantKnownRow.holds Try.pinned (OpenSpec.ofChange quantKnownWrong)

/-- 'praxinoscopelaw10.QuantOdd': WHATEVER THE INPUT: true; the input reads as it did. -/
def quantOddSpec : ChangeSpec := { name := "quantOdd", fn := fun _ => fun
  | [d1, d2] => { results := [.lit (.bool true)], args := [d1, d2] }
  | _ => none }
def quantOddRow : OpenClaim := { program := "ytfkjgafmaplggaa", sum := "3ab11c4a0b9fcf57dfcba76a70bc594e2b7c5a7e5fbe46a6a56dab9cff82f73c", func := "praxinoscope/praxinoscopelaw10.QuantOdd", spec := "quantOdd", unfollowed := true, recurses := true, apart := false }
def QuantOddSaid : Prop := quantOddRow.holds Try.pinned (OpenSpec.ofChange quantOddSpec)

/-- ITS FALSE NEIGHBOUR: 'it returns false'. Refute it at one input. -/
def quantOddWrong : ChangeSpec := { name := "quantOdd", fn := fun _ => fun
  | [d1, d2] => { results := [.lit (.bool false)], args := [d1, d2] }
  | _ => none }
def QuantOddWrongFalsely : Prop := quantOddRow.holds Try.pinned (OpenSpec.ofChange quantOddWrong)

/-- 'praxinoscopelaw10.QuantGrows': WHATEVER THE INPUT: true; the input reads as it did. -/
def quantGrowsSpec : ChangeSpec := { name := "quantGrows", fn := fun _ => fun
  | [d1, d2] => { results := [.lit (.bool true)], args := [d1, d2] }
  | _ => none }
def quantGrowsRow : OpenClaim := { program := "ytfkjgafmaplggaa", sum := "3ab11c4a0b9fcf57dfcba76a70bc594e2b7c5a7e5fbe46a6a56dab9cff82f73c", func := "praxinoscope/praxinoscopelaw10.QuantGrows", spec := "quantGrows", unfollowed := true, recurses := true, apart := false }
def QuantGrowsSaid : Prop := quantGrowsRow.holds Try.pinned (OpenSpec.ofChange quantGrowsSpec)

/-- ITS FALSE NEIGHBOUR: 'it returns false'. Refute it at one input. -/
def quantGrowsWrong : ChangeSpec := { name := "quantGrows", fn := fun _ => fun
  | [d1, d2] => { results := [.lit (.bool false)], args := [d1, d2] }
  | _ => none }
def QuantGrowsWrongFalsely : Prop := quantGrowsRow.holds Try.pinned (OpenSpec.ofChange quantGrowsWrong)

/-- 'praxinoscopelaw10.QuantNear': WHATEVER THE INPUT: true; the input reads as it did. -/
def quantNearSpec : ChangeSpec := { name := "quantNear", fn := fun _ => fun
  | [d1, d2, d3] => { results := [.lit (.bool true)], args := [d1, d2, d3] }
  | _ => none }
def quantNearRow : OpenClaim := { program := "ytfkjgafmaplggaa", sum := "3ab11c4a0b9fcf57dfcba76a70bc594e2b7c5a7e5fbe46a6a56dab9cff82f73c", func := "praxinoscope/praxinoscopelaw10.QuantNear", spec := "quantNear", unfollowed := true, recurses := true, apart := false }
def QuantNearSaid : Prop := quantNearRow.holds Try.pinned (OpenSpec.ofChange quantNearSpec)

/-- ITS FALSE NEIGHBOUR: 'it returns false'. Refute it at one input. -/
def quantNearWrong : ChangeSpec := { name := "quantNear", fn := fun _ => fun
  | [d1, d2, d3] => { results := [.lit (.bool false)], args := [d1, d2, d3] }
  | _ => none }
def QuantNearWrongFalsely : Prop := quantNearRow.holds Try.pinned (OpenSpec.ofChange quantNearWrong)

/-- 'praxinoscopelaw10.QuantSlots': WHATEVER THE INPUT: true; the input reads as it did. -/
def quantSlotsSpec : ChangeSpec := { name := "quantSlots", fn := fun _ => fun
  | [d1, d2, d3, d4, d5] => { results := [.lit (.bool true)], args := [d1, d2, d3, d4, d5] }
  | _ => none }
def quantSlotsRow : OpenClaim := { program := "ytfkjgafmaplggaa", sum := "3ab11c4a0b9fcf57dfcba76a70bc594e2b7c5a7e5fbe46a6a56dab9cff82f73c", func := "praxinoscope/praxinoscopelaw10.QuantSlots", spec := "quantSlots", unfollowed := true, recurses := true, apart := false }
def QuantSlotsSaid : Prop := quantSlotsRow.holds Try.pinned (OpenSpec.ofChange quantSlotsSpec)

/-- ITS FALSE NEIGHBOUR: 'it returns false'. Refute it at one input. -/
def quantSlotsWrong : ChangeSpec := { name := "quantSlots", fn := fun _ => fun
  | [d1, d2, d3, d4, d5] => { results := [.lit (.bool false)], args := [d1, d2, d3, d4, d5] }
  | _ => none }
def QuantSlotsWrongFalsely : Prop := quantSlotsRow.holds Try.pinned (OpenSpec.ofChange quantSlotsWrong)

/- THE SECOND FORM. 'bulk': how many values and letters a reading holds, each counted each time it is reached (what is shared counts as often as it is met; a slice's spare places count too). A statement '..UptoSaid' is the law's where the arguments, and the package variables that the reading takes, are together of bulk at most 1048576: NARROWER than '..Said'. Prove '..Said' where nothing that the law and all that it calls make is longer than what came in: it says more and counts as full. Else prove '..UptoSaid'. A law counts once. -/
mutual
def uptoBulk {H : Type} : DataW H → Nat
  | .lit (.string bytes) => bytes.length + 1
  | .lit _ => 1
  | .nil => 1
  | .ptr d => uptoBulk d + 1
  | .slice elems spare => uptoBulkAll elems + uptoBulkAll spare + 1
  | .agg parts => uptoBulkAll parts + 1
  | .iface _ d => uptoBulk d + 1
  | .map entries => uptoBulkEntries entries + 1
  | .held _ => 1
def uptoBulkAll {H : Type} : List (DataW H) → Nat
  | [] => 0
  | d :: r => uptoBulk d + uptoBulkAll r
def uptoBulkEntries {H : Type} : List (Lit × DataW H) → Nat
  | [] => 0
  | x :: r => uptoBulkEntry x + uptoBulkEntries r
def uptoBulkEntry {H : Type} : Lit × DataW H → Nat
  | (.string bytes, d) => bytes.length + uptoBulk d + 1
  | (_, d) => uptoBulk d + 1
 end
def uptoSmall : (H : Type) → List (DataW H) → Bool := fun _ ds => decide (uptoBulkAll ds ≤ 1048576)
def OpenSpec.upto (s : _root_.Go.ChangeSpec) : _root_.Go.OpenSpec := { _root_.Go.OpenSpec.ofChange s with cond := some uptoSmall }

/-- 'praxinoscopelaw10.QuantTells', WHERE WHAT IT READS IS OF BULK AT MOST 1048576: true; the input reads as it did. -/
def quantTellsUptoRow : OpenClaim := { program := "ytfkjgafmaplggaa", sum := "3ab11c4a0b9fcf57dfcba76a70bc594e2b7c5a7e5fbe46a6a56dab9cff82f73c", func := "praxinoscope/praxinoscopelaw10.QuantTells", spec := "quantTells", unfollowed := true, recurses := true, apart := false, narrowed := true }
def QuantTellsUptoSaid : Prop := quantTellsUptoRow.holds Try.pinned (OpenSpec.upto quantTellsSpec)

/-- 'praxinoscopelaw10.QuantBlocks', WHERE WHAT IT READS IS OF BULK AT MOST 1048576: true; the input reads as it did. -/
def quantBlocksUptoRow : OpenClaim := { program := "ytfkjgafmaplggaa", sum := "3ab11c4a0b9fcf57dfcba76a70bc594e2b7c5a7e5fbe46a6a56dab9cff82f73c", func := "praxinoscope/praxinoscopelaw10.QuantBlocks", spec := "quantBlocks", unfollowed := true, recurses := true, apart := false, narrowed := true }
def QuantBlocksUptoSaid : Prop := quantBlocksUptoRow.holds Try.pinned (OpenSpec.upto quantBlocksSpec)

/-- 'praxinoscopelaw10.QuantKnown', WHERE WHAT IT READS IS OF BULK AT MOST 1048576: true; the input reads as it did. -/
def quantKnownUptoRow : OpenClaim := { program := "ytfkjgafmaplggaa", sum := "3ab11c4a0b9fcf57dfcba76a70bc594e2b7c5a7e5fbe46a6a56dab9cff82f73c", func := "praxinoscope/praxinoscopelaw10.QuantKnown", spec := "quantKnown", unfollowed := true, recurses := true, apart := false, narrowed := true }
def QuantKnownUptoSaid : Prop := quantKnownUptoRow.holds Try.pinned (OpenSpec.upto quantKnownSpec)

/-- 'praxinoscopelaw10.QuantOdd', WHERE WHAT IT READS IS OF BULK AT MOST 1048576: true; the input reads as it did. -/
def quantOddUptoRow : OpenClaim := { program := "ytfkjgafmaplggaa", sum := "3ab11c4a0b9fcf57dfcba76a70bc594e2b7c5a7e5fbe46a6a56dab9cff82f73c", func := "praxinoscope/praxinoscopelaw10.QuantOdd", spec := "quantOdd", unfollowed := true, recurses := true, apart := false, narrowed := true }
def QuantOddUptoSaid : Prop := quantOddUptoRow.holds Try.pinned (OpenSpec.upto quantOddSpec)

/-- 'praxinoscopelaw10.QuantGrows', WHERE WHAT IT READS IS OF BULK AT MOST 1048576: true; the input reads as it did. -/
def quantGrowsUptoRow : OpenClaim := { program := "ytfkjgafmaplggaa", sum := "3ab11c4a0b9fcf57dfcba76a70bc594e2b7c5a7e5fbe46a6a56dab9cff82f73c", func := "praxinoscope/praxinoscopelaw10.QuantGrows", spec := "quantGrows", unfollowed := true, recurses := true, apart := false, narrowed := true }
def QuantGrowsUptoSaid : Prop := quantGrowsUptoRow.holds Try.pinned (OpenSpec.upto quantGrowsSpec)

/-- 'praxinoscopelaw10.QuantNear', WHERE WHAT IT READS IS OF BULK AT MOST 1048576: true; the input reads as it did. -/
def quantNearUptoRow : OpenClaim := { program := "ytfkjgafmaplggaa", sum := "3ab11c4a0b9fcf57dfcba76a70bc594e2b7c5a7e5fbe46a6a56dab9cff82f73c", func := "praxinoscope/praxinoscopelaw10.QuantNear", spec := "quantNear", unfollowed := true, recurses := true, apart := false, narrowed := true }
def QuantNearUptoSaid : Prop := quantNearUptoRow.holds Try.pinned (OpenSpec.upto quantNearSpec)

/-- 'praxinoscopelaw10.QuantSlots', WHERE WHAT IT READS IS OF BULK AT MOST 1048576: true; the input reads as it did. -/
def quantSlotsUptoRow : OpenClaim := { program := "ytfkjgafmaplggaa", sum := "3ab11c4a0b9fcf57dfcba76a70bc594e2b7c5a7e5fbe46a6a56dab9cff82f73c", func := "praxinoscope/praxinoscopelaw10.QuantSlots", spec := "quantSlots", unfollowed := true, recurses := true, apart := false, narrowed := true }
def QuantSlotsUptoSaid : Prop := quantSlotsUptoRow.holds Try.pinned (OpenSpec.upto quantSlotsSpec)

end Rows
end Go.Proofs.Ytfkjgafmaplggaa
