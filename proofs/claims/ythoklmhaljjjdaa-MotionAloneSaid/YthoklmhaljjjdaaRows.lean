/-
  No cell of these rows narrows 'for every input' (looked for: loops, veiled, ifaces, maps, wideKeys, modest, calm, conditions, laid).
  DERIVED. THE GIVEN ROWS OF THIS SEAT. 6 by the template 'for every input the law returns true; each argument reads behind the call as it read before'; 0 by the template 'total and deterministic' (their statements: YthoklmhaljjjdaaTotals.lean).
  GIVEN WITH THE SEED: the statements are not yours to turn. If you find one false, say at which input.
  Laid BY PROGRAM, IN A SANDBOX (cutbox-rows.mjs): the forced cells as the released guide's own fill.sh prints them over the translation ed4e2e31335c0389… (all of the seat's roots in one cut). By AI agents, Wed Nov 11 2026. No macro, syntax, notation, axiom, sorry.
-/
import Derived.Test.YthoklmhaljjjdaaChecked
import GoSem.Claim
import GoSem.ClaimJoined
import GoSem.ClaimMapViews
import Derived.JoinedTies
import Derived.KernelRfl
namespace Go.Proofs.Ythoklmhaljjjdaa
/- THE CELL 'sum', in the pinned program and in every row, IS THE sha256 OF THE DUMP (.gsa) THAT YthoklmhaljjjdaaProg.lean LOADS. Nothing in Lean hashes anything: it is a label: what it is worth is what the hold of that sum in a sandbox is worth. -/
noncomputable def Try.pinned : Pinned := { name := "ythoklmhaljjjdaa", sum := "ed4e2e31335c0389adaa547a1ad1e7f5b46df5cef1b52d0ae16e7bc56efdcd7b", checked := Try.checked }
namespace Rows
def none {H : Type} : Left H := { results := [], args := [] }

/-- 'praxinoscopelaw14.MotionFetches': WHATEVER THE INPUT: true; the input reads as it did. -/
def motionFetchesSpec : ChangeSpec := { name := "motionFetches", fn := fun _ => fun
  | [d1, d2, d3, d4, d5, d6, d7] => { results := [.lit (.bool true)], args := [d1, d2, d3, d4, d5, d6, d7] }
  | _ => none }
def motionFetchesRow : OpenClaim := { program := "ythoklmhaljjjdaa", sum := "ed4e2e31335c0389adaa547a1ad1e7f5b46df5cef1b52d0ae16e7bc56efdcd7b", func := "praxinoscope/praxinoscopelaw14.MotionFetches", spec := "motionFetches", unfollowed := true, recurses := true, apart := false }
def MotionFetchesSaid : Prop := motionFetchesRow.holds Try.pinned (OpenSpec.ofChange motionFetchesSpec)

/-- ITS FALSE NEIGHBOUR: 'it returns false'. Refute it at one input. -/
def motionFetchesWrong : ChangeSpec := { name := "motionFetches", fn := fun _ => fun
  | [d1, d2, d3, d4, d5, d6, d7] => { results := [.lit (.bool false)], args := [d1, d2, d3, d4, d5, d6, d7] }
  | _ => none }
def MotionFetchesWrongFalsely : Prop := motionFetchesRow.holds Try.pinned (OpenSpec.ofChange motionFetchesWrong)

/-- 'praxinoscopelaw14.MotionHalves': WHATEVER THE INPUT: true; the input reads as it did. -/
def motionHalvesSpec : ChangeSpec := { name := "motionHalves", fn := fun _ => fun
  | [d] => { results := [.lit (.bool true)], args := [d] }
  | _ => none }
def motionHalvesRow : OpenClaim := { program := "ythoklmhaljjjdaa", sum := "ed4e2e31335c0389adaa547a1ad1e7f5b46df5cef1b52d0ae16e7bc56efdcd7b", func := "praxinoscope/praxinoscopelaw14.MotionHalves", spec := "motionHalves", unfollowed := true, recurses := true, apart := false }
def MotionHalvesSaid : Prop := motionHalvesRow.holds Try.pinned (OpenSpec.ofChange motionHalvesSpec)

/-- ITS FALSE NEIGHBOUR: 'it returns false'. Refute it at one input. -/
def motionHalvesWrong : ChangeSpec := { name := "motionHalves", fn := fun _ => fun
  | [d] => { results := [.lit (.bool false)], args := [d] }
  | _ => none }
def MotionHalvesWrongFalsely : Prop := motionHalvesRow.holds Try.pinned (OpenSpec.ofChange motionHalvesWrong)

/-- 'praxinoscopelaw14.MotionKnown': WHATEVER THE INPUT: true; the input reads as it did. -/
def motionKnownSpec : ChangeSpec := { name := "motionKnown", fn := fun _ => fun
  | [] => { results := [.lit (.bool true)], args := [] }
  | _ => none }
def motionKnownRow : OpenClaim := { program := "ythoklmhaljjjdaa", sum := "ed4e2e31335c0389adaa547a1ad1e7f5b46df5cef1b52d0ae16e7bc56efdcd7b", func := "praxinoscope/praxinoscopelaw14.MotionKnown", spec := "motionKnown", unfollowed := true, recurses := true, apart := false }
def MotionKnownSaid : Prop := motionKnownRow.holds Try.pinned (OpenSpec.ofChange motionKnownSpec)

/-- ITS FALSE NEIGHBOUR: 'it returns false'. Refute it at one input. -/
def motionKnownWrong : ChangeSpec := { name := "motionKnown", fn := fun _ => fun
  | [] => { results := [.lit (.bool false)], args := [] }
  | _ => none }
def MotionKnownWrongFalsely : Prop := motionKnownRow.holds Try.pinned (OpenSpec.ofChange motionKnownWrong)

/-- 'praxinoscopelaw14.MotionThere': WHATEVER THE INPUT: true; the input reads as it did. -/
def motionThereSpec : ChangeSpec := { name := "motionThere", fn := fun _ => fun
  | [d1, d2, d3, d4, d5, d6, d7, d8] => { results := [.lit (.bool true)], args := [d1, d2, d3, d4, d5, d6, d7, d8] }
  | _ => none }
def motionThereRow : OpenClaim := { program := "ythoklmhaljjjdaa", sum := "ed4e2e31335c0389adaa547a1ad1e7f5b46df5cef1b52d0ae16e7bc56efdcd7b", func := "praxinoscope/praxinoscopelaw14.MotionThere", spec := "motionThere", unfollowed := true, recurses := true, apart := false }
def MotionThereSaid : Prop := motionThereRow.holds Try.pinned (OpenSpec.ofChange motionThereSpec)

/-- ITS FALSE NEIGHBOUR: 'it returns false'. Refute it at one input. -/
def motionThereWrong : ChangeSpec := { name := "motionThere", fn := fun _ => fun
  | [d1, d2, d3, d4, d5, d6, d7, d8] => { results := [.lit (.bool false)], args := [d1, d2, d3, d4, d5, d6, d7, d8] }
  | _ => none }
def MotionThereWrongFalsely : Prop := motionThereRow.holds Try.pinned (OpenSpec.ofChange motionThereWrong)

/-- 'praxinoscopelaw14.MotionShared': WHATEVER THE INPUT: true; the input reads as it did. -/
def motionSharedSpec : ChangeSpec := { name := "motionShared", fn := fun _ => fun
  | [d1, d2, d3, d4, d5, d6, d7] => { results := [.lit (.bool true)], args := [d1, d2, d3, d4, d5, d6, d7] }
  | _ => none }
def motionSharedRow : OpenClaim := { program := "ythoklmhaljjjdaa", sum := "ed4e2e31335c0389adaa547a1ad1e7f5b46df5cef1b52d0ae16e7bc56efdcd7b", func := "praxinoscope/praxinoscopelaw14.MotionShared", spec := "motionShared", unfollowed := true, recurses := true, apart := false }
def MotionSharedSaid : Prop := motionSharedRow.holds Try.pinned (OpenSpec.ofChange motionSharedSpec)

/-- ITS FALSE NEIGHBOUR: 'it returns false'. Refute it at one input. -/
def motionSharedWrong : ChangeSpec := { name := "motionShared", fn := fun _ => fun
  | [d1, d2, d3, d4, d5, d6, d7] => { results := [.lit (.bool false)], args := [d1, d2, d3, d4, d5, d6, d7] }
  | _ => none }
def MotionSharedWrongFalsely : Prop := motionSharedRow.holds Try.pinned (OpenSpec.ofChange motionSharedWrong)

/-- 'praxinoscopelaw14.MotionAlone': WHATEVER THE INPUT: true; the input reads as it did. -/
def motionAloneSpec : ChangeSpec := { name := "motionAlone", fn := fun _ => fun
  | [d1, d2, d3, d4, d5, d6, d7, d8] => { results := [.lit (.bool true)], args := [d1, d2, d3, d4, d5, d6, d7, d8] }
  | _ => none }
def motionAloneRow : OpenClaim := { program := "ythoklmhaljjjdaa", sum := "ed4e2e31335c0389adaa547a1ad1e7f5b46df5cef1b52d0ae16e7bc56efdcd7b", func := "praxinoscope/praxinoscopelaw14.MotionAlone", spec := "motionAlone", unfollowed := true, recurses := true, apart := false }
def MotionAloneSaid : Prop := motionAloneRow.holds Try.pinned (OpenSpec.ofChange motionAloneSpec)

/-- ITS FALSE NEIGHBOUR: 'it returns false'. Refute it at one input. -/
def motionAloneWrong : ChangeSpec := { name := "motionAlone", fn := fun _ => fun
  | [d1, d2, d3, d4, d5, d6, d7, d8] => { results := [.lit (.bool false)], args := [d1, d2, d3, d4, d5, d6, d7, d8] }
  | _ => none }
def MotionAloneWrongFalsely : Prop := motionAloneRow.holds Try.pinned (OpenSpec.ofChange motionAloneWrong)

/- THE SECOND FORM. 'bulk': how many values and letters a reading holds, each counted each time it is reached (what is shared counts as often as it is met; a slice's spare places count too). A statement '..UptoSaid' is the law's where the arguments, and the package variables that the reading takes, are together of bulk at most 1048576: NARROWER than '..Said'. Prove '..Said' where nothing that the law and all that it calls make is longer than what came in: it says more and counts as full. Else prove '..UptoSaid'. A law counts once. -/
mutual
def uptoBulk {H : Type} : DataW H → Nat
  | .lit (.string bytes) => bytes.length + 1
  | .lit _ => 1
  | .nil => 1
  | .ptr d => uptoBulk d + 1
  | .slice elems spare => uptoBulkAll elems + uptoBulkAll spare + 1
  | .agg parts => uptoBulkAll parts + 1
  | .iface _ d => uptoBulk d + 1
  | .map entries => uptoBulkEntries entries + 1
  | .held _ => 1
def uptoBulkAll {H : Type} : List (DataW H) → Nat
  | [] => 0
  | d :: r => uptoBulk d + uptoBulkAll r
def uptoBulkEntries {H : Type} : List (Lit × DataW H) → Nat
  | [] => 0
  | x :: r => uptoBulkEntry x + uptoBulkEntries r
def uptoBulkEntry {H : Type} : Lit × DataW H → Nat
  | (.string bytes, d) => bytes.length + uptoBulk d + 1
  | (_, d) => uptoBulk d + 1
 end
def uptoSmall : (H : Type) → List (DataW H) → Bool := fun _ ds => decide (uptoBulkAll ds ≤ 1048576)
def OpenSpec.upto (s : _root_.Go.ChangeSpec) : _root_.Go.OpenSpec := { _root_.Go.OpenSpec.ofChange s with cond := some uptoSmall }

/-- 'praxinoscopelaw14.MotionFetches', WHERE WHAT IT READS IS OF BULK AT MOST 1048576: true; the input reads as it did. -/
def motionFetchesUptoRow : OpenClaim := { program := "ythoklmhaljjjdaa", sum := "ed4e2e31335c0389adaa547a1ad1e7f5b46df5cef1b52d0ae16e7bc56efdcd7b", func := "praxinoscope/praxinoscopelaw14.MotionFetches", spec := "motionFetches", unfollowed := true, recurses := true, apart := false, narrowed := true }
def MotionFetchesUptoSaid : Prop := motionFetchesUptoRow.holds Try.pinned (OpenSpec.upto motionFetchesSpec)

/-- 'praxinoscopelaw14.MotionHalves', WHERE WHAT IT READS IS OF BULK AT MOST 1048576: true; the input reads as it did. -/
def motionHalvesUptoRow : OpenClaim := { program := "ythoklmhaljjjdaa", sum := "ed4e2e31335c0389adaa547a1ad1e7f5b46df5cef1b52d0ae16e7bc56efdcd7b", func := "praxinoscope/praxinoscopelaw14.MotionHalves", spec := "motionHalves", unfollowed := true, recurses := true, apart := false, narrowed := true }
def MotionHalvesUptoSaid : Prop := motionHalvesUptoRow.holds Try.pinned (OpenSpec.upto motionHalvesSpec)

/-- 'praxinoscopelaw14.MotionKnown', WHERE WHAT IT READS IS OF BULK AT MOST 1048576: true; the input reads as it did. -/
def motionKnownUptoRow : OpenClaim := { program := "ythoklmhaljjjdaa", sum := "ed4e2e31335c0389adaa547a1ad1e7f5b46df5cef1b52d0ae16e7bc56efdcd7b", func := "praxinoscope/praxinoscopelaw14.MotionKnown", spec := "motionKnown", unfollowed := true, recurses := true, apart := false, narrowed := true }
def MotionKnownUptoSaid : Prop := motionKnownUptoRow.holds Try.pinned (OpenSpec.upto motionKnownSpec)

/-- 'praxinoscopelaw14.MotionThere', WHERE WHAT IT READS IS OF BULK AT MOST 1048576: true; the input reads as it did. -/
def motionThereUptoRow : OpenClaim := { program := "ythoklmhaljjjdaa", sum := "ed4e2e31335c0389adaa547a1ad1e7f5b46df5cef1b52d0ae16e7bc56efdcd7b", func := "praxinoscope/praxinoscopelaw14.MotionThere", spec := "motionThere", unfollowed := true, recurses := true, apart := false, narrowed := true }
def MotionThereUptoSaid : Prop := motionThereUptoRow.holds Try.pinned (OpenSpec.upto motionThereSpec)

/-- 'praxinoscopelaw14.MotionShared', WHERE WHAT IT READS IS OF BULK AT MOST 1048576: true; the input reads as it did. -/
def motionSharedUptoRow : OpenClaim := { program := "ythoklmhaljjjdaa", sum := "ed4e2e31335c0389adaa547a1ad1e7f5b46df5cef1b52d0ae16e7bc56efdcd7b", func := "praxinoscope/praxinoscopelaw14.MotionShared", spec := "motionShared", unfollowed := true, recurses := true, apart := false, narrowed := true }
def MotionSharedUptoSaid : Prop := motionSharedUptoRow.holds Try.pinned (OpenSpec.upto motionSharedSpec)

/-- 'praxinoscopelaw14.MotionAlone', WHERE WHAT IT READS IS OF BULK AT MOST 1048576: true; the input reads as it did. -/
def motionAloneUptoRow : OpenClaim := { program := "ythoklmhaljjjdaa", sum := "ed4e2e31335c0389adaa547a1ad1e7f5b46df5cef1b52d0ae16e7bc56efdcd7b", func := "praxinoscope/praxinoscopelaw14.MotionAlone", spec := "motionAlone", unfollowed := true, recurses := true, apart := false, narrowed := true }
def MotionAloneUptoSaid : Prop := motionAloneUptoRow.holds Try.pinned (OpenSpec.upto motionAloneSpec)

end Rows
end Go.Proofs.Ythoklmhaljjjdaa
