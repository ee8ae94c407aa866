/-
  No cell of these rows narrows 'for every input' (looked for: loops, veiled, ifaces, maps, wideKeys, modest, calm, conditions, laid).
  DERIVED. THE GIVEN ROWS OF THIS SEAT. 6 by the template 'for every input the law returns true; each argument reads behind the call as it read before'; 0 by the template 'total and deterministic' (their statements: YtfdlaiommpmliaaTotals.lean).
  GIVEN WITH THE SEED: the statements are not yours to turn. If you find one false, say at which input.
  Laid BY PROGRAM, IN A SANDBOX (cutbox-rows.mjs): the forced cells as the released guide's own fill.sh prints them over the translation defaa66f75b41325… (all of the seat's roots in one cut). By AI agents, Wed Nov 11 2026. No macro, syntax, notation, axiom, sorry.
-/
import Derived.Test.YtfdlaiommpmliaaChecked
import GoSem.Claim
import GoSem.ClaimJoined
import GoSem.ClaimMapViews
import Derived.JoinedTies
import Derived.KernelRfl
namespace Go.Proofs.Ytfdlaiommpmliaa
/- THE CELL 'sum', in the pinned program and in every row, IS THE sha256 OF THE DUMP (.gsa) THAT YtfdlaiommpmliaaProg.lean LOADS. Nothing in Lean hashes anything: it is a label: what it is worth is what the hold of that sum in a sandbox is worth. -/
noncomputable def Try.pinned : Pinned := { name := "ytfdlaiommpmliaa", sum := "defaa66f75b41325eb7be7bc4ce1a1741b058d5aa676f2393251bdef59996740", checked := Try.checked }
namespace Rows
def none {H : Type} : Left H := { results := [], args := [] }

/-- 'praxinoscopelaw01.BitsPens': WHATEVER THE INPUT: true; the input reads as it did. -/
def bitsPensSpec : ChangeSpec := { name := "bitsPens", fn := fun _ => fun
  | [d] => { results := [.lit (.bool true)], args := [d] }
  | _ => none }
def bitsPensRow : OpenClaim := { program := "ytfdlaiommpmliaa", sum := "defaa66f75b41325eb7be7bc4ce1a1741b058d5aa676f2393251bdef59996740", func := "praxinoscope/praxinoscopelaw01.BitsPens", spec := "bitsPens", unfollowed := true, recurses := true, apart := false }
def BitsPensSaid : Prop := bitsPensRow.holds Try.pinned (OpenSpec.ofChange bitsPensSpec)

/-- ITS FALSE NEIGHBOUR: 'it returns false'. Refute it at one input. -/
def bitsPensWrong : ChangeSpec := { name := "bitsPens", fn := fun _ => fun
  | [d] => { results := [.lit (.bool false)], args := [d] }
  | _ => none }
def BitsPensWrongFalsely : Prop := bitsPensRow.holds Try.pinned (OpenSpec.ofChange bitsPensWrong)

/-- 'praxinoscopelaw01.BitsNone': WHATEVER THE INPUT: true; the input reads as it did. -/
def bitsNoneSpec : ChangeSpec := { name := "bitsNone", fn := fun _ => fun
  | [d] => { results := [.lit (.bool true)], args := [d] }
  | _ => none }
def bitsNoneRow : OpenClaim := { program := "ytfdlaiommpmliaa", sum := "defaa66f75b41325eb7be7bc4ce1a1741b058d5aa676f2393251bdef59996740", func := "praxinoscope/praxinoscopelaw01.BitsNone", spec := "bitsNone", unfollowed := true, recurses := true, apart := false }
def BitsNoneSaid : Prop := bitsNoneRow.holds Try.pinned (OpenSpec.ofChange bitsNoneSpec)

/-- ITS FALSE NEIGHBOUR: 'it returns false'. Refute it at one input. -/
def bitsNoneWrong : ChangeSpec := { name := "bitsNone", fn := fun _ => fun
  | [d] => { results := [.lit (.bool false)], args := [d] }
  | _ => none }
def BitsNoneWrongFalsely : Prop := bitsNoneRow.holds Try.pinned (OpenSpec.ofChange bitsNoneWrong)

/-- 'praxinoscopelaw01.BitsKnown': WHATEVER THE INPUT: true; the input reads as it did. -/
def bitsKnownSpec : ChangeSpec := { name := "bitsKnown", fn := fun _ => fun
  | [] => { results := [.lit (.bool true)], args := [] }
  | _ => none }
def bitsKnownRow : OpenClaim := { program := "ytfdlaiommpmliaa", sum := "defaa66f75b41325eb7be7bc4ce1a1741b058d5aa676f2393251bdef59996740", func := "praxinoscope/praxinoscopelaw01.BitsKnown", spec := "bitsKnown", unfollowed := true, recurses := true, apart := false }
def BitsKnownSaid : Prop := bitsKnownRow.holds Try.pinned (OpenSpec.ofChange bitsKnownSpec)

/-- ITS FALSE NEIGHBOUR: 'it returns false'. Refute it at one input. -/
def bitsKnownWrong : ChangeSpec := { name := "bitsKnown", fn := fun _ => fun
  | [] => { results := [.lit (.bool false)], args := [] }
  | _ => none }
def BitsKnownWrongFalsely : Prop := bitsKnownRow.holds Try.pinned (OpenSpec.ofChange bitsKnownWrong)

/-- 'praxinoscopelaw01.BitsBack': WHATEVER THE INPUT: true; the input reads as it did. -/
def bitsBackSpec : ChangeSpec := { name := "bitsBack", fn := fun _ => fun
  | [d] => { results := [.lit (.bool true)], args := [d] }
  | _ => none }
def bitsBackRow : OpenClaim := { program := "ytfdlaiommpmliaa", sum := "defaa66f75b41325eb7be7bc4ce1a1741b058d5aa676f2393251bdef59996740", func := "praxinoscope/praxinoscopelaw01.BitsBack", spec := "bitsBack", unfollowed := true, recurses := true, apart := false }
def BitsBackSaid : Prop := bitsBackRow.holds Try.pinned (OpenSpec.ofChange bitsBackSpec)

/-- ITS FALSE NEIGHBOUR: 'it returns false'. Refute it at one input. -/
def bitsBackWrong : ChangeSpec := { name := "bitsBack", fn := fun _ => fun
  | [d] => { results := [.lit (.bool false)], args := [d] }
  | _ => none }
def BitsBackWrongFalsely : Prop := bitsBackRow.holds Try.pinned (OpenSpec.ofChange bitsBackWrong)

/-- 'praxinoscopelaw01.BitsFinds': WHATEVER THE INPUT: true; the input reads as it did. -/
def bitsFindsSpec : ChangeSpec := { name := "bitsFinds", fn := fun _ => fun
  | [d1, d2] => { results := [.lit (.bool true)], args := [d1, d2] }
  | _ => none }
def bitsFindsRow : OpenClaim := { program := "ytfdlaiommpmliaa", sum := "defaa66f75b41325eb7be7bc4ce1a1741b058d5aa676f2393251bdef59996740", func := "praxinoscope/praxinoscopelaw01.BitsFinds", spec := "bitsFinds", unfollowed := true, recurses := true, apart := false }
def BitsFindsSaid : Prop := bitsFindsRow.holds Try.pinned (OpenSpec.ofChange bitsFindsSpec)

/-- ITS FALSE NEIGHBOUR: 'it returns false'. Refute it at one input. -/
def bitsFindsWrong : ChangeSpec := { name := "bitsFinds", fn := fun _ => fun
  | [d1, d2] => { results := [.lit (.bool false)], args := [d1, d2] }
  | _ => none }
def BitsFindsWrongFalsely : Prop := bitsFindsRow.holds Try.pinned (OpenSpec.ofChange bitsFindsWrong)

/-- 'praxinoscopelaw01.BitsStarts': WHATEVER THE INPUT: true; the input reads as it did. -/
def bitsStartsSpec : ChangeSpec := { name := "bitsStarts", fn := fun _ => fun
  | [d1, d2, d3] => { results := [.lit (.bool true)], args := [d1, d2, d3] }
  | _ => none }
def bitsStartsRow : OpenClaim := { program := "ytfdlaiommpmliaa", sum := "defaa66f75b41325eb7be7bc4ce1a1741b058d5aa676f2393251bdef59996740", func := "praxinoscope/praxinoscopelaw01.BitsStarts", spec := "bitsStarts", unfollowed := true, recurses := true, apart := false }
def BitsStartsSaid : Prop := bitsStartsRow.holds Try.pinned (OpenSpec.ofChange bitsStartsSpec)

/-- ITS FALSE NEIGHBOUR: 'it returns false'. Refute it at one input. -/
def bitsStartsWrong : ChangeSpec := { name := "bitsStarts", fn := fun _ => fun
  | [d1, d2, d3] => { results := [.lit (.bool false)], args := [d1, d2, d3] }
  | _ => none }
def BitsStartsWrongFalsely : Prop := bitsStartsRow.holds Try.pinned (OpenSpec.ofChange bitsStartsWrong)

/- THE SECOND FORM. 'bulk': how many values and letters a reading holds, each counted each time it is reached (what is shared counts as often as it is met; a slice's spare places count too). A statement '..UptoSaid' is the law's where the arguments, and the package variables that the reading takes, are together of bulk at most 1048576: NARROWER than '..Said'. Prove '..Said' where nothing that the law and all that it calls make is longer than what came in: it says more and counts as full. Else prove '..UptoSaid'. A law counts once. -/
mutual
def uptoBulk {H : Type} : DataW H → Nat
  | .lit (.string bytes) => bytes.length + 1
  | .lit _ => 1
  | .nil => 1
  | .ptr d => uptoBulk d + 1
  | .slice elems spare => uptoBulkAll elems + uptoBulkAll spare + 1
  | .agg parts => uptoBulkAll parts + 1
  | .iface _ d => uptoBulk d + 1
  | .map entries => uptoBulkEntries entries + 1
  | .held _ => 1
def uptoBulkAll {H : Type} : List (DataW H) → Nat
  | [] => 0
  | d :: r => uptoBulk d + uptoBulkAll r
def uptoBulkEntries {H : Type} : List (Lit × DataW H) → Nat
  | [] => 0
  | x :: r => uptoBulkEntry x + uptoBulkEntries r
def uptoBulkEntry {H : Type} : Lit × DataW H → Nat
  | (.string bytes, d) => bytes.length + uptoBulk d + 1
  | (_, d) => uptoBulk d + 1
 end
def uptoSmall : (H : Type) → List (DataW H) → Bool := fun _ ds => decide (uptoBulkAll ds ≤ 1048576)
def OpenSpec.upto (s : _root_.Go.ChangeSpec) : _root_.Go.OpenSpec := { _root_.Go.OpenSpec.ofChange s with cond := some uptoSmall }

/-- 'praxinoscopelaw01.BitsPens', WHERE WHAT IT READS IS OF BULK AT MOST 1048576: true; the input reads as it did. -/
def bitsPensUptoRow : OpenClaim := { program := "ytfdlaiommpmliaa", sum := "defaa66f75b41325eb7be7bc4ce1a1741b058d5aa676f2393251bdef59996740", func := "praxinoscope/praxinoscopelaw01.BitsPens", spec := "bitsPens", unfollowed := true, recurses := true, apart := false, narrowed := true }
def BitsPensUptoSaid : Prop := bitsPensUptoRow.holds Try.pinned (OpenSpec.upto bitsPensSpec)

/-- 'praxinoscopelaw01.BitsNone', WHERE WHAT IT READS IS OF BULK AT MOST 1048576: true; the input reads as it did. -/
def bitsNoneUptoRow : OpenClaim := { program := "ytfdlaiommpmliaa", sum := "defaa66f75b41325eb7be7bc4ce1a1741b058d5aa676f2393251bdef59996740", func := "praxinoscope/praxinoscopelaw01.BitsNone", spec := "bitsNone", unfollowed := true, recurses := true, apart := false, narrowed := true }
def BitsNoneUptoSaid : Prop := bitsNoneUptoRow.holds Try.pinned (OpenSpec.upto bitsNoneSpec)

/-- 'praxinoscopelaw01.BitsKnown', WHERE WHAT IT READS IS OF BULK AT MOST 1048576: true; the input reads as it did. -/
def bitsKnownUptoRow : OpenClaim := { program := "ytfdlaiommpmliaa", sum := "defaa66f75b41325eb7be7bc4ce1a1741b058d5aa676f2393251bdef59996740", func := "praxinoscope/praxinoscopelaw01.BitsKnown", spec := "bitsKnown", unfollowed := true, recurses := true, apart := false, narrowed := true }
def BitsKnownUptoSaid : Prop := bitsKnownUptoRow.holds Try.pinned (OpenSpec.upto bitsKnownSpec)

/-- 'praxinoscopelaw01.BitsBack', WHERE WHAT IT READS IS OF BULK AT MOST 1048576: true; the input reads as it did. -/
def bitsBackUptoRow : OpenClaim := { program := "ytfdlaiommpmliaa", sum := "defaa66f75b41325eb7be7bc4ce1a1741b058d5aa676f2393251bdef59996740", func := "praxinoscope/praxinoscopelaw01.BitsBack", spec := "bitsBack", unfollowed := true, recurses := true, apart := false, narrowed := true }
def BitsBackUptoSaid : Prop := bitsBackUptoRow.holds Try.pinned (OpenSpec.upto bitsBackSpec)

/-- 'praxinoscopelaw01.BitsFinds', WHERE WHAT IT READS IS OF BULK AT MOST 1048576: true; the input reads as it did. -/
def bitsFindsUptoRow : OpenClaim := { program := "ytfdlaiommpmliaa", sum := "defaa66f75b41325eb7be7bc4ce1a1741b058d5aa676f2393251bdef59996740", func := "praxinoscope/praxinoscopelaw01.BitsFinds", spec := "bitsFinds", unfollowed := true, recurses := true, apart := false, narrowed := true }
def BitsFindsUptoSaid : Prop := bitsFindsUptoRow.holds Try.pinned (OpenSpec.upto bitsFindsSpec)

/-- 'praxinoscopelaw01.BitsStarts', WHERE WHAT IT READS IS OF BULK AT MOST 1048576: true; the input reads as it did. -/
def bitsStartsUptoRow : OpenClaim := { program := "ytfdlaiommpmliaa", sum := "defaa66f75b41325eb7be7bc4ce1a1741b058d5aa676f2393251bdef59996740", func := "praxinoscope/praxinoscopelaw01.BitsStarts", spec := "bitsStarts", unfollowed := true, recurses := true, apart := false, narrowed := true }
def BitsStartsUptoSaid : Prop := bitsStartsUptoRow.holds Try.pinned (OpenSpec.upto bitsStartsSpec)

end Rows
end Go.Proofs.Ytfdlaiommpmliaa
