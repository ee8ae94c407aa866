/-
  No cell of these rows narrows 'for every input' (looked for: loops, veiled, ifaces, maps, wideKeys, modest, calm, conditions, laid).
  DERIVED. THE GIVEN ROWS OF THIS SEAT. 6 by the template 'for every input the law returns true; each argument reads behind the call as it read before'; 0 by the template 'total and deterministic' (their statements: YtjfekhjfdapilaaTotals.lean).
  GIVEN WITH THE SEED: the statements are not yours to turn. If you find one false, say at which input.
  Laid BY PROGRAM, IN A SANDBOX (cutbox-rows.mjs): the forced cells as the released guide's own fill.sh prints them over the translation a22cef1ef34f3dc4… (all of the seat's roots in one cut). By AI agents, Wed Nov 11 2026. No macro, syntax, notation, axiom, sorry.
-/
import Derived.Test.YtjfekhjfdapilaaChecked
import GoSem.Claim
import GoSem.ClaimJoined
import GoSem.ClaimMapViews
import Derived.JoinedTies
import Derived.KernelRfl
namespace Go.Proofs.Ytjfekhjfdapilaa
/- THE CELL 'sum', in the pinned program and in every row, IS THE sha256 OF THE DUMP (.gsa) THAT YtjfekhjfdapilaaProg.lean LOADS. Nothing in Lean hashes anything: it is a label: what it is worth is what the hold of that sum in a sandbox is worth. -/
noncomputable def Try.pinned : Pinned := { name := "ytjfekhjfdapilaa", sum := "a22cef1ef34f3dc40fed02a7e4e5729890e21e5846bdbd89cb8b8b7fb019a572", checked := Try.checked }
namespace Rows
def none {H : Type} : Left H := { results := [], args := [] }

/-- 'praxinoscopelaw09.ScanSpreads': WHATEVER THE INPUT: true; the input reads as it did. -/
def scanSpreadsSpec : ChangeSpec := { name := "scanSpreads", fn := fun _ => fun
  | [d1, d2, d3] => { results := [.lit (.bool true)], args := [d1, d2, d3] }
  | _ => none }
def scanSpreadsRow : OpenClaim := { program := "ytjfekhjfdapilaa", sum := "a22cef1ef34f3dc40fed02a7e4e5729890e21e5846bdbd89cb8b8b7fb019a572", func := "praxinoscope/praxinoscopelaw09.ScanSpreads", spec := "scanSpreads", unfollowed := true, recurses := true, apart := false }
def ScanSpreadsSaid : Prop := scanSpreadsRow.holds Try.pinned (OpenSpec.ofChange scanSpreadsSpec)

/-- ITS FALSE NEIGHBOUR: 'it returns false'. Refute it at one input. -/
def scanSpreadsWrong : ChangeSpec := { name := "scanSpreads", fn := fun _ => fun
  | [d1, d2, d3] => { results := [.lit (.bool false)], args := [d1, d2, d3] }
  | _ => none }
def ScanSpreadsWrongFalsely : Prop := scanSpreadsRow.holds Try.pinned (OpenSpec.ofChange scanSpreadsWrong)

/-- 'praxinoscopelaw09.ScanRuns': WHATEVER THE INPUT: true; the input reads as it did. -/
def scanRunsSpec : ChangeSpec := { name := "scanRuns", fn := fun _ => fun
  | [d1, d2] => { results := [.lit (.bool true)], args := [d1, d2] }
  | _ => none }
def scanRunsRow : OpenClaim := { program := "ytjfekhjfdapilaa", sum := "a22cef1ef34f3dc40fed02a7e4e5729890e21e5846bdbd89cb8b8b7fb019a572", func := "praxinoscope/praxinoscopelaw09.ScanRuns", spec := "scanRuns", unfollowed := true, recurses := true, apart := false }
def ScanRunsSaid : Prop := scanRunsRow.holds Try.pinned (OpenSpec.ofChange scanRunsSpec)

/-- ITS FALSE NEIGHBOUR: 'it returns false'. Refute it at one input. -/
def scanRunsWrong : ChangeSpec := { name := "scanRuns", fn := fun _ => fun
  | [d1, d2] => { results := [.lit (.bool false)], args := [d1, d2] }
  | _ => none }
def ScanRunsWrongFalsely : Prop := scanRunsRow.holds Try.pinned (OpenSpec.ofChange scanRunsWrong)

/-- 'praxinoscopelaw09.ScanKnown': WHATEVER THE INPUT: true; the input reads as it did. -/
def scanKnownSpec : ChangeSpec := { name := "scanKnown", fn := fun _ => fun
  | [] => { results := [.lit (.bool true)], args := [] }
  | _ => none }
def scanKnownRow : OpenClaim := { program := "ytjfekhjfdapilaa", sum := "a22cef1ef34f3dc40fed02a7e4e5729890e21e5846bdbd89cb8b8b7fb019a572", func := "praxinoscope/praxinoscopelaw09.ScanKnown", spec := "scanKnown", unfollowed := true, recurses := true, apart := false }
def ScanKnownSaid : Prop := scanKnownRow.holds Try.pinned (OpenSpec.ofChange scanKnownSpec)

/-- ITS FALSE NEIGHBOUR: 'it returns false'. Refute it at one input. -/
def scanKnownWrong : ChangeSpec := { name := "scanKnown", fn := fun _ => fun
  | [] => { results := [.lit (.bool false)], args := [] }
  | _ => none }
def ScanKnownWrongFalsely : Prop := scanKnownRow.holds Try.pinned (OpenSpec.ofChange scanKnownWrong)

/-- 'praxinoscopelaw09.ScanOrder': WHATEVER THE INPUT: true; the input reads as it did. -/
def scanOrderSpec : ChangeSpec := { name := "scanOrder", fn := fun _ => fun
  | [d1, d2] => { results := [.lit (.bool true)], args := [d1, d2] }
  | _ => none }
def scanOrderRow : OpenClaim := { program := "ytjfekhjfdapilaa", sum := "a22cef1ef34f3dc40fed02a7e4e5729890e21e5846bdbd89cb8b8b7fb019a572", func := "praxinoscope/praxinoscopelaw09.ScanOrder", spec := "scanOrder", unfollowed := true, recurses := true, apart := false }
def ScanOrderSaid : Prop := scanOrderRow.holds Try.pinned (OpenSpec.ofChange scanOrderSpec)

/-- ITS FALSE NEIGHBOUR: 'it returns false'. Refute it at one input. -/
def scanOrderWrong : ChangeSpec := { name := "scanOrder", fn := fun _ => fun
  | [d1, d2] => { results := [.lit (.bool false)], args := [d1, d2] }
  | _ => none }
def ScanOrderWrongFalsely : Prop := scanOrderRow.holds Try.pinned (OpenSpec.ofChange scanOrderWrong)

/-- 'praxinoscopelaw09.ScanBack': WHATEVER THE INPUT: true; the input reads as it did. -/
def scanBackSpec : ChangeSpec := { name := "scanBack", fn := fun _ => fun
  | [d1, d2, d3] => { results := [.lit (.bool true)], args := [d1, d2, d3] }
  | _ => none }
def scanBackRow : OpenClaim := { program := "ytjfekhjfdapilaa", sum := "a22cef1ef34f3dc40fed02a7e4e5729890e21e5846bdbd89cb8b8b7fb019a572", func := "praxinoscope/praxinoscopelaw09.ScanBack", spec := "scanBack", unfollowed := true, recurses := true, apart := false }
def ScanBackSaid : Prop := scanBackRow.holds Try.pinned (OpenSpec.ofChange scanBackSpec)

/-- ITS FALSE NEIGHBOUR: 'it returns false'. Refute it at one input. -/
def scanBackWrong : ChangeSpec := { name := "scanBack", fn := fun _ => fun
  | [d1, d2, d3] => { results := [.lit (.bool false)], args := [d1, d2, d3] }
  | _ => none }
def ScanBackWrongFalsely : Prop := scanBackRow.holds Try.pinned (OpenSpec.ofChange scanBackWrong)

/-- 'praxinoscopelaw09.ScanStarts': WHATEVER THE INPUT: true; the input reads as it did. -/
def scanStartsSpec : ChangeSpec := { name := "scanStarts", fn := fun _ => fun
  | [d] => { results := [.lit (.bool true)], args := [d] }
  | _ => none }
def scanStartsRow : OpenClaim := { program := "ytjfekhjfdapilaa", sum := "a22cef1ef34f3dc40fed02a7e4e5729890e21e5846bdbd89cb8b8b7fb019a572", func := "praxinoscope/praxinoscopelaw09.ScanStarts", spec := "scanStarts", unfollowed := true, recurses := true, apart := false }
def ScanStartsSaid : Prop := scanStartsRow.holds Try.pinned (OpenSpec.ofChange scanStartsSpec)

/-- ITS FALSE NEIGHBOUR: 'it returns false'. Refute it at one input. -/
def scanStartsWrong : ChangeSpec := { name := "scanStarts", fn := fun _ => fun
  | [d] => { results := [.lit (.bool false)], args := [d] }
  | _ => none }
def ScanStartsWrongFalsely : Prop := scanStartsRow.holds Try.pinned (OpenSpec.ofChange scanStartsWrong)

/- THE SECOND FORM. 'bulk': how many values and letters a reading holds, each counted each time it is reached (what is shared counts as often as it is met; a slice's spare places count too). A statement '..UptoSaid' is the law's where the arguments, and the package variables that the reading takes, are together of bulk at most 1048576: NARROWER than '..Said'. Prove '..Said' where nothing that the law and all that it calls make is longer than what came in: it says more and counts as full. Else prove '..UptoSaid'. A law counts once. -/
mutual
def uptoBulk {H : Type} : DataW H → Nat
  | .lit (.string bytes) => bytes.length + 1
  | .lit _ => 1
  | .nil => 1
  | .ptr d => uptoBulk d + 1
  | .slice elems spare => uptoBulkAll elems + uptoBulkAll spare + 1
  | .agg parts => uptoBulkAll parts + 1
  | .iface _ d => uptoBulk d + 1
  | .map entries => uptoBulkEntries entries + 1
  | .held _ => 1
def uptoBulkAll {H : Type} : List (DataW H) → Nat
  | [] => 0
  | d :: r => uptoBulk d + uptoBulkAll r
def uptoBulkEntries {H : Type} : List (Lit × DataW H) → Nat
  | [] => 0
  | x :: r => uptoBulkEntry x + uptoBulkEntries r
def uptoBulkEntry {H : Type} : Lit × DataW H → Nat
  | (.string bytes, d) => bytes.length + uptoBulk d + 1
  | (_, d) => uptoBulk d + 1
 end
def uptoSmall : (H : Type) → List (DataW H) → Bool := fun _ ds => decide (uptoBulkAll ds ≤ 1048576)
def OpenSpec.upto (s : _root_.Go.ChangeSpec) : _root_.Go.OpenSpec := { _root_.Go.OpenSpec.ofChange s with cond := some uptoSmall }

/-- 'praxinoscopelaw09.ScanSpreads', WHERE WHAT IT READS IS OF BULK AT MOST 1048576: true; the input reads as it did. -/
def scanSpreadsUptoRow : OpenClaim := { program := "ytjfekhjfdapilaa", sum := "a22cef1ef34f3dc40fed02a7e4e5729890e21e5846bdbd89cb8b8b7fb019a572", func := "praxinoscope/praxinoscopelaw09.ScanSpreads", spec := "scanSpreads", unfollowed := true, recurses := true, apart := false, narrowed := true }
def ScanSpreadsUptoSaid : Prop := scanSpreadsUptoRow.holds Try.pinned (OpenSpec.upto scanSpreadsSpec)

/-- 'praxinoscopelaw09.ScanRuns', WHERE WHAT IT READS IS OF BULK AT MOST 1048576: true; the input reads as it did. -/
def scanRunsUptoRow : OpenClaim := { program := "ytjfekhjfdapilaa", sum := "a22cef1ef34f3dc40fed02a7e4e5729890e21e5846bdbd89cb8b8b7fb019a572", func := "praxinoscope/praxinoscopelaw09.ScanRuns", spec := "scanRuns", unfollowed := true, recurses := true, apart := false, narrowed := true }
def ScanRunsUptoSaid : Prop := scanRunsUptoRow.holds Try.pinned (OpenSpec.upto scanRunsSpec)

/-- 'praxinoscopelaw09.ScanKnown', WHERE WHAT IT READS IS OF BULK AT MOST 1048576: true; the input reads as it did. -/
def scanKnownUptoRow : OpenClaim := { program := "ytjfekhjfdapilaa", sum := "a22cef1ef34f3dc40fed02a7e4e5729890e21e5846bdbd89cb8b8b7fb019a572", func := "praxinoscope/praxinoscopelaw09.ScanKnown", spec := "scanKnown", unfollowed := true, recurses := true, apart := false, narrowed := true }
def ScanKnownUptoSaid : Prop := scanKnownUptoRow.holds Try.pinned (OpenSpec.upto scanKnownSpec)

/-- 'praxinoscopelaw09.ScanOrder', WHERE WHAT IT READS IS OF BULK AT MOST 1048576: true; the input reads as it did. -/
def scanOrderUptoRow : OpenClaim := { program := "ytjfekhjfdapilaa", sum := "a22cef1ef34f3dc40fed02a7e4e5729890e21e5846bdbd89cb8b8b7fb019a572", func := "praxinoscope/praxinoscopelaw09.ScanOrder", spec := "scanOrder", unfollowed := true, recurses := true, apart := false, narrowed := true }
def ScanOrderUptoSaid : Prop := scanOrderUptoRow.holds Try.pinned (OpenSpec.upto scanOrderSpec)

/-- 'praxinoscopelaw09.ScanBack', WHERE WHAT IT READS IS OF BULK AT MOST 1048576: true; the input reads as it did. -/
def scanBackUptoRow : OpenClaim := { program := "ytjfekhjfdapilaa", sum := "a22cef1ef34f3dc40fed02a7e4e5729890e21e5846bdbd89cb8b8b7fb019a572", func := "praxinoscope/praxinoscopelaw09.ScanBack", spec := "scanBack", unfollowed := true, recurses := true, apart := false, narrowed := true }
def ScanBackUptoSaid : Prop := scanBackUptoRow.holds Try.pinned (OpenSpec.upto scanBackSpec)

/-- 'praxinoscopelaw09.ScanStarts', WHERE WHAT IT READS IS OF BULK AT MOST 1048576: true; the input reads as it did. -/
def scanStartsUptoRow : OpenClaim := { program := "ytjfekhjfdapilaa", sum := "a22cef1ef34f3dc40fed02a7e4e5729890e21e5846bdbd89cb8b8b7fb019a572", func := "praxinoscope/praxinoscopelaw09.ScanStarts", spec := "scanStarts", unfollowed := true, recurses := true, apart := false, narrowed := true }
def ScanStartsUptoSaid : Prop := scanStartsUptoRow.holds Try.pinned (OpenSpec.upto scanStartsSpec)

end Rows
end Go.Proofs.Ytjfekhjfdapilaa
