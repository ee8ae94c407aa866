/-
  No cell of these rows narrows 'for every input' (looked for: loops, veiled, ifaces, maps, wideKeys, modest, calm, conditions, laid).
  DERIVED. THE GIVEN ROWS OF THIS SEAT. 5 by the template 'for every input the law returns true; each argument reads behind the call as it read before'; 0 by the template 'total and deterministic' (their statements: YtdpnmddjhlkbjaaTotals.lean).
  GIVEN WITH THE SEED: the statements are not yours to turn. If you find one false, say at which input.
  Laid BY PROGRAM, IN A SANDBOX (cutbox-rows.mjs): the forced cells as the released guide's own fill.sh prints them over the translation 11ab0c39053a98e3… (all of the seat's roots in one cut). By AI agents, Wed Nov 11 2026. No macro, syntax, notation, axiom, sorry.
-/
import Derived.Test.YtdpnmddjhlkbjaaChecked
import GoSem.Claim
import GoSem.ClaimJoined
import GoSem.ClaimMapViews
import Derived.JoinedTies
import Derived.KernelRfl
namespace Go.Proofs.Ytdpnmddjhlkbjaa
/- THE CELL 'sum', in the pinned program and in every row, IS THE sha256 OF THE DUMP (.gsa) THAT YtdpnmddjhlkbjaaProg.lean LOADS. Nothing in Lean hashes anything: it is a label: what it is worth is what the hold of that sum in a sandbox is worth. -/
noncomputable def Try.pinned : Pinned := { name := "ytdpnmddjhlkbjaa", sum := "11ab0c39053a98e32d11fbefef4d1b93b7f7eb133694e925e00cd7bb069baaf2", checked := Try.checked }
namespace Rows
def none {H : Type} : Left H := { results := [], args := [] }

/-- 'praxinoscopelaw15.LoopFilters': WHATEVER THE INPUT: true; the input reads as it did. -/
def loopFiltersSpec : ChangeSpec := { name := "loopFilters", fn := fun _ => fun
  | [d1, d2] => { results := [.lit (.bool true)], args := [d1, d2] }
  | _ => none }
def loopFiltersRow : OpenClaim := { program := "ytdpnmddjhlkbjaa", sum := "11ab0c39053a98e32d11fbefef4d1b93b7f7eb133694e925e00cd7bb069baaf2", func := "praxinoscope/praxinoscopelaw15.LoopFilters", spec := "loopFilters", apart := false }
def LoopFiltersSaid : Prop := loopFiltersRow.holds Try.pinned (OpenSpec.ofChange loopFiltersSpec)

/-- ITS FALSE NEIGHBOUR: 'it returns false'. Refute it at one input. -/
def loopFiltersWrong : ChangeSpec := { name := "loopFilters", fn := fun _ => fun
  | [d1, d2] => { results := [.lit (.bool false)], args := [d1, d2] }
  | _ => none }
def LoopFiltersWrongFalsely : Prop := loopFiltersRow.holds Try.pinned (OpenSpec.ofChange loopFiltersWrong)

/-- 'praxinoscopelaw15.LoopKnown': WHATEVER THE INPUT: true; the input reads as it did. -/
def loopKnownSpec : ChangeSpec := { name := "loopKnown", fn := fun _ => fun
  | [] => { results := [.lit (.bool true)], args := [] }
  | _ => none }
def loopKnownRow : OpenClaim := { program := "ytdpnmddjhlkbjaa", sum := "11ab0c39053a98e32d11fbefef4d1b93b7f7eb133694e925e00cd7bb069baaf2", func := "praxinoscope/praxinoscopelaw15.LoopKnown", spec := "loopKnown", apart := false }
def LoopKnownSaid : Prop := loopKnownRow.holds Try.pinned (OpenSpec.ofChange loopKnownSpec)

/-- ITS FALSE NEIGHBOUR: 'it returns false'. Refute it at one input. -/
def loopKnownWrong : ChangeSpec := { name := "loopKnown", fn := fun _ => fun
  | [] => { results := [.lit (.bool false)], args := [] }
  | _ => none }
def LoopKnownWrongFalsely : Prop := loopKnownRow.holds Try.pinned (OpenSpec.ofChange loopKnownWrong)

/-- 'praxinoscopelaw15.LoopTwice': WHATEVER THE INPUT: true; the input reads as it did. -/
def loopTwiceSpec : ChangeSpec := { name := "loopTwice", fn := fun _ => fun
  | [d] => { results := [.lit (.bool true)], args := [d] }
  | _ => none }
def loopTwiceRow : OpenClaim := { program := "ytdpnmddjhlkbjaa", sum := "11ab0c39053a98e32d11fbefef4d1b93b7f7eb133694e925e00cd7bb069baaf2", func := "praxinoscope/praxinoscopelaw15.LoopTwice", spec := "loopTwice", apart := false }
def LoopTwiceSaid : Prop := loopTwiceRow.holds Try.pinned (OpenSpec.ofChange loopTwiceSpec)

/-- ITS FALSE NEIGHBOUR: 'it returns false'. Refute it at one input. -/
def loopTwiceWrong : ChangeSpec := { name := "loopTwice", fn := fun _ => fun
  | [d] => { results := [.lit (.bool false)], args := [d] }
  | _ => none }
def LoopTwiceWrongFalsely : Prop := loopTwiceRow.holds Try.pinned (OpenSpec.ofChange loopTwiceWrong)

/-- 'praxinoscopelaw15.LoopBetween': WHATEVER THE INPUT: true; the input reads as it did. -/
def loopBetweenSpec : ChangeSpec := { name := "loopBetween", fn := fun _ => fun
  | [d] => { results := [.lit (.bool true)], args := [d] }
  | _ => none }
def loopBetweenRow : OpenClaim := { program := "ytdpnmddjhlkbjaa", sum := "11ab0c39053a98e32d11fbefef4d1b93b7f7eb133694e925e00cd7bb069baaf2", func := "praxinoscope/praxinoscopelaw15.LoopBetween", spec := "loopBetween", apart := false }
def LoopBetweenSaid : Prop := loopBetweenRow.holds Try.pinned (OpenSpec.ofChange loopBetweenSpec)

/-- ITS FALSE NEIGHBOUR: 'it returns false'. Refute it at one input. -/
def loopBetweenWrong : ChangeSpec := { name := "loopBetween", fn := fun _ => fun
  | [d] => { results := [.lit (.bool false)], args := [d] }
  | _ => none }
def LoopBetweenWrongFalsely : Prop := loopBetweenRow.holds Try.pinned (OpenSpec.ofChange loopBetweenWrong)

/-- 'praxinoscopelaw15.LoopTurned': WHATEVER THE INPUT: true; the input reads as it did. -/
def loopTurnedSpec : ChangeSpec := { name := "loopTurned", fn := fun _ => fun
  | [d1, d2] => { results := [.lit (.bool true)], args := [d1, d2] }
  | _ => none }
def loopTurnedRow : OpenClaim := { program := "ytdpnmddjhlkbjaa", sum := "11ab0c39053a98e32d11fbefef4d1b93b7f7eb133694e925e00cd7bb069baaf2", func := "praxinoscope/praxinoscopelaw15.LoopTurned", spec := "loopTurned", apart := false }
def LoopTurnedSaid : Prop := loopTurnedRow.holds Try.pinned (OpenSpec.ofChange loopTurnedSpec)

/-- ITS FALSE NEIGHBOUR: 'it returns false'. Refute it at one input. -/
def loopTurnedWrong : ChangeSpec := { name := "loopTurned", fn := fun _ => fun
  | [d1, d2] => { results := [.lit (.bool false)], args := [d1, d2] }
  | _ => none }
def LoopTurnedWrongFalsely : Prop := loopTurnedRow.holds Try.pinned (OpenSpec.ofChange loopTurnedWrong)

/- THE SECOND FORM. 'bulk': how many values and letters a reading holds, each counted each time it is reached (what is shared counts as often as it is met; a slice's spare places count too). A statement '..UptoSaid' is the law's where the arguments, and the package variables that the reading takes, are together of bulk at most 1048576: NARROWER than '..Said'. Prove '..Said' where nothing that the law and all that it calls make is longer than what came in: it says more and counts as full. Else prove '..UptoSaid'. A law counts once. -/
mutual
def uptoBulk {H : Type} : DataW H → Nat
  | .lit (.string bytes) => bytes.length + 1
  | .lit _ => 1
  | .nil => 1
  | .ptr d => uptoBulk d + 1
  | .slice elems spare => uptoBulkAll elems + uptoBulkAll spare + 1
  | .agg parts => uptoBulkAll parts + 1
  | .iface _ d => uptoBulk d + 1
  | .map entries => uptoBulkEntries entries + 1
  | .held _ => 1
def uptoBulkAll {H : Type} : List (DataW H) → Nat
  | [] => 0
  | d :: r => uptoBulk d + uptoBulkAll r
def uptoBulkEntries {H : Type} : List (Lit × DataW H) → Nat
  | [] => 0
  | x :: r => uptoBulkEntry x + uptoBulkEntries r
def uptoBulkEntry {H : Type} : Lit × DataW H → Nat
  | (.string bytes, d) => bytes.length + uptoBulk d + 1
  | (_, d) => uptoBulk d + 1
 end
def uptoSmall : (H : Type) → List (DataW H) → Bool := fun _ ds => decide (uptoBulkAll ds ≤ 1048576)
def OpenSpec.upto (s : _root_.Go.ChangeSpec) : _root_.Go.OpenSpec := { _root_.Go.OpenSpec.ofChange s with cond := some uptoSmall }

/-- 'praxinoscopelaw15.LoopFilters', WHERE WHAT IT READS IS OF BULK AT MOST 1048576: true; the input reads as it did. -/
def loopFiltersUptoRow : OpenClaim := { program := "ytdpnmddjhlkbjaa", sum := "11ab0c39053a98e32d11fbefef4d1b93b7f7eb133694e925e00cd7bb069baaf2", func := "praxinoscope/praxinoscopelaw15.LoopFilters", spec := "loopFilters", apart := false, narrowed := true }
def LoopFiltersUptoSaid : Prop := loopFiltersUptoRow.holds Try.pinned (OpenSpec.upto loopFiltersSpec)

/-- 'praxinoscopelaw15.LoopKnown', WHERE WHAT IT READS IS OF BULK AT MOST 1048576: true; the input reads as it did. -/
def loopKnownUptoRow : OpenClaim := { program := "ytdpnmddjhlkbjaa", sum := "11ab0c39053a98e32d11fbefef4d1b93b7f7eb133694e925e00cd7bb069baaf2", func := "praxinoscope/praxinoscopelaw15.LoopKnown", spec := "loopKnown", apart := false, narrowed := true }
def LoopKnownUptoSaid : Prop := loopKnownUptoRow.holds Try.pinned (OpenSpec.upto loopKnownSpec)

/-- 'praxinoscopelaw15.LoopTwice', WHERE WHAT IT READS IS OF BULK AT MOST 1048576: true; the input reads as it did. -/
def loopTwiceUptoRow : OpenClaim := { program := "ytdpnmddjhlkbjaa", sum := "11ab0c39053a98e32d11fbefef4d1b93b7f7eb133694e925e00cd7bb069baaf2", func := "praxinoscope/praxinoscopelaw15.LoopTwice", spec := "loopTwice", apart := false, narrowed := true }
def LoopTwiceUptoSaid : Prop := loopTwiceUptoRow.holds Try.pinned (OpenSpec.upto loopTwiceSpec)

/-- 'praxinoscopelaw15.LoopBetween', WHERE WHAT IT READS IS OF BULK AT MOST 1048576: true; the input reads as it did. -/
def loopBetweenUptoRow : OpenClaim := { program := "ytdpnmddjhlkbjaa", sum := "11ab0c39053a98e32d11fbefef4d1b93b7f7eb133694e925e00cd7bb069baaf2", func := "praxinoscope/praxinoscopelaw15.LoopBetween", spec := "loopBetween", apart := false, narrowed := true }
def LoopBetweenUptoSaid : Prop := loopBetweenUptoRow.holds Try.pinned (OpenSpec.upto loopBetweenSpec)

/-- 'praxinoscopelaw15.LoopTurned', WHERE WHAT IT READS IS OF BULK AT MOST 1048576: true; the input reads as it did. -/
def loopTurnedUptoRow : OpenClaim := { program := "ytdpnmddjhlkbjaa", sum := "11ab0c39053a98e32d11fbefef4d1b93b7f7eb133694e925e00cd7bb069baaf2", func := "praxinoscope/praxinoscopelaw15.LoopTurned", spec := "loopTurned", apart := false, narrowed := true }
def LoopTurnedUptoSaid : Prop := loopTurnedUptoRow.holds Try.pinned (OpenSpec.upto loopTurnedSpec)

end Rows
end Go.Proofs.Ytdpnmddjhlkbjaa
