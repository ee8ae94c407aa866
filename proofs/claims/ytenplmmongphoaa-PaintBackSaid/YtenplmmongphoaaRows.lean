/-
  No cell of these rows narrows 'for every input' (looked for: loops, veiled, ifaces, maps, wideKeys, modest, calm, conditions, laid).
  DERIVED. THE GIVEN ROWS OF THIS SEAT. 6 by the template 'for every input the law returns true; each argument reads behind the call as it read before'; 0 by the template 'total and deterministic' (their statements: YtenplmmongphoaaTotals.lean).
  GIVEN WITH THE SEED: the statements are not yours to turn. If you find one false, say at which input.
  Laid BY PROGRAM, IN A SANDBOX (cutbox-rows.mjs): the forced cells as the released guide's own fill.sh prints them over the translation 19a35bd2f942915c… (all of the seat's roots in one cut). By AI agents, Wed Nov 11 2026. No macro, syntax, notation, axiom, sorry.
-/
import Derived.Test.YtenplmmongphoaaChecked
import GoSem.Claim
import GoSem.ClaimJoined
import GoSem.ClaimMapViews
import Derived.JoinedTies
import Derived.KernelRfl
namespace Go.Proofs.Ytenplmmongphoaa
/- THE CELL 'sum', in the pinned program and in every row, IS THE sha256 OF THE DUMP (.gsa) THAT YtenplmmongphoaaProg.lean LOADS. Nothing in Lean hashes anything: it is a label: what it is worth is what the hold of that sum in a sandbox is worth. -/
noncomputable def Try.pinned : Pinned := { name := "ytenplmmongphoaa", sum := "19a35bd2f942915c9de01abb1e29a5b9604dfc5ada0d2d4631aa78ea30a5fb8e", checked := Try.checked }
namespace Rows
def none {H : Type} : Left H := { results := [], args := [] }

/-- 'praxinoscopelaw16.PaintAdds': WHATEVER THE INPUT: true; the input reads as it did. -/
def paintAddsSpec : ChangeSpec := { name := "paintAdds", fn := fun _ => fun
  | [d1, d2, d3] => { results := [.lit (.bool true)], args := [d1, d2, d3] }
  | _ => none }
def paintAddsRow : OpenClaim := { program := "ytenplmmongphoaa", sum := "19a35bd2f942915c9de01abb1e29a5b9604dfc5ada0d2d4631aa78ea30a5fb8e", func := "praxinoscope/praxinoscopelaw16.PaintAdds", spec := "paintAdds", unfollowed := true, recurses := true, apart := false }
def PaintAddsSaid : Prop := paintAddsRow.holds Try.pinned (OpenSpec.ofChange paintAddsSpec)

/-- ITS FALSE NEIGHBOUR: 'it returns false'. Refute it at one input. -/
def paintAddsWrong : ChangeSpec := { name := "paintAdds", fn := fun _ => fun
  | [d1, d2, d3] => { results := [.lit (.bool false)], args := [d1, d2, d3] }
  | _ => none }
def PaintAddsWrongFalsely : Prop := paintAddsRow.holds Try.pinned (OpenSpec.ofChange paintAddsWrong)

/-- 'praxinoscopelaw16.PaintLays': WHATEVER THE INPUT: true; the input reads as it did. -/
def paintLaysSpec : ChangeSpec := { name := "paintLays", fn := fun _ => fun
  | [d1, d2, d3, d4, d5, d6, d7, d8] => { results := [.lit (.bool true)], args := [d1, d2, d3, d4, d5, d6, d7, d8] }
  | _ => none }
def paintLaysRow : OpenClaim := { program := "ytenplmmongphoaa", sum := "19a35bd2f942915c9de01abb1e29a5b9604dfc5ada0d2d4631aa78ea30a5fb8e", func := "praxinoscope/praxinoscopelaw16.PaintLays", spec := "paintLays", inPlace := ["internal/bytealg.MakeNoZero"], unfollowed := true, recurses := true, apart := false }
def PaintLaysSaid : Prop := paintLaysRow.holds Try.pinned (OpenSpec.ofChange paintLaysSpec)

/-- ITS FALSE NEIGHBOUR: 'it returns false'. Refute it at one input. -/
def paintLaysWrong : ChangeSpec := { name := "paintLays", fn := fun _ => fun
  | [d1, d2, d3, d4, d5, d6, d7, d8] => { results := [.lit (.bool false)], args := [d1, d2, d3, d4, d5, d6, d7, d8] }
  | _ => none }
def PaintLaysWrongFalsely : Prop := paintLaysRow.holds Try.pinned (OpenSpec.ofChange paintLaysWrong)

/-- 'praxinoscopelaw16.PaintKnown': WHATEVER THE INPUT: true; the input reads as it did. -/
def paintKnownSpec : ChangeSpec := { name := "paintKnown", fn := fun _ => fun
  | [] => { results := [.lit (.bool true)], args := [] }
  | _ => none }
def paintKnownRow : OpenClaim := { program := "ytenplmmongphoaa", sum := "19a35bd2f942915c9de01abb1e29a5b9604dfc5ada0d2d4631aa78ea30a5fb8e", func := "praxinoscope/praxinoscopelaw16.PaintKnown", spec := "paintKnown", inPlace := ["internal/bytealg.MakeNoZero"], unfollowed := true, recurses := true, apart := false }
def PaintKnownSaid : Prop := paintKnownRow.holds Try.pinned (OpenSpec.ofChange paintKnownSpec)

/-- ITS FALSE NEIGHBOUR: 'it returns false'. Refute it at one input. -/
def paintKnownWrong : ChangeSpec := { name := "paintKnown", fn := fun _ => fun
  | [] => { results := [.lit (.bool false)], args := [] }
  | _ => none }
def PaintKnownWrongFalsely : Prop := paintKnownRow.holds Try.pinned (OpenSpec.ofChange paintKnownWrong)

/-- 'praxinoscopelaw16.PaintBack': WHATEVER THE INPUT: true; the input reads as it did. -/
def paintBackSpec : ChangeSpec := { name := "paintBack", fn := fun _ => fun
  | [d1, d2, d3, d4, d5, d6, d7, d8, d9] => { results := [.lit (.bool true)], args := [d1, d2, d3, d4, d5, d6, d7, d8, d9] }
  | _ => none }
def paintBackRow : OpenClaim := { program := "ytenplmmongphoaa", sum := "19a35bd2f942915c9de01abb1e29a5b9604dfc5ada0d2d4631aa78ea30a5fb8e", func := "praxinoscope/praxinoscopelaw16.PaintBack", spec := "paintBack", inPlace := ["internal/bytealg.MakeNoZero"], unfollowed := true, recurses := true, apart := false }
def PaintBackSaid : Prop := paintBackRow.holds Try.pinned (OpenSpec.ofChange paintBackSpec)

/-- ITS FALSE NEIGHBOUR: 'it returns false'. Refute it at one input. -/
def paintBackWrong : ChangeSpec := { name := "paintBack", fn := fun _ => fun
  | [d1, d2, d3, d4, d5, d6, d7, d8, d9] => { results := [.lit (.bool false)], args := [d1, d2, d3, d4, d5, d6, d7, d8, d9] }
  | _ => none }
def PaintBackWrongFalsely : Prop := paintBackRow.holds Try.pinned (OpenSpec.ofChange paintBackWrong)

/-- 'praxinoscopelaw16.PaintOnly': WHATEVER THE INPUT: true; the input reads as it did. -/
def paintOnlySpec : ChangeSpec := { name := "paintOnly", fn := fun _ => fun
  | [d1, d2, d3, d4, d5, d6, d7] => { results := [.lit (.bool true)], args := [d1, d2, d3, d4, d5, d6, d7] }
  | _ => none }
def paintOnlyRow : OpenClaim := { program := "ytenplmmongphoaa", sum := "19a35bd2f942915c9de01abb1e29a5b9604dfc5ada0d2d4631aa78ea30a5fb8e", func := "praxinoscope/praxinoscopelaw16.PaintOnly", spec := "paintOnly", unfollowed := true, recurses := true, apart := false }
def PaintOnlySaid : Prop := paintOnlyRow.holds Try.pinned (OpenSpec.ofChange paintOnlySpec)

/-- ITS FALSE NEIGHBOUR: 'it returns false'. Refute it at one input. -/
def paintOnlyWrong : ChangeSpec := { name := "paintOnly", fn := fun _ => fun
  | [d1, d2, d3, d4, d5, d6, d7] => { results := [.lit (.bool false)], args := [d1, d2, d3, d4, d5, d6, d7] }
  | _ => none }
def PaintOnlyWrongFalsely : Prop := paintOnlyRow.holds Try.pinned (OpenSpec.ofChange paintOnlyWrong)

/-- 'praxinoscopelaw16.PaintAll': WHATEVER THE INPUT: true; the input reads as it did. -/
def paintAllSpec : ChangeSpec := { name := "paintAll", fn := fun _ => fun
  | [d1, d2, d3, d4] => { results := [.lit (.bool true)], args := [d1, d2, d3, d4] }
  | _ => none }
def paintAllRow : OpenClaim := { program := "ytenplmmongphoaa", sum := "19a35bd2f942915c9de01abb1e29a5b9604dfc5ada0d2d4631aa78ea30a5fb8e", func := "praxinoscope/praxinoscopelaw16.PaintAll", spec := "paintAll", unfollowed := true, recurses := true, apart := false }
def PaintAllSaid : Prop := paintAllRow.holds Try.pinned (OpenSpec.ofChange paintAllSpec)

/-- ITS FALSE NEIGHBOUR: 'it returns false'. Refute it at one input. -/
def paintAllWrong : ChangeSpec := { name := "paintAll", fn := fun _ => fun
  | [d1, d2, d3, d4] => { results := [.lit (.bool false)], args := [d1, d2, d3, d4] }
  | _ => none }
def PaintAllWrongFalsely : Prop := paintAllRow.holds Try.pinned (OpenSpec.ofChange paintAllWrong)

/- THE SECOND FORM. 'bulk': how many values and letters a reading holds, each counted each time it is reached (what is shared counts as often as it is met; a slice's spare places count too). A statement '..UptoSaid' is the law's where the arguments, and the package variables that the reading takes, are together of bulk at most 1048576: NARROWER than '..Said'. Prove '..Said' where nothing that the law and all that it calls make is longer than what came in: it says more and counts as full. Else prove '..UptoSaid'. A law counts once. -/
mutual
def uptoBulk {H : Type} : DataW H → Nat
  | .lit (.string bytes) => bytes.length + 1
  | .lit _ => 1
  | .nil => 1
  | .ptr d => uptoBulk d + 1
  | .slice elems spare => uptoBulkAll elems + uptoBulkAll spare + 1
  | .agg parts => uptoBulkAll parts + 1
  | .iface _ d => uptoBulk d + 1
  | .map entries => uptoBulkEntries entries + 1
  | .held _ => 1
def uptoBulkAll {H : Type} : List (DataW H) → Nat
  | [] => 0
  | d :: r => uptoBulk d + uptoBulkAll r
def uptoBulkEntries {H : Type} : List (Lit × DataW H) → Nat
  | [] => 0
  | x :: r => uptoBulkEntry x + uptoBulkEntries r
def uptoBulkEntry {H : Type} : Lit × DataW H → Nat
  | (.string bytes, d) => bytes.length + uptoBulk d + 1
  | (_, d) => uptoBulk d + 1
 end
def uptoSmall : (H : Type) → List (DataW H) → Bool := fun _ ds => decide (uptoBulkAll ds ≤ 1048576)
def OpenSpec.upto (s : _root_.Go.ChangeSpec) : _root_.Go.OpenSpec := { _root_.Go.OpenSpec.ofChange s with cond := some uptoSmall }

/-- 'praxinoscopelaw16.PaintAdds', WHERE WHAT IT READS IS OF BULK AT MOST 1048576: true; the input reads as it did. -/
def paintAddsUptoRow : OpenClaim := { program := "ytenplmmongphoaa", sum := "19a35bd2f942915c9de01abb1e29a5b9604dfc5ada0d2d4631aa78ea30a5fb8e", func := "praxinoscope/praxinoscopelaw16.PaintAdds", spec := "paintAdds", unfollowed := true, recurses := true, apart := false, narrowed := true }
def PaintAddsUptoSaid : Prop := paintAddsUptoRow.holds Try.pinned (OpenSpec.upto paintAddsSpec)

/-- 'praxinoscopelaw16.PaintLays', WHERE WHAT IT READS IS OF BULK AT MOST 1048576: true; the input reads as it did. -/
def paintLaysUptoRow : OpenClaim := { program := "ytenplmmongphoaa", sum := "19a35bd2f942915c9de01abb1e29a5b9604dfc5ada0d2d4631aa78ea30a5fb8e", func := "praxinoscope/praxinoscopelaw16.PaintLays", spec := "paintLays", inPlace := ["internal/bytealg.MakeNoZero"], unfollowed := true, recurses := true, apart := false, narrowed := true }
def PaintLaysUptoSaid : Prop := paintLaysUptoRow.holds Try.pinned (OpenSpec.upto paintLaysSpec)

/-- 'praxinoscopelaw16.PaintKnown', WHERE WHAT IT READS IS OF BULK AT MOST 1048576: true; the input reads as it did. -/
def paintKnownUptoRow : OpenClaim := { program := "ytenplmmongphoaa", sum := "19a35bd2f942915c9de01abb1e29a5b9604dfc5ada0d2d4631aa78ea30a5fb8e", func := "praxinoscope/praxinoscopelaw16.PaintKnown", spec := "paintKnown", inPlace := ["internal/bytealg.MakeNoZero"], unfollowed := true, recurses := true, apart := false, narrowed := true }
def PaintKnownUptoSaid : Prop := paintKnownUptoRow.holds Try.pinned (OpenSpec.upto paintKnownSpec)

/-- 'praxinoscopelaw16.PaintBack', WHERE WHAT IT READS IS OF BULK AT MOST 1048576: true; the input reads as it did. -/
def paintBackUptoRow : OpenClaim := { program := "ytenplmmongphoaa", sum := "19a35bd2f942915c9de01abb1e29a5b9604dfc5ada0d2d4631aa78ea30a5fb8e", func := "praxinoscope/praxinoscopelaw16.PaintBack", spec := "paintBack", inPlace := ["internal/bytealg.MakeNoZero"], unfollowed := true, recurses := true, apart := false, narrowed := true }
def PaintBackUptoSaid : Prop := paintBackUptoRow.holds Try.pinned (OpenSpec.upto paintBackSpec)

/-- 'praxinoscopelaw16.PaintOnly', WHERE WHAT IT READS IS OF BULK AT MOST 1048576: true; the input reads as it did. -/
def paintOnlyUptoRow : OpenClaim := { program := "ytenplmmongphoaa", sum := "19a35bd2f942915c9de01abb1e29a5b9604dfc5ada0d2d4631aa78ea30a5fb8e", func := "praxinoscope/praxinoscopelaw16.PaintOnly", spec := "paintOnly", unfollowed := true, recurses := true, apart := false, narrowed := true }
def PaintOnlyUptoSaid : Prop := paintOnlyUptoRow.holds Try.pinned (OpenSpec.upto paintOnlySpec)

/-- 'praxinoscopelaw16.PaintAll', WHERE WHAT IT READS IS OF BULK AT MOST 1048576: true; the input reads as it did. -/
def paintAllUptoRow : OpenClaim := { program := "ytenplmmongphoaa", sum := "19a35bd2f942915c9de01abb1e29a5b9604dfc5ada0d2d4631aa78ea30a5fb8e", func := "praxinoscope/praxinoscopelaw16.PaintAll", spec := "paintAll", unfollowed := true, recurses := true, apart := false, narrowed := true }
def PaintAllUptoSaid : Prop := paintAllUptoRow.holds Try.pinned (OpenSpec.upto paintAllSpec)

end Rows
end Go.Proofs.Ytenplmmongphoaa
