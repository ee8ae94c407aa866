/-
  NARROWER THAN 'FOR EVERY INPUT', by the rows' own cells (each row's printed sentence says how): VectorGets: laid · VectorTurns: laid · VectorKnown: laid · VectorBack: laid · VectorOne: laid.
  DERIVED. THE GIVEN ROWS OF THIS SEAT. 5 by the template 'for every input the law returns true; each argument reads behind the call as it read before'; 0 by the template 'total and deterministic' (their statements: YtmmnnedhoanhnaaDoorTotals.lean).
  GIVEN WITH THE SEED: the statements are not yours to turn. If you find one false, say at which input.
  Laid BY PROGRAM, IN A SANDBOX (cutbox-rows.mjs): the forced cells as the released guide's own fill.sh prints them over the translation be3342092b74400c… (all of the seat's roots in one cut). By AI agents, Wed Nov 11 2026. No macro, syntax, notation, axiom, sorry.
-/
import Derived.Test.YtmmnnedhoanhnaaDoorChecked
import GoSem.PinnedTables
import GoSem.Claim
import GoSem.ClaimJoined
import GoSem.ClaimMapViews
import Derived.JoinedTies
import Derived.KernelRfl
namespace Go.Proofs.YtmmnnedhoanhnaaDoor
/- THE CELL 'sum', in the pinned program and in every row, IS THE sha256 OF THE DUMP (.gsa) THAT YtmmnnedhoanhnaaDoorProg.lean LOADS. Nothing in Lean hashes anything: it is a label: what it is worth is what the hold of that sum in a sandbox is worth. -/
noncomputable def Tryd.pinned : Pinned := { name := "ytmmnnedhoanhnaadoor", sum := "be3342092b74400cbb29f0f146897ce5f416fec35bf6adae23a667b499244e34", checked := Tryd.checked }
namespace Rows
def none {H : Type} : Left H := { results := [], args := [] }

/- WHAT THE LISTED PACKAGE-LEVEL VARIABLES READ AS WHEN THE CALL BEGINS. Each datum BY PROGRAM (the guide's laid-datum.mjs) off the statement by which the dump's own 'gosem.cut.vars' lays the variable. In a bare row this is a premise. The card (YtmmnnedhoanhnaaDoorCards.lean) ties it to the program's text. -/
def laid_unicode_utf8_acceptRanges {H : Type} : DataW H := .agg [.agg [.lit (.int .u8 128), .lit (.int .u8 191)], .agg [.lit (.int .u8 160), .lit (.int .u8 191)], .agg [.lit (.int .u8 128), .lit (.int .u8 159)], .agg [.lit (.int .u8 144), .lit (.int .u8 191)], .agg [.lit (.int .u8 128), .lit (.int .u8 143)], .agg [.lit (.int .u8 0), .lit (.int .u8 0)], .agg [.lit (.int .u8 0), .lit (.int .u8 0)], .agg [.lit (.int .u8 0), .lit (.int .u8 0)], .agg [.lit (.int .u8 0), .lit (.int .u8 0)], .agg [.lit (.int .u8 0), .lit (.int .u8 0)], .agg [.lit (.int .u8 0), .lit (.int .u8 0)], .agg [.lit (.int .u8 0), .lit (.int .u8 0)], .agg [.lit (.int .u8 0), .lit (.int .u8 0)], .agg [.lit (.int .u8 0), .lit (.int .u8 0)], .agg [.lit (.int .u8 0), .lit (.int .u8 0)], .agg [.lit (.int .u8 0), .lit (.int .u8 0)]]
def laid_praxinoscope_vector_tails {H : Type} : DataW H := .agg [.lit (.string []), .lit (.string []), .lit (.string []), .lit (.string []), .lit (.string [49]), .lit (.string [48, 49]), .lit (.string [48, 48]), .lit (.string [49]), .lit (.string [48, 49, 49]), .lit (.string [48, 49, 48]), .lit (.string [48, 48, 49]), .lit (.string [48, 48, 48, 49]), .lit (.string [48, 48, 48, 48]), .lit (.string [49, 49, 49]), .lit (.string [49, 49, 48]), .lit (.string [49, 48, 49]), .lit (.string [49, 48, 48])]
/-- One of Go's own tables, pinned by name: the form's constant. -/
def laid_unicode_utf8_first : DataW Unit := Go.Pinned.utf8First

/-- 'praxinoscopelaw06.VectorGets': WHATEVER THE INPUT: true; the input reads as it did. -/
def vectorGetsSpec : ChangeSpec := { name := "vectorGets", fn := fun _ => fun
  | [d1, d2] => { results := [.lit (.bool true)], args := [d1, d2] }
  | _ => none }
def vectorGetsRow : OpenClaim := { program := "ytmmnnedhoanhnaadoor", sum := "be3342092b74400cbb29f0f146897ce5f416fec35bf6adae23a667b499244e34", func := "praxinoscope/praxinoscopelaw06.VectorGets", spec := "vectorGets", inPlace := ["internal/bytealg.IndexByteString", "internal/bytealg.IndexString"], unfollowed := true, recurses := true, named := ["praxinoscope/vector.tails", "unicode/utf8.first", "unicode/utf8.acceptRanges", "internal/bytealg.MaxLen"], apart := false, laid := [("unicode/utf8.acceptRanges", laid_unicode_utf8_acceptRanges), ("praxinoscope/vector.tails", laid_praxinoscope_vector_tails), ("unicode/utf8.first", laid_unicode_utf8_first)] }
def VectorGetsSaid : Prop := vectorGetsRow.holds Tryd.pinned (OpenSpec.ofChange vectorGetsSpec)

/-- ITS FALSE NEIGHBOUR: 'it returns false'. Refute it at one input. -/
def vectorGetsWrong : ChangeSpec := { name := "vectorGets", fn := fun _ => fun
  | [d1, d2] => { results := [.lit (.bool false)], args := [d1, d2] }
  | _ => none }
def VectorGetsWrongFalsely : Prop := vectorGetsRow.holds Tryd.pinned (OpenSpec.ofChange vectorGetsWrong)

/-- 'praxinoscopelaw06.VectorTurns': WHATEVER THE INPUT: true; the input reads as it did. -/
def vectorTurnsSpec : ChangeSpec := { name := "vectorTurns", fn := fun _ => fun
  | [d1, d2, d3, d4] => { results := [.lit (.bool true)], args := [d1, d2, d3, d4] }
  | _ => none }
def vectorTurnsRow : OpenClaim := { program := "ytmmnnedhoanhnaadoor", sum := "be3342092b74400cbb29f0f146897ce5f416fec35bf6adae23a667b499244e34", func := "praxinoscope/praxinoscopelaw06.VectorTurns", spec := "vectorTurns", inPlace := ["internal/bytealg.IndexByteString", "internal/bytealg.IndexString"], unfollowed := true, recurses := true, named := ["praxinoscope/vector.tails", "unicode/utf8.first", "unicode/utf8.acceptRanges", "internal/bytealg.MaxLen"], apart := false, laid := [("unicode/utf8.acceptRanges", laid_unicode_utf8_acceptRanges), ("praxinoscope/vector.tails", laid_praxinoscope_vector_tails), ("unicode/utf8.first", laid_unicode_utf8_first)] }
def VectorTurnsSaid : Prop := vectorTurnsRow.holds Tryd.pinned (OpenSpec.ofChange vectorTurnsSpec)

/-- ITS FALSE NEIGHBOUR: 'it returns false'. Refute it at one input. -/
def vectorTurnsWrong : ChangeSpec := { name := "vectorTurns", fn := fun _ => fun
  | [d1, d2, d3, d4] => { results := [.lit (.bool false)], args := [d1, d2, d3, d4] }
  | _ => none }
def VectorTurnsWrongFalsely : Prop := vectorTurnsRow.holds Tryd.pinned (OpenSpec.ofChange vectorTurnsWrong)

/-- 'praxinoscopelaw06.VectorKnown': WHATEVER THE INPUT: true; the input reads as it did. -/
def vectorKnownSpec : ChangeSpec := { name := "vectorKnown", fn := fun _ => fun
  | [] => { results := [.lit (.bool true)], args := [] }
  | _ => none }
def vectorKnownRow : OpenClaim := { program := "ytmmnnedhoanhnaadoor", sum := "be3342092b74400cbb29f0f146897ce5f416fec35bf6adae23a667b499244e34", func := "praxinoscope/praxinoscopelaw06.VectorKnown", spec := "vectorKnown", inPlace := ["internal/bytealg.IndexByteString", "internal/bytealg.IndexString"], unfollowed := true, recurses := true, named := ["praxinoscope/vector.tails", "unicode/utf8.first", "unicode/utf8.acceptRanges", "internal/bytealg.MaxLen"], apart := false, laid := [("unicode/utf8.acceptRanges", laid_unicode_utf8_acceptRanges), ("praxinoscope/vector.tails", laid_praxinoscope_vector_tails), ("unicode/utf8.first", laid_unicode_utf8_first)] }
def VectorKnownSaid : Prop := vectorKnownRow.holds Tryd.pinned (OpenSpec.ofChange vectorKnownSpec)

/-- ITS FALSE NEIGHBOUR: 'it returns false'. Refute it at one input. -/
def vectorKnownWrong : ChangeSpec := { name := "vectorKnown", fn := fun _ => fun
  | [] => { results := [.lit (.bool false)], args := [] }
  | _ => none }
def VectorKnownWrongFalsely : Prop := vectorKnownRow.holds Tryd.pinned (OpenSpec.ofChange vectorKnownWrong)

/-- 'praxinoscopelaw06.VectorBack': WHATEVER THE INPUT: true; the input reads as it did. -/
def vectorBackSpec : ChangeSpec := { name := "vectorBack", fn := fun _ => fun
  | [d1, d2, d3] => { results := [.lit (.bool true)], args := [d1, d2, d3] }
  | _ => none }
def vectorBackRow : OpenClaim := { program := "ytmmnnedhoanhnaadoor", sum := "be3342092b74400cbb29f0f146897ce5f416fec35bf6adae23a667b499244e34", func := "praxinoscope/praxinoscopelaw06.VectorBack", spec := "vectorBack", inPlace := ["internal/bytealg.IndexByteString", "internal/bytealg.IndexString"], unfollowed := true, recurses := true, named := ["praxinoscope/vector.tails", "unicode/utf8.first", "unicode/utf8.acceptRanges", "internal/bytealg.MaxLen"], apart := false, laid := [("unicode/utf8.acceptRanges", laid_unicode_utf8_acceptRanges), ("praxinoscope/vector.tails", laid_praxinoscope_vector_tails), ("unicode/utf8.first", laid_unicode_utf8_first)] }
def VectorBackSaid : Prop := vectorBackRow.holds Tryd.pinned (OpenSpec.ofChange vectorBackSpec)

/-- ITS FALSE NEIGHBOUR: 'it returns false'. Refute it at one input. -/
def vectorBackWrong : ChangeSpec := { name := "vectorBack", fn := fun _ => fun
  | [d1, d2, d3] => { results := [.lit (.bool false)], args := [d1, d2, d3] }
  | _ => none }
def VectorBackWrongFalsely : Prop := vectorBackRow.holds Tryd.pinned (OpenSpec.ofChange vectorBackWrong)

/-- 'praxinoscopelaw06.VectorOne': WHATEVER THE INPUT: true; the input reads as it did. -/
def vectorOneSpec : ChangeSpec := { name := "vectorOne", fn := fun _ => fun
  | [d1, d2] => { results := [.lit (.bool true)], args := [d1, d2] }
  | _ => none }
def vectorOneRow : OpenClaim := { program := "ytmmnnedhoanhnaadoor", sum := "be3342092b74400cbb29f0f146897ce5f416fec35bf6adae23a667b499244e34", func := "praxinoscope/praxinoscopelaw06.VectorOne", spec := "vectorOne", inPlace := ["internal/bytealg.IndexByteString", "internal/bytealg.IndexString"], unfollowed := true, recurses := true, named := ["praxinoscope/vector.tails", "unicode/utf8.first", "unicode/utf8.acceptRanges", "internal/bytealg.MaxLen"], apart := false, laid := [("unicode/utf8.acceptRanges", laid_unicode_utf8_acceptRanges), ("praxinoscope/vector.tails", laid_praxinoscope_vector_tails), ("unicode/utf8.first", laid_unicode_utf8_first)] }
def VectorOneSaid : Prop := vectorOneRow.holds Tryd.pinned (OpenSpec.ofChange vectorOneSpec)

/-- ITS FALSE NEIGHBOUR: 'it returns false'. Refute it at one input. -/
def vectorOneWrong : ChangeSpec := { name := "vectorOne", fn := fun _ => fun
  | [d1, d2] => { results := [.lit (.bool false)], args := [d1, d2] }
  | _ => none }
def VectorOneWrongFalsely : Prop := vectorOneRow.holds Tryd.pinned (OpenSpec.ofChange vectorOneWrong)

/- THE SECOND FORM. 'bulk': how many values and letters a reading holds, each counted each time it is reached (what is shared counts as often as it is met; a slice's spare places count too). A statement '..UptoSaid' is the law's where the arguments, and the package variables that the reading takes, are together of bulk at most 1048576: NARROWER than '..Said'. Prove '..Said' where nothing that the law and all that it calls make is longer than what came in: it says more and counts as full. Else prove '..UptoSaid'. A law counts once. -/
mutual
def uptoBulk {H : Type} : DataW H → Nat
  | .lit (.string bytes) => bytes.length + 1
  | .lit _ => 1
  | .nil => 1
  | .ptr d => uptoBulk d + 1
  | .slice elems spare => uptoBulkAll elems + uptoBulkAll spare + 1
  | .agg parts => uptoBulkAll parts + 1
  | .iface _ d => uptoBulk d + 1
  | .map entries => uptoBulkEntries entries + 1
  | .held _ => 1
def uptoBulkAll {H : Type} : List (DataW H) → Nat
  | [] => 0
  | d :: r => uptoBulk d + uptoBulkAll r
def uptoBulkEntries {H : Type} : List (Lit × DataW H) → Nat
  | [] => 0
  | x :: r => uptoBulkEntry x + uptoBulkEntries r
def uptoBulkEntry {H : Type} : Lit × DataW H → Nat
  | (.string bytes, d) => bytes.length + uptoBulk d + 1
  | (_, d) => uptoBulk d + 1
 end
def uptoSmall : (H : Type) → List (DataW H) → Bool := fun _ ds => decide (uptoBulkAll ds ≤ 1048576)
def OpenSpec.upto (s : _root_.Go.ChangeSpec) : _root_.Go.OpenSpec := { _root_.Go.OpenSpec.ofChange s with cond := some uptoSmall }

/-- 'praxinoscopelaw06.VectorGets', WHERE WHAT IT READS IS OF BULK AT MOST 1048576: true; the input reads as it did. -/
def vectorGetsUptoRow : OpenClaim := { program := "ytmmnnedhoanhnaadoor", sum := "be3342092b74400cbb29f0f146897ce5f416fec35bf6adae23a667b499244e34", func := "praxinoscope/praxinoscopelaw06.VectorGets", spec := "vectorGets", inPlace := ["internal/bytealg.IndexByteString", "internal/bytealg.IndexString"], unfollowed := true, recurses := true, named := ["praxinoscope/vector.tails", "unicode/utf8.first", "unicode/utf8.acceptRanges", "internal/bytealg.MaxLen"], apart := false, laid := [("unicode/utf8.acceptRanges", laid_unicode_utf8_acceptRanges), ("praxinoscope/vector.tails", laid_praxinoscope_vector_tails), ("unicode/utf8.first", laid_unicode_utf8_first)], narrowed := true }
def VectorGetsUptoSaid : Prop := vectorGetsUptoRow.holds Tryd.pinned (OpenSpec.upto vectorGetsSpec)

/-- 'praxinoscopelaw06.VectorTurns', WHERE WHAT IT READS IS OF BULK AT MOST 1048576: true; the input reads as it did. -/
def vectorTurnsUptoRow : OpenClaim := { program := "ytmmnnedhoanhnaadoor", sum := "be3342092b74400cbb29f0f146897ce5f416fec35bf6adae23a667b499244e34", func := "praxinoscope/praxinoscopelaw06.VectorTurns", spec := "vectorTurns", inPlace := ["internal/bytealg.IndexByteString", "internal/bytealg.IndexString"], unfollowed := true, recurses := true, named := ["praxinoscope/vector.tails", "unicode/utf8.first", "unicode/utf8.acceptRanges", "internal/bytealg.MaxLen"], apart := false, laid := [("unicode/utf8.acceptRanges", laid_unicode_utf8_acceptRanges), ("praxinoscope/vector.tails", laid_praxinoscope_vector_tails), ("unicode/utf8.first", laid_unicode_utf8_first)], narrowed := true }
def VectorTurnsUptoSaid : Prop := vectorTurnsUptoRow.holds Tryd.pinned (OpenSpec.upto vectorTurnsSpec)

/-- 'praxinoscopelaw06.VectorKnown', WHERE WHAT IT READS IS OF BULK AT MOST 1048576: true; the input reads as it did. -/
def vectorKnownUptoRow : OpenClaim := { program := "ytmmnnedhoanhnaadoor", sum := "be3342092b74400cbb29f0f146897ce5f416fec35bf6adae23a667b499244e34", func := "praxinoscope/praxinoscopelaw06.VectorKnown", spec := "vectorKnown", inPlace := ["internal/bytealg.IndexByteString", "internal/bytealg.IndexString"], unfollowed := true, recurses := true, named := ["praxinoscope/vector.tails", "unicode/utf8.first", "unicode/utf8.acceptRanges", "internal/bytealg.MaxLen"], apart := false, laid := [("unicode/utf8.acceptRanges", laid_unicode_utf8_acceptRanges), ("praxinoscope/vector.tails", laid_praxinoscope_vector_tails), ("unicode/utf8.first", laid_unicode_utf8_first)], narrowed := true }
def VectorKnownUptoSaid : Prop := vectorKnownUptoRow.holds Tryd.pinned (OpenSpec.upto vectorKnownSpec)

/-- 'praxinoscopelaw06.VectorBack', WHERE WHAT IT READS IS OF BULK AT MOST 1048576: true; the input reads as it did. -/
def vectorBackUptoRow : OpenClaim := { program := "ytmmnnedhoanhnaadoor", sum := "be3342092b74400cbb29f0f146897ce5f416fec35bf6adae23a667b499244e34", func := "praxinoscope/praxinoscopelaw06.VectorBack", spec := "vectorBack", inPlace := ["internal/bytealg.IndexByteString", "internal/bytealg.IndexString"], unfollowed := true, recurses := true, named := ["praxinoscope/vector.tails", "unicode/utf8.first", "unicode/utf8.acceptRanges", "internal/bytealg.MaxLen"], apart := false, laid := [("unicode/utf8.acceptRanges", laid_unicode_utf8_acceptRanges), ("praxinoscope/vector.tails", laid_praxinoscope_vector_tails), ("unicode/utf8.first", laid_unicode_utf8_first)], narrowed := true }
def VectorBackUptoSaid : Prop := vectorBackUptoRow.holds Tryd.pinned (OpenSpec.upto vectorBackSpec)

/-- 'praxinoscopelaw06.VectorOne', WHERE WHAT IT READS IS OF BULK AT MOST 1048576: true; the input reads as it did. -/
def vectorOneUptoRow : OpenClaim := { program := "ytmmnnedhoanhnaadoor", sum := "be3342092b74400cbb29f0f146897ce5f416fec35bf6adae23a667b499244e34", func := "praxinoscope/praxinoscopelaw06.VectorOne", spec := "vectorOne", inPlace := ["internal/bytealg.IndexByteString", "internal/bytealg.IndexString"], unfollowed := true, recurses := true, named := ["praxinoscope/vector.tails", "unicode/utf8.first", "unicode/utf8.acceptRanges", "internal/bytealg.MaxLen"], apart := false, laid := [("unicode/utf8.acceptRanges", laid_unicode_utf8_acceptRanges), ("praxinoscope/vector.tails", laid_praxinoscope_vector_tails), ("unicode/utf8.first", laid_unicode_utf8_first)], narrowed := true }
def VectorOneUptoSaid : Prop := vectorOneUptoRow.holds Tryd.pinned (OpenSpec.upto vectorOneSpec)

end Rows
end Go.Proofs.YtmmnnedhoanhnaaDoor
