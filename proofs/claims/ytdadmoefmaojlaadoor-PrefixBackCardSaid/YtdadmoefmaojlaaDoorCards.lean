/-
  DERIVED. GIVEN WITH THE SEED: THE CARDS: each row of YtdadmoefmaojlaaDoorRows.lean that lists a variable, with what it lists TIED to the program's text (the seventh form; the later family's looks); each row that meets fmt, with fmt's text TOLD by the authors' own Lean function (tested against real Go, not proved from fmt's source: count such statements apart). THE CARD IS WHAT COUNTS. Prove the row's statement (the work); the ties are given (YtdadmoefmaojlaaDoorTie.lean); close each card by the builder's one call (the guide's Derived/Test/ToyasCard.lean, 'card_holds'). Laid BY PROGRAM, IN A SANDBOX (cutbox-door.mjs). By AI agents, Wed Nov 11 2026. No macro, syntax, notation, axiom, sorry.
-/
import Derived.Test.YtdadmoefmaojlaaDoorRows
import GoSem.ClaimSeven
namespace Go.Proofs.YtdadmoefmaojlaaDoor
namespace Rows

/-- THE TIED CARD OF 'praxinoscopelaw03.PrefixTells'. -/
def prefixTellsCard : Claim7 := { stood := { row := prefixTellsRow, standIns := [], harness := (true, "7106249eee656f43feee67275b8797c346c9fd0564c9aaf49550091c153d9f2d"), looks := false }, kinds := [], alts := [], laidByText := true, laidKinds := [.data, .pinned], laidTests := true, laidLooks := .later }
def PrefixTellsCardSaid : Prop := Claim7.holds Tryd.pinned (.plain (OpenSpec.ofChange prefixTellsSpec)) prefixTellsCard

/-- THE TIED CARD OF 'praxinoscopelaw03.PrefixNone'. -/
def prefixNoneCard : Claim7 := { stood := { row := prefixNoneRow, standIns := [], harness := (true, "7106249eee656f43feee67275b8797c346c9fd0564c9aaf49550091c153d9f2d"), looks := false }, kinds := [], alts := [], laidByText := true, laidKinds := [.data, .pinned], laidTests := true, laidLooks := .later }
def PrefixNoneCardSaid : Prop := Claim7.holds Tryd.pinned (.plain (OpenSpec.ofChange prefixNoneSpec)) prefixNoneCard

/-- THE TIED CARD OF 'praxinoscopelaw03.PrefixKnown'. -/
def prefixKnownCard : Claim7 := { stood := { row := prefixKnownRow, standIns := [], harness := (true, "7106249eee656f43feee67275b8797c346c9fd0564c9aaf49550091c153d9f2d"), looks := false }, kinds := [], alts := [], laidByText := true, laidKinds := [.data, .pinned], laidTests := true, laidLooks := .later }
def PrefixKnownCardSaid : Prop := Claim7.holds Tryd.pinned (.plain (OpenSpec.ofChange prefixKnownSpec)) prefixKnownCard

/-- THE TIED CARD OF 'praxinoscopelaw03.PrefixBack'. -/
def prefixBackCard : Claim7 := { stood := { row := prefixBackRow, standIns := [], harness := (true, "7106249eee656f43feee67275b8797c346c9fd0564c9aaf49550091c153d9f2d"), looks := false }, kinds := [], alts := [], laidByText := true, laidKinds := [.data, .pinned], laidTests := true, laidLooks := .later }
def PrefixBackCardSaid : Prop := Claim7.holds Tryd.pinned (.plain (OpenSpec.ofChange prefixBackSpec)) prefixBackCard

/-- THE TIED CARD OF 'praxinoscopelaw03.PrefixOne'. -/
def prefixOneCard : Claim7 := { stood := { row := prefixOneRow, standIns := [], harness := (true, "7106249eee656f43feee67275b8797c346c9fd0564c9aaf49550091c153d9f2d"), looks := false }, kinds := [], alts := [], laidByText := true, laidKinds := [.data, .pinned], laidTests := true, laidLooks := .later }
def PrefixOneCardSaid : Prop := Claim7.holds Tryd.pinned (.plain (OpenSpec.ofChange prefixOneSpec)) prefixOneCard

/-- THE SECOND FORM's CARD OF 'praxinoscopelaw03.PrefixTells'. -/
def prefixTellsUptoCard : Claim7 := { stood := { row := prefixTellsUptoRow, standIns := [], harness := (true, "7106249eee656f43feee67275b8797c346c9fd0564c9aaf49550091c153d9f2d"), looks := false }, kinds := [], alts := [], laidByText := true, laidKinds := [.data, .pinned], laidTests := true, laidLooks := .later }
def PrefixTellsUptoCardSaid : Prop := Claim7.holds Tryd.pinned (.plain (OpenSpec.upto prefixTellsSpec)) prefixTellsUptoCard

/-- THE SECOND FORM's CARD OF 'praxinoscopelaw03.PrefixNone'. -/
def prefixNoneUptoCard : Claim7 := { stood := { row := prefixNoneUptoRow, standIns := [], harness := (true, "7106249eee656f43feee67275b8797c346c9fd0564c9aaf49550091c153d9f2d"), looks := false }, kinds := [], alts := [], laidByText := true, laidKinds := [.data, .pinned], laidTests := true, laidLooks := .later }
def PrefixNoneUptoCardSaid : Prop := Claim7.holds Tryd.pinned (.plain (OpenSpec.upto prefixNoneSpec)) prefixNoneUptoCard

/-- THE SECOND FORM's CARD OF 'praxinoscopelaw03.PrefixKnown'. -/
def prefixKnownUptoCard : Claim7 := { stood := { row := prefixKnownUptoRow, standIns := [], harness := (true, "7106249eee656f43feee67275b8797c346c9fd0564c9aaf49550091c153d9f2d"), looks := false }, kinds := [], alts := [], laidByText := true, laidKinds := [.data, .pinned], laidTests := true, laidLooks := .later }
def PrefixKnownUptoCardSaid : Prop := Claim7.holds Tryd.pinned (.plain (OpenSpec.upto prefixKnownSpec)) prefixKnownUptoCard

/-- THE SECOND FORM's CARD OF 'praxinoscopelaw03.PrefixBack'. -/
def prefixBackUptoCard : Claim7 := { stood := { row := prefixBackUptoRow, standIns := [], harness := (true, "7106249eee656f43feee67275b8797c346c9fd0564c9aaf49550091c153d9f2d"), looks := false }, kinds := [], alts := [], laidByText := true, laidKinds := [.data, .pinned], laidTests := true, laidLooks := .later }
def PrefixBackUptoCardSaid : Prop := Claim7.holds Tryd.pinned (.plain (OpenSpec.upto prefixBackSpec)) prefixBackUptoCard

/-- THE SECOND FORM's CARD OF 'praxinoscopelaw03.PrefixOne'. -/
def prefixOneUptoCard : Claim7 := { stood := { row := prefixOneUptoRow, standIns := [], harness := (true, "7106249eee656f43feee67275b8797c346c9fd0564c9aaf49550091c153d9f2d"), looks := false }, kinds := [], alts := [], laidByText := true, laidKinds := [.data, .pinned], laidTests := true, laidLooks := .later }
def PrefixOneUptoCardSaid : Prop := Claim7.holds Tryd.pinned (.plain (OpenSpec.upto prefixOneSpec)) prefixOneUptoCard
end Rows
end Go.Proofs.YtdadmoefmaojlaaDoor
