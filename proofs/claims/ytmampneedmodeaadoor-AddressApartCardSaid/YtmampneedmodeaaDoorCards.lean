/-
  DERIVED. GIVEN WITH THE SEED: THE CARDS: each row of YtmampneedmodeaaDoorRows.lean that lists a variable, with what it lists TIED to the program's text (the seventh form; the later family's looks); each row that meets fmt, with fmt's text TOLD by the authors' own Lean function (tested against real Go, not proved from fmt's source: count such statements apart). THE CARD IS WHAT COUNTS. Prove the row's statement (the work); the ties are given (YtmampneedmodeaaDoorTie.lean); close each card by the builder's one call (the guide's Derived/Test/ToyasCard.lean, 'card_holds'). Laid BY PROGRAM, IN A SANDBOX (cutbox-door.mjs). By AI agents, Wed Nov 11 2026. No macro, syntax, notation, axiom, sorry.
-/
import Derived.Test.YtmampneedmodeaaDoorRows
import GoSem.ClaimSeven
namespace Go.Proofs.YtmampneedmodeaaDoor
namespace Rows

/-- THE TIED CARD OF 'praxinoscopelaw04.AddressGets'. -/
def addressGetsCard : Claim7 := { stood := { row := addressGetsRow, standIns := [], harness := (true, "3c4afd7e6ac51d69b41f253c3317fddfad634b2b7939c704e70fa0613b1e5b97"), looks := false }, kinds := [], alts := [], laidByText := true, laidKinds := [.data, .data, .data], laidTests := true, laidLooks := .later }
def AddressGetsCardSaid : Prop := Claim7.holds Tryd.pinned (.plain (OpenSpec.ofChange addressGetsSpec)) addressGetsCard

/-- THE TIED CARD OF 'praxinoscopelaw04.AddressPuts'. -/
def addressPutsCard : Claim7 := { stood := { row := addressPutsRow, standIns := [], harness := (true, "3c4afd7e6ac51d69b41f253c3317fddfad634b2b7939c704e70fa0613b1e5b97"), looks := false }, kinds := [], alts := [], laidByText := true, laidKinds := [.data, .data, .data], laidTests := true, laidLooks := .later }
def AddressPutsCardSaid : Prop := Claim7.holds Tryd.pinned (.plain (OpenSpec.ofChange addressPutsSpec)) addressPutsCard

/-- THE TIED CARD OF 'praxinoscopelaw04.AddressKnown'. -/
def addressKnownCard : Claim7 := { stood := { row := addressKnownRow, standIns := [], harness := (true, "3c4afd7e6ac51d69b41f253c3317fddfad634b2b7939c704e70fa0613b1e5b97"), looks := false }, kinds := [], alts := [], laidByText := true, laidKinds := [.data, .data, .data], laidTests := true, laidLooks := .later }
def AddressKnownCardSaid : Prop := Claim7.holds Tryd.pinned (.plain (OpenSpec.ofChange addressKnownSpec)) addressKnownCard

/-- THE TIED CARD OF 'praxinoscopelaw04.AddressBack'. -/
def addressBackCard : Claim7 := { stood := { row := addressBackRow, standIns := [], harness := (true, "3c4afd7e6ac51d69b41f253c3317fddfad634b2b7939c704e70fa0613b1e5b97"), looks := false }, kinds := [], alts := [], laidByText := true, laidKinds := [.data, .data, .data], laidTests := true, laidLooks := .later }
def AddressBackCardSaid : Prop := Claim7.holds Tryd.pinned (.plain (OpenSpec.ofChange addressBackSpec)) addressBackCard

/-- THE TIED CARD OF 'praxinoscopelaw04.AddressApart'. -/
def addressApartCard : Claim7 := { stood := { row := addressApartRow, standIns := [], harness := (true, "3c4afd7e6ac51d69b41f253c3317fddfad634b2b7939c704e70fa0613b1e5b97"), looks := false }, kinds := [], alts := [], laidByText := true, laidKinds := [.data, .data, .data], laidTests := true, laidLooks := .later }
def AddressApartCardSaid : Prop := Claim7.holds Tryd.pinned (.plain (OpenSpec.ofChange addressApartSpec)) addressApartCard

/-- THE TIED CARD OF 'praxinoscopelaw04.AddressWalk'. -/
def addressWalkCard : Claim7 := { stood := { row := addressWalkRow, standIns := [], harness := (true, "3c4afd7e6ac51d69b41f253c3317fddfad634b2b7939c704e70fa0613b1e5b97"), looks := false }, kinds := [], alts := [], laidByText := true, laidKinds := [.data, .data, .data], laidTests := true, laidLooks := .later }
def AddressWalkCardSaid : Prop := Claim7.holds Tryd.pinned (.plain (OpenSpec.ofChange addressWalkSpec)) addressWalkCard

/-- THE SECOND FORM's CARD OF 'praxinoscopelaw04.AddressGets'. -/
def addressGetsUptoCard : Claim7 := { stood := { row := addressGetsUptoRow, standIns := [], harness := (true, "3c4afd7e6ac51d69b41f253c3317fddfad634b2b7939c704e70fa0613b1e5b97"), looks := false }, kinds := [], alts := [], laidByText := true, laidKinds := [.data, .data, .data], laidTests := true, laidLooks := .later }
def AddressGetsUptoCardSaid : Prop := Claim7.holds Tryd.pinned (.plain (OpenSpec.upto addressGetsSpec)) addressGetsUptoCard

/-- THE SECOND FORM's CARD OF 'praxinoscopelaw04.AddressPuts'. -/
def addressPutsUptoCard : Claim7 := { stood := { row := addressPutsUptoRow, standIns := [], harness := (true, "3c4afd7e6ac51d69b41f253c3317fddfad634b2b7939c704e70fa0613b1e5b97"), looks := false }, kinds := [], alts := [], laidByText := true, laidKinds := [.data, .data, .data], laidTests := true, laidLooks := .later }
def AddressPutsUptoCardSaid : Prop := Claim7.holds Tryd.pinned (.plain (OpenSpec.upto addressPutsSpec)) addressPutsUptoCard

/-- THE SECOND FORM's CARD OF 'praxinoscopelaw04.AddressKnown'. -/
def addressKnownUptoCard : Claim7 := { stood := { row := addressKnownUptoRow, standIns := [], harness := (true, "3c4afd7e6ac51d69b41f253c3317fddfad634b2b7939c704e70fa0613b1e5b97"), looks := false }, kinds := [], alts := [], laidByText := true, laidKinds := [.data, .data, .data], laidTests := true, laidLooks := .later }
def AddressKnownUptoCardSaid : Prop := Claim7.holds Tryd.pinned (.plain (OpenSpec.upto addressKnownSpec)) addressKnownUptoCard

/-- THE SECOND FORM's CARD OF 'praxinoscopelaw04.AddressBack'. -/
def addressBackUptoCard : Claim7 := { stood := { row := addressBackUptoRow, standIns := [], harness := (true, "3c4afd7e6ac51d69b41f253c3317fddfad634b2b7939c704e70fa0613b1e5b97"), looks := false }, kinds := [], alts := [], laidByText := true, laidKinds := [.data, .data, .data], laidTests := true, laidLooks := .later }
def AddressBackUptoCardSaid : Prop := Claim7.holds Tryd.pinned (.plain (OpenSpec.upto addressBackSpec)) addressBackUptoCard

/-- THE SECOND FORM's CARD OF 'praxinoscopelaw04.AddressApart'. -/
def addressApartUptoCard : Claim7 := { stood := { row := addressApartUptoRow, standIns := [], harness := (true, "3c4afd7e6ac51d69b41f253c3317fddfad634b2b7939c704e70fa0613b1e5b97"), looks := false }, kinds := [], alts := [], laidByText := true, laidKinds := [.data, .data, .data], laidTests := true, laidLooks := .later }
def AddressApartUptoCardSaid : Prop := Claim7.holds Tryd.pinned (.plain (OpenSpec.upto addressApartSpec)) addressApartUptoCard

/-- THE SECOND FORM's CARD OF 'praxinoscopelaw04.AddressWalk'. -/
def addressWalkUptoCard : Claim7 := { stood := { row := addressWalkUptoRow, standIns := [], harness := (true, "3c4afd7e6ac51d69b41f253c3317fddfad634b2b7939c704e70fa0613b1e5b97"), looks := false }, kinds := [], alts := [], laidByText := true, laidKinds := [.data, .data, .data], laidTests := true, laidLooks := .later }
def AddressWalkUptoCardSaid : Prop := Claim7.holds Tryd.pinned (.plain (OpenSpec.upto addressWalkSpec)) addressWalkUptoCard
end Rows
end Go.Proofs.YtmampneedmodeaaDoor
