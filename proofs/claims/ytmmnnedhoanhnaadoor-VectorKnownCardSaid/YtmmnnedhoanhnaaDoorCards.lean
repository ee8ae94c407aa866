/-
  DERIVED. GIVEN WITH THE SEED: THE CARDS: each row of YtmmnnedhoanhnaaDoorRows.lean that lists a variable, with what it lists TIED to the program's text (the seventh form; the later family's looks); each row that meets fmt, with fmt's text TOLD by the authors' own Lean function (tested against real Go, not proved from fmt's source: count such statements apart). THE CARD IS WHAT COUNTS. Prove the row's statement (the work); the ties are given (YtmmnnedhoanhnaaDoorTie.lean); close each card by the builder's one call (the guide's Derived/Test/ToyasCard.lean, 'card_holds'). Laid BY PROGRAM, IN A SANDBOX (cutbox-door.mjs). By AI agents, Wed Nov 11 2026. No macro, syntax, notation, axiom, sorry.
-/
import Derived.Test.YtmmnnedhoanhnaaDoorRows
import GoSem.ClaimSeven
namespace Go.Proofs.YtmmnnedhoanhnaaDoor
namespace Rows

/-- THE TIED CARD OF 'praxinoscopelaw06.VectorGets'. -/
def vectorGetsCard : Claim7 := { stood := { row := vectorGetsRow, standIns := [], harness := (true, "9812e9a12fbb7bbea64d8e7d6353f258c7519ce318d9d34620a82069f2da8fec"), looks := false }, kinds := [], alts := [], laidByText := true, laidKinds := [.data, .data, .pinned], laidTests := true, laidLooks := .later }
def VectorGetsCardSaid : Prop := Claim7.holds Tryd.pinned (.plain (OpenSpec.ofChange vectorGetsSpec)) vectorGetsCard

/-- THE TIED CARD OF 'praxinoscopelaw06.VectorTurns'. -/
def vectorTurnsCard : Claim7 := { stood := { row := vectorTurnsRow, standIns := [], harness := (true, "9812e9a12fbb7bbea64d8e7d6353f258c7519ce318d9d34620a82069f2da8fec"), looks := false }, kinds := [], alts := [], laidByText := true, laidKinds := [.data, .data, .pinned], laidTests := true, laidLooks := .later }
def VectorTurnsCardSaid : Prop := Claim7.holds Tryd.pinned (.plain (OpenSpec.ofChange vectorTurnsSpec)) vectorTurnsCard

/-- THE TIED CARD OF 'praxinoscopelaw06.VectorKnown'. -/
def vectorKnownCard : Claim7 := { stood := { row := vectorKnownRow, standIns := [], harness := (true, "9812e9a12fbb7bbea64d8e7d6353f258c7519ce318d9d34620a82069f2da8fec"), looks := false }, kinds := [], alts := [], laidByText := true, laidKinds := [.data, .data, .pinned], laidTests := true, laidLooks := .later }
def VectorKnownCardSaid : Prop := Claim7.holds Tryd.pinned (.plain (OpenSpec.ofChange vectorKnownSpec)) vectorKnownCard

/-- THE TIED CARD OF 'praxinoscopelaw06.VectorBack'. -/
def vectorBackCard : Claim7 := { stood := { row := vectorBackRow, standIns := [], harness := (true, "9812e9a12fbb7bbea64d8e7d6353f258c7519ce318d9d34620a82069f2da8fec"), looks := false }, kinds := [], alts := [], laidByText := true, laidKinds := [.data, .data, .pinned], laidTests := true, laidLooks := .later }
def VectorBackCardSaid : Prop := Claim7.holds Tryd.pinned (.plain (OpenSpec.ofChange vectorBackSpec)) vectorBackCard

/-- THE TIED CARD OF 'praxinoscopelaw06.VectorOne'. -/
def vectorOneCard : Claim7 := { stood := { row := vectorOneRow, standIns := [], harness := (true, "9812e9a12fbb7bbea64d8e7d6353f258c7519ce318d9d34620a82069f2da8fec"), looks := false }, kinds := [], alts := [], laidByText := true, laidKinds := [.data, .data, .pinned], laidTests := true, laidLooks := .later }
def VectorOneCardSaid : Prop := Claim7.holds Tryd.pinned (.plain (OpenSpec.ofChange vectorOneSpec)) vectorOneCard

/-- THE SECOND FORM's CARD OF 'praxinoscopelaw06.VectorGets'. -/
def vectorGetsUptoCard : Claim7 := { stood := { row := vectorGetsUptoRow, standIns := [], harness := (true, "9812e9a12fbb7bbea64d8e7d6353f258c7519ce318d9d34620a82069f2da8fec"), looks := false }, kinds := [], alts := [], laidByText := true, laidKinds := [.data, .data, .pinned], laidTests := true, laidLooks := .later }
def VectorGetsUptoCardSaid : Prop := Claim7.holds Tryd.pinned (.plain (OpenSpec.upto vectorGetsSpec)) vectorGetsUptoCard

/-- THE SECOND FORM's CARD OF 'praxinoscopelaw06.VectorTurns'. -/
def vectorTurnsUptoCard : Claim7 := { stood := { row := vectorTurnsUptoRow, standIns := [], harness := (true, "9812e9a12fbb7bbea64d8e7d6353f258c7519ce318d9d34620a82069f2da8fec"), looks := false }, kinds := [], alts := [], laidByText := true, laidKinds := [.data, .data, .pinned], laidTests := true, laidLooks := .later }
def VectorTurnsUptoCardSaid : Prop := Claim7.holds Tryd.pinned (.plain (OpenSpec.upto vectorTurnsSpec)) vectorTurnsUptoCard

/-- THE SECOND FORM's CARD OF 'praxinoscopelaw06.VectorKnown'. -/
def vectorKnownUptoCard : Claim7 := { stood := { row := vectorKnownUptoRow, standIns := [], harness := (true, "9812e9a12fbb7bbea64d8e7d6353f258c7519ce318d9d34620a82069f2da8fec"), looks := false }, kinds := [], alts := [], laidByText := true, laidKinds := [.data, .data, .pinned], laidTests := true, laidLooks := .later }
def VectorKnownUptoCardSaid : Prop := Claim7.holds Tryd.pinned (.plain (OpenSpec.upto vectorKnownSpec)) vectorKnownUptoCard

/-- THE SECOND FORM's CARD OF 'praxinoscopelaw06.VectorBack'. -/
def vectorBackUptoCard : Claim7 := { stood := { row := vectorBackUptoRow, standIns := [], harness := (true, "9812e9a12fbb7bbea64d8e7d6353f258c7519ce318d9d34620a82069f2da8fec"), looks := false }, kinds := [], alts := [], laidByText := true, laidKinds := [.data, .data, .pinned], laidTests := true, laidLooks := .later }
def VectorBackUptoCardSaid : Prop := Claim7.holds Tryd.pinned (.plain (OpenSpec.upto vectorBackSpec)) vectorBackUptoCard

/-- THE SECOND FORM's CARD OF 'praxinoscopelaw06.VectorOne'. -/
def vectorOneUptoCard : Claim7 := { stood := { row := vectorOneUptoRow, standIns := [], harness := (true, "9812e9a12fbb7bbea64d8e7d6353f258c7519ce318d9d34620a82069f2da8fec"), looks := false }, kinds := [], alts := [], laidByText := true, laidKinds := [.data, .data, .pinned], laidTests := true, laidLooks := .later }
def VectorOneUptoCardSaid : Prop := Claim7.holds Tryd.pinned (.plain (OpenSpec.upto vectorOneSpec)) vectorOneUptoCard
end Rows
end Go.Proofs.YtmmnnedhoanhnaaDoor
