/-
  DERIVED. GIVEN WITH THE SEED: THE CARDS: each row of YtlcaboddkcpgaaaDoorRows.lean that lists a variable, with what it lists TIED to the program's text (the seventh form; the later family's looks); each row that meets fmt, with fmt's text TOLD by the authors' own Lean function (tested against real Go, not proved from fmt's source: count such statements apart). THE CARD IS WHAT COUNTS. Prove the row's statement (the work); the ties are given (YtlcaboddkcpgaaaDoorTie.lean); close each card by the builder's one call (the guide's Derived/Test/ToyasCard.lean, 'card_holds'). Laid BY PROGRAM, IN A SANDBOX (cutbox-door.mjs). By AI agents, Wed Nov 11 2026. No macro, syntax, notation, axiom, sorry.
-/
import Derived.Test.YtlcaboddkcpgaaaDoorRows
import GoSem.ClaimSeven
namespace Go.Proofs.YtlcaboddkcpgaaaDoor
namespace Rows

/-- THE TIED CARD OF 'praxinoscopelaw17.PictureTells'. -/
def pictureTellsCard : Claim7 := { stood := { row := pictureTellsRow, standIns := [], harness := (true, "3dd4e059a6772919661cfc6e05f85f6375b395c280e788217b8ba82ae7159522"), looks := false }, kinds := [], alts := [], laidByText := true, laidKinds := [.data, .data, .data], laidTests := true, laidLooks := .later }
def PictureTellsCardSaid : Prop := Claim7.holds Tryd.pinned (.plain (OpenSpec.ofChange pictureTellsSpec)) pictureTellsCard

/-- THE TIED CARD OF 'praxinoscopelaw17.PictureReads'. -/
def pictureReadsCard : Claim7 := { stood := { row := pictureReadsRow, standIns := [], harness := (true, "3dd4e059a6772919661cfc6e05f85f6375b395c280e788217b8ba82ae7159522"), looks := false }, kinds := [], alts := [], laidByText := true, laidKinds := [.data, .data, .data], laidTests := true, laidLooks := .later }
def PictureReadsCardSaid : Prop := Claim7.holds Tryd.pinned (.plain (OpenSpec.ofChange pictureReadsSpec)) pictureReadsCard

/-- THE TIED CARD OF 'praxinoscopelaw17.PictureKnown'. -/
def pictureKnownCard : Claim7 := { stood := { row := pictureKnownRow, standIns := [], harness := (true, "3dd4e059a6772919661cfc6e05f85f6375b395c280e788217b8ba82ae7159522"), looks := false }, kinds := [], alts := [], laidByText := true, laidKinds := [.data, .data, .data], laidTests := true, laidLooks := .later }
def PictureKnownCardSaid : Prop := Claim7.holds Tryd.pinned (.plain (OpenSpec.ofChange pictureKnownSpec)) pictureKnownCard

/-- THE TIED CARD OF 'praxinoscopelaw17.PictureBack'. -/
def pictureBackCard : Claim7 := { stood := { row := pictureBackRow, standIns := [], harness := (true, "3dd4e059a6772919661cfc6e05f85f6375b395c280e788217b8ba82ae7159522"), looks := false }, kinds := [], alts := [], laidByText := true, laidKinds := [.data, .data, .data], laidTests := true, laidLooks := .later }
def PictureBackCardSaid : Prop := Claim7.holds Tryd.pinned (.plain (OpenSpec.ofChange pictureBackSpec)) pictureBackCard

/-- THE TIED CARD OF 'praxinoscopelaw17.PictureAgain'. -/
def pictureAgainCard : Claim7 := { stood := { row := pictureAgainRow, standIns := [], harness := (true, "3dd4e059a6772919661cfc6e05f85f6375b395c280e788217b8ba82ae7159522"), looks := false }, kinds := [], alts := [], laidByText := true, laidKinds := [.data, .data, .data], laidTests := true, laidLooks := .later }
def PictureAgainCardSaid : Prop := Claim7.holds Tryd.pinned (.plain (OpenSpec.ofChange pictureAgainSpec)) pictureAgainCard

/-- THE SECOND FORM's CARD OF 'praxinoscopelaw17.PictureTells'. -/
def pictureTellsUptoCard : Claim7 := { stood := { row := pictureTellsUptoRow, standIns := [], harness := (true, "3dd4e059a6772919661cfc6e05f85f6375b395c280e788217b8ba82ae7159522"), looks := false }, kinds := [], alts := [], laidByText := true, laidKinds := [.data, .data, .data], laidTests := true, laidLooks := .later }
def PictureTellsUptoCardSaid : Prop := Claim7.holds Tryd.pinned (.plain (OpenSpec.upto pictureTellsSpec)) pictureTellsUptoCard

/-- THE SECOND FORM's CARD OF 'praxinoscopelaw17.PictureReads'. -/
def pictureReadsUptoCard : Claim7 := { stood := { row := pictureReadsUptoRow, standIns := [], harness := (true, "3dd4e059a6772919661cfc6e05f85f6375b395c280e788217b8ba82ae7159522"), looks := false }, kinds := [], alts := [], laidByText := true, laidKinds := [.data, .data, .data], laidTests := true, laidLooks := .later }
def PictureReadsUptoCardSaid : Prop := Claim7.holds Tryd.pinned (.plain (OpenSpec.upto pictureReadsSpec)) pictureReadsUptoCard

/-- THE SECOND FORM's CARD OF 'praxinoscopelaw17.PictureKnown'. -/
def pictureKnownUptoCard : Claim7 := { stood := { row := pictureKnownUptoRow, standIns := [], harness := (true, "3dd4e059a6772919661cfc6e05f85f6375b395c280e788217b8ba82ae7159522"), looks := false }, kinds := [], alts := [], laidByText := true, laidKinds := [.data, .data, .data], laidTests := true, laidLooks := .later }
def PictureKnownUptoCardSaid : Prop := Claim7.holds Tryd.pinned (.plain (OpenSpec.upto pictureKnownSpec)) pictureKnownUptoCard

/-- THE SECOND FORM's CARD OF 'praxinoscopelaw17.PictureBack'. -/
def pictureBackUptoCard : Claim7 := { stood := { row := pictureBackUptoRow, standIns := [], harness := (true, "3dd4e059a6772919661cfc6e05f85f6375b395c280e788217b8ba82ae7159522"), looks := false }, kinds := [], alts := [], laidByText := true, laidKinds := [.data, .data, .data], laidTests := true, laidLooks := .later }
def PictureBackUptoCardSaid : Prop := Claim7.holds Tryd.pinned (.plain (OpenSpec.upto pictureBackSpec)) pictureBackUptoCard

/-- THE SECOND FORM's CARD OF 'praxinoscopelaw17.PictureAgain'. -/
def pictureAgainUptoCard : Claim7 := { stood := { row := pictureAgainUptoRow, standIns := [], harness := (true, "3dd4e059a6772919661cfc6e05f85f6375b395c280e788217b8ba82ae7159522"), looks := false }, kinds := [], alts := [], laidByText := true, laidKinds := [.data, .data, .data], laidTests := true, laidLooks := .later }
def PictureAgainUptoCardSaid : Prop := Claim7.holds Tryd.pinned (.plain (OpenSpec.upto pictureAgainSpec)) pictureAgainUptoCard
end Rows
end Go.Proofs.YtlcaboddkcpgaaaDoor
