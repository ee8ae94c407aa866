/- strings.Builder: copyCheck and WriteByte (this dump's copyCheck has no panic's text, so the library's contract does not lie there). -/
import Derived.Test.YtichkoilhnkmkaaDoorShelf
import Derived.Lib.FrozenHead2
import Derived.Lib.OthersKept
import Derived.Shelf.Strings.BuilderK
import Derived.Test.YtichkoilhnkmkaaDoorKit
namespace Go.Proofs.YtichkoilhnkmkaaDoor
open Go.RowKit Go.Shelf
set_option linter.unusedVariables false
theorem Tryd.unsafe141b : Tryd.prog.underlying 141 = some .unsafePointer := by kernel_rfl

end Go.Proofs.YtichkoilhnkmkaaDoor
