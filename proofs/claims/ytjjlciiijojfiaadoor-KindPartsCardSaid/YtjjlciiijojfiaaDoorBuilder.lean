/- strings.Builder: copyCheck and WriteByte (this dump's copyCheck has no panic's text, so the library's contract does not lie there). -/
import Derived.Test.YtjjlciiijojfiaaDoorShelf
import Derived.Lib.FrozenHead2
import Derived.Lib.OthersKept
import Derived.Shelf.Strings.BuilderK
import Derived.Test.YtjjlciiijojfiaaDoorKit
namespace Go.Proofs.YtjjlciiijojfiaaDoor
open Go.RowKit Go.Shelf
set_option linter.unusedVariables false
theorem Tryd.unsafe138b : Tryd.prog.underlying 138 = some .unsafePointer := by kernel_rfl

end Go.Proofs.YtjjlciiijojfiaaDoor
