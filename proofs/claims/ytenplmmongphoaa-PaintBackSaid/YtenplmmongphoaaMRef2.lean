/- motion: the reference's Fetch (praxinoscoperef14). -/
import Derived.Test.YtenplmmongphoaaMRef
namespace Go.Proofs.Ytenplmmongphoaa
open Go.RowKit Go.Shelf Go.Sort
set_option linter.unusedVariables false
end Go.Proofs.Ytenplmmongphoaa
