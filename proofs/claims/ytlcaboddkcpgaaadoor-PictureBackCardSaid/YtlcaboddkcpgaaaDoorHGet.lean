/- picture's functions, as the record that the laws are walked over. -/
import Derived.Test.YtlcaboddkcpgaaaDoorHPut
import Derived.Test.YtlcaboddkcpgaaaDoorHGot
namespace Go.Proofs.YtlcaboddkcpgaaaDoor
open Go.RowKit Go.Shelf
set_option linter.unusedVariables false

theorem pictureI : PictureI where
  check := fun t y {_ _ _ _} hB hn hk hl _ _ => by obtain ⟨a, cap, rfl, _, _⟩ := hB; exact hcheck_any t y a _ cap _ hl
  format := fun t y {_ _ _ _} hB hn hk hl _ hy => hformat_any t y hy _ _
  put := fun t y {_ _ _ _} hT hB hn hk hl _ _ => hPut_any t y hT hB hn hl
  get := fun hB hn hk hl x hx => hGet_any hB hn hl x hx.2

end Go.Proofs.YtlcaboddkcpgaaaDoor
