/- The contract of (*queue.Queue).Bits. -/
import Derived.Test.YtmampneedmodeaaDoorQFrom
import Derived.Maps.AppendAt
namespace Go.Proofs.YtmampneedmodeaaDoor
open Go.RowKit Go.Shelf
set_option linter.unusedVariables false
attribute [local go_sem] Oper.semAt_some

/-- what Bits leaves: new memory with the bytes -/
def Told (w w' : World) (e : Ending) (zs : List UInt8) (at_ : Nat) : Prop := ∃ v, e = .returned (.tuple #[v, .int .i64 at_]) ∧ w'.ownsRow w.heap.size 5 1 v zs.length (u8s zs) ∧ Below w.heap.size w w'

end Go.Proofs.YtmampneedmodeaaDoor
