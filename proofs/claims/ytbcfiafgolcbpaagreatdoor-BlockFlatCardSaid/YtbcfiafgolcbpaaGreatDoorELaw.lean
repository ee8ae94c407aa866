/- The laws' helpers pair, gets, puts, awake (praxinoscopelaw08); the walks of CoeffKnown, CoeffGets, CoeffPuts. -/
import Derived.Test.YtbcfiafgolcbpaaGreatDoorEGet
import Derived.Test.YtbcfiafgolcbpaaGreatDoorEFact
namespace Go.Proofs.YtbcfiafgolcbpaaGreatDoor
open Go.RowKit Go.Shelf
set_option linter.unusedVariables false
end Go.Proofs.YtbcfiafgolcbpaaGreatDoor
