/- The walk of CoeffBack (praxinoscopelaw08). -/
import Derived.Test.YtbcfiafgolcbpaaGreatDoorELaw
import Derived.Test.YtbcfiafgolcbpaaGreatDoorEFact
import Derived.Deep.RegionHeld3
namespace Go.Proofs.YtbcfiafgolcbpaaGreatDoor
open Go.RowKit Go.Shelf
set_option linter.unusedVariables false

theorem stands_of {zs : List UInt8} {s : ByteArray} (h1 : s.size ≤ 8 * zs.length) (h : ∀ j (hj : j < s.size), s[j] = UInt8.ofNat (48 + bt zs j)) : Stands zs 0 s := by
  refine ⟨by omega, fun i hi => ?_⟩
  have h2 : i < s.data.toList.length := by simpa using hi
  rw [List.getElem?_eq_getElem h2, Nat.zero_add, ← h i hi]
  simp
  rfl

abbrev BackS (w2 w' : World) (g : Nat) (r l : Int) : Prop := Below w2.heap.size w2 w' ∧ w'.cell? ⟨g, 0, none⟩ = some (.int .i64 r) ∧ w'.cell? ⟨g, 1, none⟩ = some (.int .i64 l)

end Go.Proofs.YtbcfiafgolcbpaaGreatDoor
