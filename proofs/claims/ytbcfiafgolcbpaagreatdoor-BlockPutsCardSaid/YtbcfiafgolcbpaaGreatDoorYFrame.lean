/- For the frames of laws that take a block (praxinoscopelaw12): what reads as a row of pairs is a slice. -/
import Derived.Test.YtbcfiafgolcbpaaGreatDoorYLaw
namespace Go.Proofs.YtbcfiafgolcbpaaGreatDoor
open Go.RowKit Go.Shelf
set_option linter.unusedVariables false
theorem slice_of_trod {H : Type} {enc : TypeId × Value → H} {W : World} {fuel : Nat} {v : Value} {x : DataW H × List MemPlace} (h : DataW.trod enc Tryz.prog W 0 (fun _ => true) true fuel 25 [v] = some x) : ∃ a len cap, v = .slice a len cap := by
  rcases Go.Deep.open_slice_pairs Tryz.underlying25z Tryz.underlying66 (by kernel_rfl) rfl rfl (by kernel_rfl) (by kernel_rfl) h with ⟨hcs, _⟩ | ⟨a', len', cap', m, n, V0, V1, D0, D1, P0, P1, hcs, _⟩
  · simp at hcs
    exact ⟨_, _, _, hcs⟩
  · simp at hcs
    exact ⟨_, _, _, hcs⟩
end Go.Proofs.YtbcfiafgolcbpaaGreatDoor
