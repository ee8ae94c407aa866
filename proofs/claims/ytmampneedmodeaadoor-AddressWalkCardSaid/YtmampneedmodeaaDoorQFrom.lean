/- The contract of the iterator of a queue's bytes ((*queue.Queue).fromFirst). -/
import Derived.Test.YtmampneedmodeaaDoorQFeed
namespace Go.Proofs.YtmampneedmodeaaDoor
open Go.RowKit Go.Shelf
set_option linter.unusedVariables false
attribute [local go_sem] Oper.semAt_some

/-- what the closure of fromFirst hands to a round -/
abbrev encU (z : UInt8) : Array Value := #[.int .u8 z.toNat]

/-- the facts that the iterator's regions read -/
abbrev QS (w' : World) (bx b g m c n : Nat) : Prop := w'.cell? ⟨bx, 0, none⟩ = some (Value.pointer (some ⟨b, 0, none⟩)) ∧ w'.cell? ⟨b, 1, none⟩ = some (.int .i64 m) ∧ w'.cell? ⟨b, 2, none⟩ = some (.int .i64 c) ∧ w'.cell? ⟨b, 3, none⟩ = some (.int .i64 n) ∧ w'.cell? ⟨b, 4, none⟩ = some (Value.slice (some ⟨g, 0, none⟩) m m)
theorem keepS {w w' : World} {bx b g m c n : Nat} (h : w'.heap[b]? = w.heap[b]?) (h2 : w'.heap[bx]? = w.heap[bx]?) (hS : QS w bx b g m c n) : QS w' bx b g m c n := by
  simp only [QS, World.cell?, h, h2] at hS ⊢
  exact hS

/-- what was handed out ahead of the outer round number k -/
def preK (ring : List UInt8) (f X Y k : Nat) : List UInt8 := if k = 0 then [] else if k = 1 then (ring.take X).drop f else (ring.take X).drop f ++ ring.take Y
end Go.Proofs.YtmampneedmodeaaDoor
