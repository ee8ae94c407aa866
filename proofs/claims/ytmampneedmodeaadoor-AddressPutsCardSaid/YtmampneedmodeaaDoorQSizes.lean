/- Contracts of the methods of queue.sizes. -/
import Derived.Test.YtmampneedmodeaaDoorBytes
import Derived.Deep.RegionHeld3
namespace Go.Proofs.YtmampneedmodeaaDoor
open Go.RowKit Go.Shelf
set_option linter.unusedVariables false

abbrev szV (m c g : Int) : Value := .agg #[.int .i64 m, .int .i64 c, .int .i64 g]

theorem below_undrew {n : Nat} {a b : World} (h : Below n a.drew b) : Below n a b := ⟨h.os, h.tape, h.output, h.size, h.block⟩
theorem below_boxed {w w' : World} {o : Obj} (h : Below (w.alloc o).drew.heap.size (w.alloc o).drew w') : Below w.heap.size w w' :=
  below_chain ((Below.refl _ _).alloc (Nat.le_refl _) o) (Nat.le_refl _) (below_undrew h)

end Go.Proofs.YtmampneedmodeaaDoor
