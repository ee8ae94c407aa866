/- The reference's queue (praxinoscoperef02.Queue): what it holds; contracts of its New, Free, Left, Skip, End. -/
import Derived.Test.YtmampneedmodeaaDoorQRead
import Derived.Deep.RegionLaw
namespace Go.Proofs.YtmampneedmodeaaDoor
open Go.RowKit Go.Shelf
set_option linter.unusedVariables false
theorem ownsRow_set {w : World} {base n b i : Nat} {e : TypeId} {v u : Value} {xs : List Value} (h : w.ownsRow base e 1 v n xs) (hb : v.ownBlock ≠ some b) : (w.setCell ⟨b, i, none⟩ u).ownsRow base e 1 v n xs :=
  ownsRow_bar h ((Bar.refl (fun k => k = b) w).setCell (fun _ => rfl) u) (fun k e1 e2 => hb (by rw [e1, e2]))

theorem below_drewN (n : Nat) (w : World) (k : Nat) : Below n w (w.drewN k) := ⟨rfl, rfl, rfl, Nat.le_refl _, fun _ _ => rfl⟩

end Go.Proofs.YtmampneedmodeaaDoor
