/- The contract of the law BitsBack, over acts as they come in. -/
import Derived.Test.YtfdlaiommpmliaaBack
namespace Go.Proofs.Ytfdlaiommpmliaa
open Go.RowKit Go.Shelf
set_option linter.unusedVariables false

set_option maxRecDepth 100000 in
set_option maxHeartbeats 2000000 in
theorem back_long (sv : Value) (xs : List Act4) (w : World) (hB : IsActs w.heap.size w sv xs) (hlong : longB xs = true) :
    Calls Try.prog 6 #[sv] w fun e w' => e = .returned (.bool true) ∧ Below w.heap.size w w' := by
  have HLo := Lib.hid (fun W (hb : Below w.heap.size w W) => long_any (hB.later hb))
  rw [hlong] at HLo
  obtain ⟨a, cap, rfl, _⟩ := hB
  clear hlong
  go_enter Try.func6, Try.ntmps6
  go_wp2_with fail
  refine (known_any w).mono ?_
  rintro e w1 ⟨rfl, hb1⟩
  go_wp2_with fail
  refine (newPen_any w1).mono ?_
  rintro e w2 ⟨rfl, hp, hb2⟩
  replace hb2 := below_chain hb1 (Nat.le_refl _) hb2
  clear hp hb1
  go_wp2_with fail
  refine (HLo.out _ hb2).mono ?_
  rintro e w3 ⟨rfl, rfl⟩
  go_wp2
  go_ret
  exact ⟨rfl, hb2⟩

theorem bitsBack_walk (sv : Value) (xs : List Act4) (w : World) (hB : IsActs w.heap.size w sv xs) :
    Calls Try.prog 6 #[sv] w fun e w' => e = .returned (.bool true) ∧ Below w.heap.size w w' := by
  cases h : longB xs with
  | true => exact back_long sv xs w hB h
  | false => exact back_law sv xs w hB h

end Go.Proofs.Ytfdlaiommpmliaa
