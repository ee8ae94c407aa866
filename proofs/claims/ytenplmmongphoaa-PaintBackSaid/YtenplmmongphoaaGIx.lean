/- frame: where block i of macroblock m of group g lies, by their numbers. -/
import Derived.Test.YtenplmmongphoaaGMap
namespace Go.Proofs.Ytenplmmongphoaa
open Go.RowKit Go.Shelf Go.Sort
set_option linter.unusedVariables false

/-- where block i of macroblock m of group g lies, and all its samples -/
theorem pA_ix {F : Int} {c : Nat} (hF : (F = 0 ∧ c = 1) ∨ (F = 1 ∧ c = 2)) {g m i : Nat} (hg : g < 3 * (c * c)) (hm : m < 33) (hi : i < 6) :
    ∃ at_ st : Nat, at_ ≤ 1000000 ∧ st ≤ 352 ∧ pA F ((gL F)[g]?.getD 0) ((m : Int) + 1) ((i : Int) + 1) = (at_ : Int) ∧ pW F ((gL F)[g]?.getD 0) ((m : Int) + 1) ((i : Int) + 1) = (st : Int) ∧ pE F ((gL F)[g]?.getD 0) ((m : Int) + 1) ((i : Int) + 1) = 0 ∧
      ∀ j, j < 64 → at_ + j / 8 * st + j % 8 = ixc c g m i j := by
  have hcc : c = 1 ∨ c = 2 := by rcases hF with ⟨-, h⟩ | ⟨-, h⟩ <;> simp [h]
  have hG : isF F = true ∧ isG F ((gL F)[g]?.getD 0) = true ∧ ((gL F)[g]?.getD 0 - 1) % 2 = ((g % c : Nat) : Int) ∧ ((gL F)[g]?.getD 0 - 1) / 2 = ((g / c : Nat) : Int) := by
    rcases hF with ⟨rfl, rfl⟩ | ⟨rfl, rfl⟩
    · exact (by decide +kernel : ∀ g : Fin 3, isF 0 = true ∧ isG 0 ((gL 0)[g.val]?.getD 0) = true ∧ ((gL 0)[g.val]?.getD 0 - 1) % 2 = ((g.val % 1 : Nat) : Int) ∧ ((gL 0)[g.val]?.getD 0 - 1) / 2 = ((g.val / 1 : Nat) : Int)) ⟨g, hg⟩
    · exact (by decide +kernel : ∀ g : Fin 12, isF 1 = true ∧ isG 1 ((gL 1)[g.val]?.getD 0) = true ∧ ((gL 1)[g.val]?.getD 0 - 1) % 2 = ((g.val % 2 : Nat) : Int) ∧ ((gL 1)[g.val]?.getD 0 - 1) / 2 = ((g.val / 2 : Nat) : Int)) ⟨g, hg⟩
  obtain ⟨h1, h2, h3, h4⟩ := hG
  generalize (gL F)[g]?.getD 0 = G at *
  have e0 : cE F G ((m : Int) + 1) = 0 := by unfold cE; rw [if_pos h1, if_pos h2, if_pos (by omega)]
  obtain ⟨p1, p2, p3⟩ : pE F G ((m : Int) + 1) ((i : Int) + 1) = 0 ∧ pA F G ((m : Int) + 1) ((i : Int) + 1) = atP (sW F) (sH F) (cX F G ((m : Int) + 1)) (cY F G ((m : Int) + 1)) ((i : Int) + 1) ∧ pW F G ((m : Int) + 1) ((i : Int) + 1) = if (i : Int) + 1 ≤ 4 then sW F else sW F / 2 := by
    have e1 : pE F G ((m : Int) + 1) ((i : Int) + 1) = 0 := by unfold pE; rw [if_pos e0, if_pos (by omega)]
    exact ⟨e1, by unfold pA; rw [if_pos e1], by unfold pW; rw [if_pos e1]⟩
  have x1 : cX F G ((m : Int) + 1) = 16 * ((m : Int) % 11) + 176 * ((g % c : Nat) : Int) := by unfold cX; rw [if_pos e0, h3]; omega
  have y1 : cY F G ((m : Int) + 1) = 16 * ((m : Int) / 11) + 48 * ((g / c : Nat) : Int) := by unfold cY; rw [if_pos e0, h4]; omega
  obtain ⟨q1, -⟩ := ixc_there hcc hg hm hi (show 0 < 64 by omega)
  refine ⟨ixc c g m i 0, if i < 4 then 176 * c else 88 * c, ?_, ?_, ?_, ?_, p1, ?_⟩
  · rcases hcc with rfl | rfl <;> omega
  · rcases hcc with rfl | rfl <;> split <;> omega
  · rw [p2, x1, y1]
    clear p2 p3 p1 x1 y1 e0 h1 h2 h3 h4 q1
    unfold atP ixc
    rcases hF with ⟨rfl, rfl⟩ | ⟨rfl, rfl⟩
    · rw [show sW 0 = 176 from rfl, show sH 0 = 144 from rfl]
      by_cases h : i < 4
      · rw [if_pos h, if_pos (by omega)]; omega
      · rw [if_neg h, if_neg (by omega)]; omega
    · rw [show sW 1 = 352 from rfl, show sH 1 = 288 from rfl]
      by_cases h : i < 4
      · rw [if_pos h, if_pos (by omega)]; omega
      · rw [if_neg h, if_neg (by omega)]; omega
  · rw [p3]
    rcases hF with ⟨rfl, rfl⟩ | ⟨rfl, rfl⟩
    · rw [show sW 0 = 176 from rfl]
      by_cases h : i < 4
      · rw [if_pos h, if_pos (by omega)]; omega
      · rw [if_neg h, if_neg (by omega)]; omega
    · rw [show sW 1 = 352 from rfl]
      by_cases h : i < 4
      · rw [if_pos h, if_pos (by omega)]; omega
      · rw [if_neg h, if_neg (by omega)]; omega
  · intro j hj
    clear p2 p3 p1 x1 y1 e0 h1 h2 h3 h4 q1
    unfold ixc
    rcases hcc with rfl | rfl
    · by_cases h : i < 4
      · rw [if_pos h, if_pos h, if_pos h]; omega
      · rw [if_neg h, if_neg h, if_neg h]; omega
    · by_cases h : i < 4
      · rw [if_pos h, if_pos h, if_pos h]; omega
      · rw [if_neg h, if_neg h, if_neg h]; omega

end Go.Proofs.Ytenplmmongphoaa
