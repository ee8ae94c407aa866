/- frame: what Corner and Place answer, told by numbers. -/
import Derived.Test.YtidllgcdbohocaaGAns
namespace Go.Proofs.Ytidllgcdbohocaa
open Go.RowKit Go.Shelf Go.Sort
set_option linter.unusedVariables false

/-- group k of a known format, by its number -/
theorem grp_of {f w h n : Int} {c r : Nat} (H : Fm f w h n c r) {k : Nat} {g : Int} (hk : k < c * r) (hg : ((gpN c k : Nat) : Int) = g) :
    isG f g = true ∧ ((gpX c k : Nat) : Int) = 176 * ((g - 1) % 2) ∧ ((gpY c k : Nat) : Int) = 48 * ((g - 1) / 2) := by
  rcases H with ⟨rfl, -, -, -, rfl, rfl⟩ | ⟨rfl, -, -, -, rfl, rfl⟩
  · rw [(gN_one k).1] at hg
    rw [(gN_one k).2.1, (gN_one k).2.2]
    refine ⟨?_, by omega, by omega⟩
    unfold isG
    simp
    omega
  · rw [(gN_two k).1] at hg
    rw [(gN_two k).2.1, (gN_two k).2.2]
    refine ⟨?_, by omega, by omega⟩
    unfold isG
    simp
    omega
theorem grp_no {f w h n : Int} {c r : Nat} (H : Fm f w h n c r) {g : Int} (hno : ∀ k, k < c * r → ((gpN c k : Nat) : Int) ≠ g) : isG f g = false := by
  rw [Bool.eq_false_iff]
  intro hg
  unfold isG at hg
  simp at hg
  rcases H with ⟨rfl, -, -, -, rfl, rfl⟩ | ⟨rfl, -, -, -, rfl, rfl⟩
  · simp at hg
    refine hno ((g - 1) / 2).toNat (by omega) ?_
    rw [(gN_one _).1]
    omega
  · simp at hg
    refine hno (g - 1).toNat (by omega) ?_
    rw [(gN_two _).1]
    omega
theorem Fm.isF {f w h n : Int} {c r : Nat} (H : Fm f w h n c r) : isF f = true := by
  rcases H with ⟨rfl, -⟩ | ⟨rfl, -⟩ <;> rfl
theorem corner_eq {f w h n : Int} {c r : Nat} (H : Fm f w h n c r) {g a : Int} {e : Ending} (he : CorE c (c * r) g a e) :
    e = .returned (.tuple #[.int .i64 (cX f g a), .int .i64 (cY f g a), .int .i64 (cE f g a)]) := by
  have hF := H.isF
  rcases he with ⟨k, m, hk, hm, hg, ha, rfl⟩ | ⟨⟨k, hk, hg⟩, ha, rfl⟩ | ⟨hno, rfl⟩
  · obtain ⟨h1, h2, h3⟩ := grp_of H hk hg
    have e0 : cE f g a = 0 := by unfold cE; rw [if_pos hF, if_pos h1, if_pos (by omega)]
    have e1 : cX f g a = (gpX c k : Nat) + 16 * ((m : Int) % 11) := by unfold cX; rw [if_pos e0, h2]; omega
    have e2 : cY f g a = (gpY c k : Nat) + 16 * ((m : Int) / 11) := by unfold cY; rw [if_pos e0, h3]; omega
    rw [e0, e1, e2]
  · obtain ⟨h1, h2, h3⟩ := grp_of H hk hg
    have e0 : cE f g a = 13 := by unfold cE; rw [if_pos hF, if_pos h1, if_neg (by omega)]
    have e1 : cX f g a = 0 := by unfold cX; rw [if_neg (by omega)]
    have e2 : cY f g a = 0 := by unfold cY; rw [if_neg (by omega)]
    rw [e0, e1, e2]
  · have h1 := grp_no H hno
    have e0 : cE f g a = 8 := by unfold cE; rw [if_pos hF, if_neg (by simp [h1])]
    have e1 : cX f g a = 0 := by unfold cX; rw [if_neg (by omega)]
    have e2 : cY f g a = 0 := by unfold cY; rw [if_neg (by omega)]
    rw [e0, e1, e2]
theorem corner13_ans (f g a : Int) (W : World) : Calls Try.prog 17 #[.int .i64 f, .int .i64 g, .int .i64 a] W fun e W' => e = .returned (.tuple #[.int .i64 (cX f g a), .int .i64 (cY f g a), .int .i64 (cE f g a)]) ∧ Below W.heap.size W W' := by
  by_cases h : isF f = true
  · obtain ⟨w, hh, n, c, r, H, -, -, -⟩ := fm_of h
    exact (corner13_any H g a W).mono fun e W' ⟨h1, h2⟩ => ⟨corner_eq H h1, h2⟩
  · obtain ⟨h0, h1⟩ := isF_no (by simpa using h)
    have e0 : cE f g a = 3 := by unfold cE; rw [if_neg h]
    have e1 : cX f g a = 0 := by unfold cX; rw [if_neg (by omega)]
    have e2 : cY f g a = 0 := by unfold cY; rw [if_neg (by omega)]
    rw [e0, e1, e2]
    exact corner13_none h0 h1 g a W
theorem bP_at {f w h n : Int} {c r : Nat} (H : Fm f w h n c r) {x : Nat} {g a b : Int} (hx : x < 198 * (c * r)) (hb : isB c x g a b) :
    cE f g a = 0 ∧ (1 ≤ b ∧ b ≤ 6) ∧ bP c w h x = atP w h (cX f g a) (cY f g a) b ∧ plW w (x % 6 + 1) = if b ≤ 4 then w else w / 2 := by
  obtain ⟨hg, ha, hbb⟩ := hb
  obtain ⟨h1, h2, h3⟩ := grp_of H (by omega) hg
  have e0 : cE f g a = 0 := by unfold cE; rw [if_pos H.isF, if_pos h1, if_pos (by omega)]
  have e1 : ((bX c x : Nat) : Int) = cX f g a := by unfold cX bX; rw [if_pos e0, ← h2]; omega
  have e2 : ((bY c x : Nat) : Int) = cY f g a := by unfold cY bY; rw [if_pos e0, ← h3]; omega
  refine ⟨e0, by omega, ?_⟩
  unfold bP
  rw [← e1, ← e2, ← hbb]
  generalize bX c x = X
  generalize bY c x = Y
  have hi : x % 6 < 6 := Nat.mod_lt _ (by omega)
  clear e0 e1 e2 h1 h2 h3 hg ha hbb hx
  generalize x % 6 = i at *
  have hc : i = 0 ∨ i = 1 ∨ i = 2 ∨ i = 3 ∨ i = 4 ∨ i = 5 := by omega
  rcases H with ⟨rfl, rfl, rfl, rfl, -, -⟩ | ⟨rfl, rfl, rfl, rfl, -, -⟩
  all_goals
    rcases hc with rfl | rfl | rfl | rfl | rfl | rfl
    all_goals
      simp [atP, plF, plW, coX, coY]
      try omega
theorem place_eq {f w h n : Int} {c r : Nat} (H : Fm f w h n c r) (ew : sW f = w) (eh : sH f = h) {g a b : Int} {e : Ending} (he : PlaE c (c * r) w h g a b e) :
    e = .returned (.tuple #[.int .i64 (pA f g a b), .int .i64 (pW f g a b), .int .i64 (pE f g a b)]) := by
  have hF := H.isF
  rcases he with ⟨x, hx, hb, rfl⟩ | ⟨⟨k, hk, hg⟩, ha, hb, rfl⟩ | ⟨⟨k, hk, hg⟩, ha, rfl⟩ | ⟨hno, rfl⟩
  · obtain ⟨h1, h2, h3, h4⟩ := bP_at H hx hb
    have e0 : pE f g a b = 0 := by unfold pE; rw [if_pos h1, if_pos h2]
    have e1 : pA f g a b = bP c w h x := by unfold pA; rw [if_pos e0, ew, eh, h3]
    have e2 : pW f g a b = plW w (x % 6 + 1) := by unfold pW; rw [if_pos e0, ew, h4]
    rw [e0, e1, e2]
  · obtain ⟨h1, h2, h3⟩ := grp_of H hk hg
    have c0 : cE f g a = 0 := by unfold cE; rw [if_pos hF, if_pos h1, if_pos (by omega)]
    have e0 : pE f g a b = 3 := by unfold pE; rw [if_pos c0, if_neg (by omega)]
    have e1 : pA f g a b = 0 := by unfold pA; rw [if_neg (by omega)]
    have e2 : pW f g a b = 0 := by unfold pW; rw [if_neg (by omega)]
    rw [e0, e1, e2]
  · obtain ⟨h1, h2, h3⟩ := grp_of H hk hg
    have c0 : cE f g a = 13 := by unfold cE; rw [if_pos hF, if_pos h1, if_neg (by omega)]
    have e0 : pE f g a b = 13 := by unfold pE; rw [if_neg (by omega), c0]
    have e1 : pA f g a b = 0 := by unfold pA; rw [if_neg (by omega)]
    have e2 : pW f g a b = 0 := by unfold pW; rw [if_neg (by omega)]
    rw [e0, e1, e2]
  · have c0 : cE f g a = 8 := by unfold cE; rw [if_pos hF, if_neg (by simp [grp_no H hno])]
    have e0 : pE f g a b = 8 := by unfold pE; rw [if_neg (by omega), c0]
    have e1 : pA f g a b = 0 := by unfold pA; rw [if_neg (by omega)]
    have e2 : pW f g a b = 0 := by unfold pW; rw [if_neg (by omega)]
    rw [e0, e1, e2]
theorem place13_ans (f g a b : Int) (W : World) : Calls Try.prog 19 #[.int .i64 f, .int .i64 g, .int .i64 a, .int .i64 b] W fun e W' => e = .returned (.tuple #[.int .i64 (pA f g a b), .int .i64 (pW f g a b), .int .i64 (pE f g a b)]) ∧ Below W.heap.size W W' := by
  by_cases h : isF f = true
  · obtain ⟨w, hh, n, c, r, H, ew, eh, -⟩ := fm_of h
    exact (place13_any H g a b W).mono fun e W' ⟨h1, h2⟩ => ⟨place_eq H ew eh h1, h2⟩
  · obtain ⟨h0, h1⟩ := isF_no (by simpa using h)
    have c0 : cE f g a = 3 := by unfold cE; rw [if_neg h]
    have e0 : pE f g a b = 3 := by unfold pE; rw [if_neg (by omega), c0]
    have e1 : pA f g a b = 0 := by unfold pA; rw [if_neg (by omega)]
    have e2 : pW f g a b = 0 := by unfold pW; rw [if_neg (by omega)]
    rw [e0, e1, e2]
    exact place13_none h0 h1 g a b W

end Go.Proofs.Ytidllgcdbohocaa
