/- frame: what its functions answer, told by numbers; the contracts over it. frame: what Corner and Place answer, told by numbers. -/
import Derived.Test.YtenplmmongphoaaGPla
/- frame: what its functions answer, told by numbers; the contracts over it. -/
namespace Go.Proofs.Ytenplmmongphoaa
open Go.RowKit Go.Shelf Go.Sort
set_option linter.unusedVariables false

def isF (f : Int) : Bool := f == 0 || f == 1
def isG (f g : Int) : Bool := (f == 0 && (g == 1 || g == 3 || g == 5)) || (f == 1 && decide (1 ≤ g) && decide (g ≤ 12))
def sW (f : Int) : Int := if f = 0 then 176 else if f = 1 then 352 else 0
def sH (f : Int) : Int := if f = 0 then 144 else if f = 1 then 288 else 0
def sN (f : Int) : Int := if f = 0 then 38016 else if f = 1 then 152064 else 0
def sE (f : Int) : Int := if isF f then 0 else 3
def gL (f : Int) : List Int := if f = 0 then [1, 3, 5] else if f = 1 then [1, 2, 3, 4, 5, 6, 7, 8, 9, 10, 11, 12] else []
def nE (f g : Int) : Int := if isF f then (if g = 0 ∨ isG f g then 0 else 8) else 3
def nX (f g : Int) : Int := if f = 0 then (if g = 0 then 1 else if g = 1 then 3 else if g = 3 then 5 else 0) else if f = 1 then (if 0 ≤ g ∧ g ≤ 11 then g + 1 else 0) else 0
def cE (f g a : Int) : Int := if isF f then (if isG f g then (if 1 ≤ a ∧ a ≤ 33 then 0 else 13) else 8) else 3
def cX (f g a : Int) : Int := if cE f g a = 0 then 16 * ((a - 1) % 11) + 176 * ((g - 1) % 2) else 0
def cY (f g a : Int) : Int := if cE f g a = 0 then 16 * ((a - 1) / 11) + 48 * ((g - 1) / 2) else 0
def pE (f g a b : Int) : Int := if cE f g a = 0 then (if 1 ≤ b ∧ b ≤ 6 then 0 else 3) else cE f g a
/-- where a block lies whose macroblock stands at x, y -/
def atP (w h x y b : Int) : Int := if b ≤ 4 then (y + 8 * ((b - 1) / 2)) * w + x + 8 * ((b - 1) % 2) else w * h + (b - 5) * (w * h / 4) + y / 2 * (w / 2) + x / 2
def pA (f g a b : Int) : Int := if pE f g a b = 0 then atP (sW f) (sH f) (cX f g a) (cY f g a) b else 0
def pW (f g a b : Int) : Int := if pE f g a b = 0 then (if b ≤ 4 then sW f else sW f / 2) else 0

theorem fm_of {f : Int} (h : isF f = true) : ∃ w h n c r, Fm f w h n c r ∧ sW f = w ∧ sH f = h ∧ sN f = n := by
  unfold isF at h
  simp at h
  rcases h with rfl | rfl
  · exact ⟨_, _, _, _, _, .inl ⟨rfl, rfl, rfl, rfl, rfl, rfl⟩, rfl, rfl, rfl⟩
  · exact ⟨_, _, _, _, _, .inr ⟨rfl, rfl, rfl, rfl, rfl, rfl⟩, rfl, rfl, rfl⟩
theorem isF_no {f : Int} (h : isF f = false) : (f == 0) = false ∧ (f == 1) = false := by
  unfold isF at h
  simpa using h

theorem size13_ans (f : Int) (W : World) : Calls Try.prog 48 #[.int .i64 f] W fun e W' => e = .returned (.tuple #[.int .i64 (sW f), .int .i64 (sH f), .int .i64 (sN f), .int .i64 (sE f)]) ∧ W = W' := by
  by_cases h : isF f = true
  · obtain ⟨w, hh, n, c, r, H, e1, e2, e3⟩ := fm_of h
    have e4 : sE f = 0 := by unfold sE; rw [if_pos h]
    rw [e1, e2, e3, e4]
    exact size13_any H W
  · obtain ⟨h0, h1⟩ := isF_no (by simpa using h)
    have n0 : f ≠ 0 := by simpa using h0
    have n1 : f ≠ 1 := by simpa using h1
    have e1 : sW f = 0 := by unfold sW; rw [if_neg n0, if_neg n1]
    have e2 : sH f = 0 := by unfold sH; rw [if_neg n0, if_neg n1]
    have e3 : sN f = 0 := by unfold sN; rw [if_neg n0, if_neg n1]
    have e4 : sE f = 3 := by unfold sE; rw [if_neg h]
    rw [e1, e2, e3, e4]
    exact size13_none h0 h1 W
theorem gL_short (f : Int) : (gL f).length ≤ 12 := by
  unfold gL
  repeat' split
  all_goals simp
theorem gNums_gL {f w h n : Int} {c r : Nat} (H : Fm f w h n c r) : gNums c (c * r) = gL f ∧ (gL f).length = c * r := by
  rcases H with ⟨rfl, -, -, -, rfl, rfl⟩ | ⟨rfl, -, -, -, rfl, rfl⟩
  all_goals exact ⟨by decide +kernel, by decide +kernel⟩
theorem gN_one (k : Nat) : gpN 1 k = 2 * k + 1 ∧ gpX 1 k = 0 ∧ gpY 1 k = 48 * k := by unfold gpN gpX gpY; omega
theorem gN_two (k : Nat) : gpN 2 k = k + 1 ∧ gpX 2 k = 176 * (k % 2) ∧ gpY 2 k = 48 * (k / 2) := by unfold gpN gpX gpY; omega
theorem pvN_one (k : Nat) : pvN 1 k = if k = 0 then 0 else 2 * (k : Int) - 1 := by
  unfold pvN
  split
  · rfl
  · rw [(gN_one (k - 1)).1]; omega
theorem pvN_two (k : Nat) : pvN 2 k = (k : Int) := by
  unfold pvN
  split
  · omega
  · rw [(gN_two (k - 1)).1]; omega
theorem next_eq {f w h n : Int} {c r : Nat} (H : Fm f w h n c r) {g : Int} {e : Ending}
    (he : (∃ k, k < c * r ∧ pvN c k = g ∧ e = .returned (.tuple #[.int .i64 (gpN c k : Nat), .int .i64 0])) ∨
       ((∀ k, k < c * r → pvN c k ≠ g) ∧ ((pvN c (c * r) = g ∧ e = .returned (.tuple #[.int .i64 0, .int .i64 0])) ∨ (pvN c (c * r) ≠ g ∧ e = .returned (.tuple #[.int .i64 0, .int .i64 8]))))) :
    e = .returned (.tuple #[.int .i64 (nX f g), .int .i64 (nE f g)]) := by
  rcases H with ⟨rfl, -, -, -, rfl, rfl⟩ | ⟨rfl, -, -, -, rfl, rfl⟩
  · simp only [pvN_one, fun k => (gN_one k).1] at he
    rcases he with ⟨k, hk, hg, rfl⟩ | ⟨hno, ⟨hg, rfl⟩ | ⟨hg, rfl⟩⟩
    · have hk3 : k = 0 ∨ k = 1 ∨ k = 2 := by omega
      rcases hk3 with rfl | rfl | rfl
      all_goals
        simp at hg
        subst hg
        rfl
    · simp at hg
      subst hg
      rfl
    · have h0 := hno 0 (by omega)
      have h1 := hno 1 (by omega)
      have h2 := hno 2 (by omega)
      simp at h0 h1 h2 hg
      have n0 : g ≠ 0 := fun h => h0 h.symm
      have n1 : g ≠ 1 := fun h => h1 h.symm
      have n3 : g ≠ 3 := fun h => h2 h.symm
      have n5 : g ≠ 5 := fun h => hg h.symm
      simp [nX, nE, isF, isG, n0, n1, n3, n5]
  · simp only [pvN_two, fun k => (gN_two k).1] at he
    rcases he with ⟨k, hk, hg, rfl⟩ | ⟨hno, ⟨hg, rfl⟩ | ⟨hg, rfl⟩⟩
    · have e1 : nX 1 g = ((k + 1 : Nat) : Int) := by unfold nX; rw [if_neg (by decide), if_pos rfl, if_pos (by omega)]; omega
      have e2 : nE 1 g = 0 := by
        unfold nE isG isF
        rw [if_pos (by rfl), if_pos]
        simp
        omega
      rw [e1, e2]
    · subst hg
      rfl
    · have hout : g < 0 ∨ 12 < g := by
        by_cases q : g < 0
        · exact .inl q
        · right
          by_cases q2 : 12 < g
          · exact q2
          · by_cases q3 : g = 12
            · exact absurd q3.symm hg
            · exact absurd (show ((g.toNat : Nat) : Int) = g by omega) (hno g.toNat (by omega))
      have e1 : nX 1 g = 0 := by unfold nX; rw [if_neg (by decide), if_pos rfl, if_neg (by omega)]
      have e2 : nE 1 g = 8 := by
        unfold nE isG isF
        rw [if_pos (by rfl), if_neg]
        simp
        omega
      rw [e1, e2]
end Go.Proofs.Ytenplmmongphoaa

/- frame: what Corner and Place answer, told by numbers. -/
namespace Go.Proofs.Ytenplmmongphoaa
open Go.RowKit Go.Shelf Go.Sort
set_option linter.unusedVariables false

/-- group k of a known format, by its number -/
theorem grp_of {f w h n : Int} {c r : Nat} (H : Fm f w h n c r) {k : Nat} {g : Int} (hk : k < c * r) (hg : ((gpN c k : Nat) : Int) = g) :
    isG f g = true ∧ ((gpX c k : Nat) : Int) = 176 * ((g - 1) % 2) ∧ ((gpY c k : Nat) : Int) = 48 * ((g - 1) / 2) := by
  rcases H with ⟨rfl, -, -, -, rfl, rfl⟩ | ⟨rfl, -, -, -, rfl, rfl⟩
  · rw [(gN_one k).1] at hg
    rw [(gN_one k).2.1, (gN_one k).2.2]
    refine ⟨?_, by omega, by omega⟩
    unfold isG
    simp
    omega
  · rw [(gN_two k).1] at hg
    rw [(gN_two k).2.1, (gN_two k).2.2]
    refine ⟨?_, by omega, by omega⟩
    unfold isG
    simp
    omega
theorem grp_no {f w h n : Int} {c r : Nat} (H : Fm f w h n c r) {g : Int} (hno : ∀ k, k < c * r → ((gpN c k : Nat) : Int) ≠ g) : isG f g = false := by
  rw [Bool.eq_false_iff]
  intro hg
  unfold isG at hg
  simp at hg
  rcases H with ⟨rfl, -, -, -, rfl, rfl⟩ | ⟨rfl, -, -, -, rfl, rfl⟩
  · simp at hg
    refine hno ((g - 1) / 2).toNat (by omega) ?_
    rw [(gN_one _).1]
    omega
  · simp at hg
    refine hno (g - 1).toNat (by omega) ?_
    rw [(gN_two _).1]
    omega
theorem Fm.isF {f w h n : Int} {c r : Nat} (H : Fm f w h n c r) : isF f = true := by
  rcases H with ⟨rfl, -⟩ | ⟨rfl, -⟩ <;> rfl
theorem corner_eq {f w h n : Int} {c r : Nat} (H : Fm f w h n c r) {g a : Int} {e : Ending} (he : CorE c (c * r) g a e) :
    e = .returned (.tuple #[.int .i64 (cX f g a), .int .i64 (cY f g a), .int .i64 (cE f g a)]) := by
  have hF := H.isF
  rcases he with ⟨k, m, hk, hm, hg, ha, rfl⟩ | ⟨⟨k, hk, hg⟩, ha, rfl⟩ | ⟨hno, rfl⟩
  · obtain ⟨h1, h2, h3⟩ := grp_of H hk hg
    have e0 : cE f g a = 0 := by unfold cE; rw [if_pos hF, if_pos h1, if_pos (by omega)]
    have e1 : cX f g a = (gpX c k : Nat) + 16 * ((m : Int) % 11) := by unfold cX; rw [if_pos e0, h2]; omega
    have e2 : cY f g a = (gpY c k : Nat) + 16 * ((m : Int) / 11) := by unfold cY; rw [if_pos e0, h3]; omega
    rw [e0, e1, e2]
  · obtain ⟨h1, h2, h3⟩ := grp_of H hk hg
    have e0 : cE f g a = 13 := by unfold cE; rw [if_pos hF, if_pos h1, if_neg (by omega)]
    have e1 : cX f g a = 0 := by unfold cX; rw [if_neg (by omega)]
    have e2 : cY f g a = 0 := by unfold cY; rw [if_neg (by omega)]
    rw [e0, e1, e2]
  · have h1 := grp_no H hno
    have e0 : cE f g a = 8 := by unfold cE; rw [if_pos hF, if_neg (by simp [h1])]
    have e1 : cX f g a = 0 := by unfold cX; rw [if_neg (by omega)]
    have e2 : cY f g a = 0 := by unfold cY; rw [if_neg (by omega)]
    rw [e0, e1, e2]
theorem corner13_ans (f g a : Int) (W : World) : Calls Try.prog 51 #[.int .i64 f, .int .i64 g, .int .i64 a] W fun e W' => e = .returned (.tuple #[.int .i64 (cX f g a), .int .i64 (cY f g a), .int .i64 (cE f g a)]) ∧ Below W.heap.size W W' := by
  by_cases h : isF f = true
  · obtain ⟨w, hh, n, c, r, H, -, -, -⟩ := fm_of h
    exact (corner13_any H g a W).mono fun e W' ⟨h1, h2⟩ => ⟨corner_eq H h1, h2⟩
  · obtain ⟨h0, h1⟩ := isF_no (by simpa using h)
    have e0 : cE f g a = 3 := by unfold cE; rw [if_neg h]
    have e1 : cX f g a = 0 := by unfold cX; rw [if_neg (by omega)]
    have e2 : cY f g a = 0 := by unfold cY; rw [if_neg (by omega)]
    rw [e0, e1, e2]
    exact corner13_none h0 h1 g a W
theorem bP_at {f w h n : Int} {c r : Nat} (H : Fm f w h n c r) {x : Nat} {g a b : Int} (hx : x < 198 * (c * r)) (hb : isB c x g a b) :
    cE f g a = 0 ∧ (1 ≤ b ∧ b ≤ 6) ∧ bP c w h x = atP w h (cX f g a) (cY f g a) b ∧ plW w (x % 6 + 1) = if b ≤ 4 then w else w / 2 := by
  obtain ⟨hg, ha, hbb⟩ := hb
  obtain ⟨h1, h2, h3⟩ := grp_of H (by omega) hg
  have e0 : cE f g a = 0 := by unfold cE; rw [if_pos H.isF, if_pos h1, if_pos (by omega)]
  have e1 : ((bX c x : Nat) : Int) = cX f g a := by unfold cX bX; rw [if_pos e0, ← h2]; omega
  have e2 : ((bY c x : Nat) : Int) = cY f g a := by unfold cY bY; rw [if_pos e0, ← h3]; omega
  refine ⟨e0, by omega, ?_⟩
  unfold bP
  rw [← e1, ← e2, ← hbb]
  generalize bX c x = X
  generalize bY c x = Y
  have hi : x % 6 < 6 := Nat.mod_lt _ (by omega)
  clear e0 e1 e2 h1 h2 h3 hg ha hbb hx
  generalize x % 6 = i at *
  have hc : i = 0 ∨ i = 1 ∨ i = 2 ∨ i = 3 ∨ i = 4 ∨ i = 5 := by omega
  rcases H with ⟨rfl, rfl, rfl, rfl, -, -⟩ | ⟨rfl, rfl, rfl, rfl, -, -⟩
  all_goals
    rcases hc with rfl | rfl | rfl | rfl | rfl | rfl
    all_goals
      simp [atP, plF, plW, coX, coY]
      try omega
theorem place_eq {f w h n : Int} {c r : Nat} (H : Fm f w h n c r) (ew : sW f = w) (eh : sH f = h) {g a b : Int} {e : Ending} (he : PlaE c (c * r) w h g a b e) :
    e = .returned (.tuple #[.int .i64 (pA f g a b), .int .i64 (pW f g a b), .int .i64 (pE f g a b)]) := by
  have hF := H.isF
  rcases he with ⟨x, hx, hb, rfl⟩ | ⟨⟨k, hk, hg⟩, ha, hb, rfl⟩ | ⟨⟨k, hk, hg⟩, ha, rfl⟩ | ⟨hno, rfl⟩
  · obtain ⟨h1, h2, h3, h4⟩ := bP_at H hx hb
    have e0 : pE f g a b = 0 := by unfold pE; rw [if_pos h1, if_pos h2]
    have e1 : pA f g a b = bP c w h x := by unfold pA; rw [if_pos e0, ew, eh, h3]
    have e2 : pW f g a b = plW w (x % 6 + 1) := by unfold pW; rw [if_pos e0, ew, h4]
    rw [e0, e1, e2]
  · obtain ⟨h1, h2, h3⟩ := grp_of H hk hg
    have c0 : cE f g a = 0 := by unfold cE; rw [if_pos hF, if_pos h1, if_pos (by omega)]
    have e0 : pE f g a b = 3 := by unfold pE; rw [if_pos c0, if_neg (by omega)]
    have e1 : pA f g a b = 0 := by unfold pA; rw [if_neg (by omega)]
    have e2 : pW f g a b = 0 := by unfold pW; rw [if_neg (by omega)]
    rw [e0, e1, e2]
  · obtain ⟨h1, h2, h3⟩ := grp_of H hk hg
    have c0 : cE f g a = 13 := by unfold cE; rw [if_pos hF, if_pos h1, if_neg (by omega)]
    have e0 : pE f g a b = 13 := by unfold pE; rw [if_neg (by omega), c0]
    have e1 : pA f g a b = 0 := by unfold pA; rw [if_neg (by omega)]
    have e2 : pW f g a b = 0 := by unfold pW; rw [if_neg (by omega)]
    rw [e0, e1, e2]
  · have c0 : cE f g a = 8 := by unfold cE; rw [if_pos hF, if_neg (by simp [grp_no H hno])]
    have e0 : pE f g a b = 8 := by unfold pE; rw [if_neg (by omega), c0]
    have e1 : pA f g a b = 0 := by unfold pA; rw [if_neg (by omega)]
    have e2 : pW f g a b = 0 := by unfold pW; rw [if_neg (by omega)]
    rw [e0, e1, e2]
theorem place13_ans (f g a b : Int) (W : World) : Calls Try.prog 52 #[.int .i64 f, .int .i64 g, .int .i64 a, .int .i64 b] W fun e W' => e = .returned (.tuple #[.int .i64 (pA f g a b), .int .i64 (pW f g a b), .int .i64 (pE f g a b)]) ∧ Below W.heap.size W W' := by
  by_cases h : isF f = true
  · obtain ⟨w, hh, n, c, r, H, ew, eh, -⟩ := fm_of h
    exact (place13_any H g a b W).mono fun e W' ⟨h1, h2⟩ => ⟨place_eq H ew eh h1, h2⟩
  · obtain ⟨h0, h1⟩ := isF_no (by simpa using h)
    have c0 : cE f g a = 3 := by unfold cE; rw [if_neg h]
    have e0 : pE f g a b = 3 := by unfold pE; rw [if_neg (by omega), c0]
    have e1 : pA f g a b = 0 := by unfold pA; rw [if_neg (by omega)]
    have e2 : pW f g a b = 0 := by unfold pW; rw [if_neg (by omega)]
    rw [e0, e1, e2]
    exact place13_none h0 h1 g a b W

end Go.Proofs.Ytenplmmongphoaa
