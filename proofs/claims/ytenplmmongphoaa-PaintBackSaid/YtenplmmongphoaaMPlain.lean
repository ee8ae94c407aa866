/- motion, plainly: what fits, and which samples are fetched. -/
import Derived.Test.YtenplmmongphoaaGRef
namespace Go.Proofs.Ytenplmmongphoaa
open Go.RowKit Go.Shelf Go.Sort
set_option linter.unusedVariables false

def prt (n : Int) : Bool := decide (-15 ≤ n) && decide (n ≤ 15)
/-- a part, halved -/
def hv (n : Int) : Int := if 0 ≤ n then n / 2 else -(-n / 2)
theorem hv_tdiv (n : Int) : Int.tdiv n 2 = hv n := by
  unfold hv
  split
  · exact Int.tdiv_eq_ediv_of_nonneg (by omega)
  · have h : n = -(-n) := by omega
    rw [h, Int.neg_tdiv, Int.tdiv_eq_ediv_of_nonneg (by omega)]
    simp
/-- the samples, moved, lie within -/
def inB (f g a x y : Int) : Bool := decide (0 ≤ cX f g a + x) && decide (cX f g a + x + 16 ≤ sW f) && decide (0 ≤ cY f g a + y) && decide (cY f g a + y + 16 ≤ sH f)
/-- why a vector does not fit -/
def fE (f g a x y : Int) : Int := if cE f g a = 0 then (if prt x = true ∧ prt y = true then (if inB f g a x y = true then 0 else 12) else 3) else cE f g a
/-- why nothing is fetched -/
def mE (f g a b x y len : Int) : Int := if cE f g a = 0 then (if len = sN f then (if pE f g a b = 0 then fE f g a x y else pE f g a b) else 2) else cE f g a
def mX (b x : Int) : Int := if 4 < b then hv x else x
/-- where the k-th sample that is fetched stands -/
def mN (f g a b x y : Int) (k : Nat) : Int := pA f g a b + (((k / 8 : Nat) : Int) + mX b y) * pW f g a b + ((k % 8 : Nat) : Int) + mX b x
def mL (f g a b x y : Int) (zs : List UInt8) : List UInt8 := if mE f g a b x y zs.length = 0 then (List.range 64).map (fun k => zs[(mN f g a b x y k).toNat]?.getD 0) else []

theorem fE_zero {f g a x y : Int} (h : fE f g a x y = 0) : cE f g a = 0 ∧ prt x = true ∧ prt y = true ∧ inB f g a x y = true := by
  unfold fE at h
  by_cases hc : cE f g a = 0
  · rw [if_pos hc] at h
    by_cases hp : prt x = true ∧ prt y = true
    · rw [if_pos hp] at h
      by_cases hi : inB f g a x y = true
      · exact ⟨hc, hp.1, hp.2, hi⟩
      · rw [if_neg hi] at h; omega
    · rw [if_neg hp] at h; omega
  · rw [if_neg hc] at h; exact absurd h hc
theorem mE_zero {f g a b x y len : Int} (h : mE f g a b x y len = 0) : cE f g a = 0 ∧ len = sN f ∧ pE f g a b = 0 ∧ fE f g a x y = 0 := by
  unfold mE at h
  by_cases hc : cE f g a = 0
  · rw [if_pos hc] at h
    by_cases hl : len = sN f
    · rw [if_pos hl] at h
      by_cases hp : pE f g a b = 0
      · rw [if_pos hp] at h; exact ⟨hc, hl, hp, h⟩
      · rw [if_neg hp] at h; exact absurd h hp
    · rw [if_neg hl] at h; omega
  · rw [if_neg hc] at h; exact absurd h hc
theorem pE_zero {f g a b : Int} (h : pE f g a b = 0) : cE f g a = 0 ∧ 1 ≤ b ∧ b ≤ 6 := by
  unfold pE at h
  by_cases hc : cE f g a = 0
  · rw [if_pos hc] at h
    by_cases hb : 1 ≤ b ∧ b ≤ 6
    · exact ⟨hc, hb⟩
    · rw [if_neg hb] at h; omega
  · rw [if_neg hc] at h; exact absurd h hc
theorem cXY_16 {f g a : Int} (hc : cE f g a = 0) : ∃ p q : Nat, cX f g a = 16 * (p : Int) ∧ cY f g a = 16 * (q : Int) := by
  obtain ⟨x0, -, y0, -⟩ := cXY_in f g a
  refine ⟨(cX f g a / 16).toNat, (cY f g a / 16).toNat, ?_, ?_⟩
  · unfold cX at *
    rw [if_pos hc] at *
    omega
  · unfold cY at *
    rw [if_pos hc] at *
    omega
/-- it stands within the block's plane -/
theorem mN_in {f g a b x y : Int} (hp : pE f g a b = 0) (hf : fE f g a x y = 0) {k : Nat} (hk : k < 64) :
    0 ≤ mN f g a b x y k ∧ mN f g a b x y k < sN f ∧ (b ≤ 4 → mN f g a b x y k < sW f * sH f) ∧ (b = 5 → sW f * sH f ≤ mN f g a b x y k ∧ mN f g a b x y k < sW f * sH f + sW f * sH f / 4) ∧ (b = 6 → sW f * sH f + sW f * sH f / 4 ≤ mN f g a b x y k) := by
  obtain ⟨hc, hx, hy, hi⟩ := fE_zero hf
  obtain ⟨-, hb1, hb6⟩ := pE_zero hp
  obtain ⟨p, q, ep, eq⟩ := cXY_16 hc
  have hF := cE_F hc
  unfold inB at hi
  rw [ep, eq] at hi
  simp at hi
  obtain ⟨⟨⟨i1, i2⟩, i3⟩, i4⟩ := hi
  unfold prt at hx hy
  simp at hx hy
  have e1 : pA f g a b = atP (sW f) (sH f) (16 * (p : Int)) (16 * (q : Int)) b := by unfold pA; rw [if_pos hp, ep, eq]
  have e2 : pW f g a b = if b ≤ 4 then sW f else sW f / 2 := by unfold pW; rw [if_pos hp]
  unfold mN
  rw [e1, e2]
  clear e1 e2 hp hf hc ep eq
  unfold atP mX
  have hb : b = 1 ∨ b = 2 ∨ b = 3 ∨ b = 4 ∨ b = 5 ∨ b = 6 := by omega
  have hhx : hv x = if 0 ≤ x then x / 2 else -(-x / 2) := rfl
  have hhy : hv y = if 0 ≤ y then y / 2 else -(-y / 2) := rfl
  generalize hv x = X at *
  generalize hv y = Y at *
  rcases hF with rfl | rfl
  · rw [show sW 0 = 176 from rfl, show sH 0 = 144 from rfl, show sN 0 = 38016 from rfl] at *
    rcases hb with rfl | rfl | rfl | rfl | rfl | rfl
    all_goals
      simp at hhx hhy ⊢
      omega
  · rw [show sW 1 = 352 from rfl, show sH 1 = 288 from rfl, show sN 1 = 152064 from rfl] at *
    rcases hb with rfl | rfl | rfl | rfl | rfl | rfl
    all_goals
      simp at hhx hhy ⊢
      omega
theorem mL_length (f g a b x y : Int) (zs : List UInt8) : (mL f g a b x y zs).length = if mE f g a b x y zs.length = 0 then 64 else 0 := by
  unfold mL
  split <;> simp

theorem cX_top {f g a : Int} (hc : cE f g a = 0) : cX f g a + 16 ≤ sW f ∧ cY f g a + 16 ≤ sH f := by
  have h1 : isF f = true := by
    by_cases q : isF f = true
    · exact q
    · unfold cE at hc; rw [if_neg q] at hc; omega
  have h2 : isG f g = true := by
    by_cases q : isG f g = true
    · exact q
    · unfold cE at hc; rw [if_pos h1, if_neg q] at hc; omega
  have h3 : 1 ≤ a ∧ a ≤ 33 := by
    by_cases q : 1 ≤ a ∧ a ≤ 33
    · exact q
    · unfold cE at hc; rw [if_pos h1, if_pos h2, if_neg q] at hc; omega
  have e1 : cX f g a = 16 * ((a - 1) % 11) + 176 * ((g - 1) % 2) := by unfold cX; rw [if_pos hc]
  have e2 : cY f g a = 16 * ((a - 1) / 11) + 48 * ((g - 1) / 2) := by unfold cY; rw [if_pos hc]
  unfold isG at h2
  simp at h2
  rw [e1, e2]
  rcases h2 with ⟨rfl, h⟩ | ⟨⟨rfl, h⟩, h'⟩
  · rw [show sW 0 = 176 from rfl, show sH 0 = 144 from rfl]; omega
  · rw [show sW 1 = 352 from rfl, show sH 1 = 288 from rfl]; omega
/-- by 0, 0 a spot fits -/
theorem fE_still {f g a : Int} (hc : cE f g a = 0) : fE f g a 0 0 = 0 := by
  obtain ⟨x0, -, y0, -⟩ := cXY_in f g a
  obtain ⟨x1, y1⟩ := cX_top hc
  unfold fE
  rw [if_pos hc, if_pos (by decide), if_pos]
  unfold inB
  simp
  omega
theorem mN_still (f g a b : Int) : mN f g a b 0 0 0 = pA f g a b := by unfold mN mX; simp [hv]
theorem pA_in {f g a b : Int} (hp : pE f g a b = 0) : 0 ≤ pA f g a b ∧ pA f g a b < sN f ∧ 0 ≤ pW f g a b ∧ pW f g a b ≤ 352 ∧ sN f ≤ 152064 := by
  obtain ⟨hc, hb⟩ := pE_zero hp
  obtain ⟨h1, h2, -⟩ := mN_in hp (fE_still hc) (k := 0) (by omega)
  rw [mN_still] at h1 h2
  refine ⟨h1, h2, ?_⟩
  have e2 : pW f g a b = if b ≤ 4 then sW f else sW f / 2 := by unfold pW; rw [if_pos hp]
  rw [e2]
  rcases cE_F hc with rfl | rfl
  · rw [show sW 0 = 176 from rfl, show sN 0 = 38016 from rfl]; split <;> omega
  · rw [show sW 1 = 352 from rfl, show sN 1 = 152064 from rfl]; split <;> omega

end Go.Proofs.Ytenplmmongphoaa
