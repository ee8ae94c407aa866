/- frame: all samples of all blocks, plainly: where each lies among the bytes, and which one lies there. -/
import Derived.Test.YtenplmmongphoaaGAns
namespace Go.Proofs.Ytenplmmongphoaa
open Go.RowKit Go.Shelf Go.Sort
set_option linter.unusedVariables false

/-- sample j of block i of macroblock m of group g: its byte (a format of c columns) -/
def ixc (c g m i j : Nat) : Nat :=
  if i < 4 then (48 * (g / c) + 16 * (m / 11) + 8 * (i / 2) + j / 8) * (176 * c) + (176 * (g % c) + 16 * (m % 11) + 8 * (i % 2) + j % 8)
  else 25344 * (c * c) + (i - 4) * (6336 * (c * c)) + (24 * (g / c) + 8 * (m / 11) + j / 8) * (88 * c) + (88 * (g % c) + 8 * (m % 11) + j % 8)
/-- which sample byte k is -/
def kG (c k : Nat) : Nat := if k < 25344 * (c * c) then k / (176 * c) / 48 * c + k % (176 * c) / 176 else (k - 25344 * (c * c)) % (6336 * (c * c)) / (88 * c) / 24 * c + (k - 25344 * (c * c)) % (6336 * (c * c)) % (88 * c) / 88
def kM (c k : Nat) : Nat := if k < 25344 * (c * c) then k / (176 * c) % 48 / 16 * 11 + k % (176 * c) % 176 / 16 else (k - 25344 * (c * c)) % (6336 * (c * c)) / (88 * c) % 24 / 8 * 11 + (k - 25344 * (c * c)) % (6336 * (c * c)) % (88 * c) % 88 / 8
def kI (c k : Nat) : Nat := if k < 25344 * (c * c) then k / (176 * c) % 16 / 8 * 2 + k % (176 * c) % 16 / 8 else 4 + (k - 25344 * (c * c)) / (6336 * (c * c))
def kJ (c k : Nat) : Nat := if k < 25344 * (c * c) then k / (176 * c) % 8 * 8 + k % (176 * c) % 8 else (k - 25344 * (c * c)) % (6336 * (c * c)) / (88 * c) % 8 * 8 + (k - 25344 * (c * c)) % (6336 * (c * c)) % (88 * c) % 8

theorem ixc_there {c g m i j : Nat} (hc : c = 1 ∨ c = 2) (hg : g < 3 * (c * c)) (hm : m < 33) (hi : i < 6) (hj : j < 64) :
    ixc c g m i j < 38016 * (c * c) ∧ kG c (ixc c g m i j) = g ∧ kM c (ixc c g m i j) = m ∧ kI c (ixc c g m i j) = i ∧ kJ c (ixc c g m i j) = j := by
  obtain ⟨my, mx, rfl, hmx⟩ : ∃ my mx, m = 11 * my + mx ∧ mx < 11 := ⟨m / 11, m % 11, by omega, by omega⟩
  obtain ⟨jy, jx, rfl, hjx⟩ : ∃ jy jx, j = 8 * jy + jx ∧ jx < 8 := ⟨j / 8, j % 8, by omega, by omega⟩
  have e1 : (11 * my + mx) / 11 = my := by omega
  have e2 : (11 * my + mx) % 11 = mx := by omega
  have e3 : (8 * jy + jx) / 8 = jy := by omega
  have e4 : (8 * jy + jx) % 8 = jx := by omega
  have hmy : my ≤ 2 := by omega
  have hjy : jy ≤ 7 := by omega
  rcases hc with rfl | rfl
  · by_cases h4 : i < 4
    · obtain ⟨iy, ix, rfl, hix⟩ : ∃ iy ix, i = 2 * iy + ix ∧ ix < 2 := ⟨i / 2, i % 2, by omega, by omega⟩
      have e5 : (2 * iy + ix) / 2 = iy := by omega
      have e6 : (2 * iy + ix) % 2 = ix := by omega
      have hiy : iy ≤ 1 := by omega
      unfold ixc
      rw [if_pos h4, e1, e2, e3, e4, e5, e6, Nat.div_one, Nat.mod_one]
      have hk : (48 * g + 16 * my + 8 * iy + jy) * (176 * 1) + (176 * 0 + 16 * mx + 8 * ix + jx) < 25344 * (1 * 1) := by omega
      have hk2 : (48 * g + 16 * my + 8 * iy + jy) * (176 * 1) + (176 * 0 + 16 * mx + 8 * ix + jx) < 38016 * (1 * 1) := by omega
      have d1 : ((48 * g + 16 * my + 8 * iy + jy) * (176 * 1) + (176 * 0 + 16 * mx + 8 * ix + jx)) / (176 * 1) = 48 * g + 16 * my + 8 * iy + jy := by omega
      have d2 : ((48 * g + 16 * my + 8 * iy + jy) * (176 * 1) + (176 * 0 + 16 * mx + 8 * ix + jx)) % (176 * 1) = 176 * 0 + 16 * mx + 8 * ix + jx := by omega
      unfold kG kM kI kJ
      rw [if_pos hk, if_pos hk, if_pos hk, if_pos hk, d1, d2]
      clear d1 d2 hk e1 e2 e3 e4 e5 e6
      refine ⟨hk2, ?_, ?_, ?_, ?_⟩
      · omega
      · have r1 : (48 * g + 16 * my + 8 * iy + jy) % 48 / 16 = my := by omega
        have r2 : (176 * 0 + 16 * mx + 8 * ix + jx) % 176 / 16 = mx := by omega
        rw [r1, r2]; omega
      · have r1 : (48 * g + 16 * my + 8 * iy + jy) % 16 / 8 = iy := by omega
        have r2 : (176 * 0 + 16 * mx + 8 * ix + jx) % 16 / 8 = ix := by omega
        rw [r1, r2]; omega
      · have r1 : (48 * g + 16 * my + 8 * iy + jy) % 8 = jy := by omega
        have r2 : (176 * 0 + 16 * mx + 8 * ix + jx) % 8 = jx := by omega
        rw [r1, r2]; omega
    · obtain ⟨q, rfl, hq⟩ : ∃ q, i = 4 + q ∧ q ≤ 1 := ⟨i - 4, by omega, by omega⟩
      have e5 : 4 + q - 4 = q := by omega
      unfold ixc
      rw [if_neg h4, e1, e2, e3, e4, e5, Nat.div_one, Nat.mod_one]
      have hr : (24 * g + 8 * my + jy) * (88 * 1) + (88 * 0 + 8 * mx + jx) < 6336 * (1 * 1) := by omega
      have hs : 25344 * (1 * 1) + q * (6336 * (1 * 1)) + (24 * g + 8 * my + jy) * (88 * 1) + (88 * 0 + 8 * mx + jx) = 25344 * (1 * 1) + (q * (6336 * (1 * 1)) + ((24 * g + 8 * my + jy) * (88 * 1) + (88 * 0 + 8 * mx + jx))) := by omega
      rw [hs]
      clear hs
      have d1 : ((24 * g + 8 * my + jy) * (88 * 1) + (88 * 0 + 8 * mx + jx)) / (88 * 1) = 24 * g + 8 * my + jy := by omega
      have d2 : ((24 * g + 8 * my + jy) * (88 * 1) + (88 * 0 + 8 * mx + jx)) % (88 * 1) = 88 * 0 + 8 * mx + jx := by omega
      generalize (24 * g + 8 * my + jy) * (88 * 1) + (88 * 0 + 8 * mx + jx) = z at *
      have hn : ¬ 25344 * (1 * 1) + (q * (6336 * (1 * 1)) + z) < 25344 * (1 * 1) := by omega
      have hk2 : 25344 * (1 * 1) + (q * (6336 * (1 * 1)) + z) < 38016 * (1 * 1) := by omega
      have f1 : 25344 * (1 * 1) + (q * (6336 * (1 * 1)) + z) - 25344 * (1 * 1) = q * (6336 * (1 * 1)) + z := by omega
      have f2 : (q * (6336 * (1 * 1)) + z) / (6336 * (1 * 1)) = q := by omega
      have f3 : (q * (6336 * (1 * 1)) + z) % (6336 * (1 * 1)) = z := by omega
      unfold kG kM kI kJ
      rw [if_neg hn, if_neg hn, if_neg hn, if_neg hn, f1, f2, f3, d1, d2]
      clear d1 d2 f1 f2 f3 hn hr e1 e2 e3 e4 e5
      refine ⟨hk2, ?_, ?_, rfl, ?_⟩
      · have r1 : (24 * g + 8 * my + jy) / 24 = g := by omega
        have r2 : (88 * 0 + 8 * mx + jx) / 88 = 0 := by omega
        rw [r1, r2]; omega
      · have r1 : (24 * g + 8 * my + jy) % 24 / 8 = my := by omega
        have r2 : (88 * 0 + 8 * mx + jx) % 88 / 8 = mx := by omega
        rw [r1, r2]; omega
      · have r1 : (24 * g + 8 * my + jy) % 8 = jy := by omega
        have r2 : (88 * 0 + 8 * mx + jx) % 8 = jx := by omega
        rw [r1, r2]; omega
  · obtain ⟨gy, gx, rfl, hgx⟩ : ∃ gy gx, g = 2 * gy + gx ∧ gx < 2 := ⟨g / 2, g % 2, by omega, by omega⟩
    have e7 : (2 * gy + gx) / 2 = gy := by omega
    have e8 : (2 * gy + gx) % 2 = gx := by omega
    have hgy : gy ≤ 5 := by omega
    by_cases h4 : i < 4
    · obtain ⟨iy, ix, rfl, hix⟩ : ∃ iy ix, i = 2 * iy + ix ∧ ix < 2 := ⟨i / 2, i % 2, by omega, by omega⟩
      have e5 : (2 * iy + ix) / 2 = iy := by omega
      have e6 : (2 * iy + ix) % 2 = ix := by omega
      have hiy : iy ≤ 1 := by omega
      unfold ixc
      rw [if_pos h4, e1, e2, e3, e4, e5, e6, e7, e8]
      have hk : (48 * gy + 16 * my + 8 * iy + jy) * (176 * 2) + (176 * gx + 16 * mx + 8 * ix + jx) < 25344 * (2 * 2) := by omega
      have hk2 : (48 * gy + 16 * my + 8 * iy + jy) * (176 * 2) + (176 * gx + 16 * mx + 8 * ix + jx) < 38016 * (2 * 2) := by omega
      have d1 : ((48 * gy + 16 * my + 8 * iy + jy) * (176 * 2) + (176 * gx + 16 * mx + 8 * ix + jx)) / (176 * 2) = 48 * gy + 16 * my + 8 * iy + jy := by omega
      have d2 : ((48 * gy + 16 * my + 8 * iy + jy) * (176 * 2) + (176 * gx + 16 * mx + 8 * ix + jx)) % (176 * 2) = 176 * gx + 16 * mx + 8 * ix + jx := by omega
      unfold kG kM kI kJ
      rw [if_pos hk, if_pos hk, if_pos hk, if_pos hk, d1, d2]
      clear d1 d2 hk e1 e2 e3 e4 e5 e6
      refine ⟨hk2, ?_, ?_, ?_, ?_⟩
      · omega
      · have r1 : (48 * gy + 16 * my + 8 * iy + jy) % 48 / 16 = my := by omega
        have r2 : (176 * gx + 16 * mx + 8 * ix + jx) % 176 / 16 = mx := by omega
        rw [r1, r2]; omega
      · have r1 : (48 * gy + 16 * my + 8 * iy + jy) % 16 / 8 = iy := by omega
        have r2 : (176 * gx + 16 * mx + 8 * ix + jx) % 16 / 8 = ix := by omega
        rw [r1, r2]; omega
      · have r1 : (48 * gy + 16 * my + 8 * iy + jy) % 8 = jy := by omega
        have r2 : (176 * gx + 16 * mx + 8 * ix + jx) % 8 = jx := by omega
        rw [r1, r2]; omega
    · obtain ⟨q, rfl, hq⟩ : ∃ q, i = 4 + q ∧ q ≤ 1 := ⟨i - 4, by omega, by omega⟩
      have e5 : 4 + q - 4 = q := by omega
      unfold ixc
      rw [if_neg h4, e1, e2, e3, e4, e5, e7, e8]
      have hr : (24 * gy + 8 * my + jy) * (88 * 2) + (88 * gx + 8 * mx + jx) < 6336 * (2 * 2) := by omega
      have hs : 25344 * (2 * 2) + q * (6336 * (2 * 2)) + (24 * gy + 8 * my + jy) * (88 * 2) + (88 * gx + 8 * mx + jx) = 25344 * (2 * 2) + (q * (6336 * (2 * 2)) + ((24 * gy + 8 * my + jy) * (88 * 2) + (88 * gx + 8 * mx + jx))) := by omega
      rw [hs]
      clear hs
      have d1 : ((24 * gy + 8 * my + jy) * (88 * 2) + (88 * gx + 8 * mx + jx)) / (88 * 2) = 24 * gy + 8 * my + jy := by omega
      have d2 : ((24 * gy + 8 * my + jy) * (88 * 2) + (88 * gx + 8 * mx + jx)) % (88 * 2) = 88 * gx + 8 * mx + jx := by omega
      generalize (24 * gy + 8 * my + jy) * (88 * 2) + (88 * gx + 8 * mx + jx) = z at *
      have hn : ¬ 25344 * (2 * 2) + (q * (6336 * (2 * 2)) + z) < 25344 * (2 * 2) := by omega
      have hk2 : 25344 * (2 * 2) + (q * (6336 * (2 * 2)) + z) < 38016 * (2 * 2) := by omega
      have f1 : 25344 * (2 * 2) + (q * (6336 * (2 * 2)) + z) - 25344 * (2 * 2) = q * (6336 * (2 * 2)) + z := by omega
      have f2 : (q * (6336 * (2 * 2)) + z) / (6336 * (2 * 2)) = q := by omega
      have f3 : (q * (6336 * (2 * 2)) + z) % (6336 * (2 * 2)) = z := by omega
      unfold kG kM kI kJ
      rw [if_neg hn, if_neg hn, if_neg hn, if_neg hn, f1, f2, f3, d1, d2]
      clear d1 d2 f1 f2 f3 hn hr e1 e2 e3 e4 e5
      refine ⟨hk2, ?_, ?_, rfl, ?_⟩
      · have r1 : (24 * gy + 8 * my + jy) / 24 = gy := by omega
        have r2 : (88 * gx + 8 * mx + jx) / 88 = gx := by omega
        rw [r1, r2]; omega
      · have r1 : (24 * gy + 8 * my + jy) % 24 / 8 = my := by omega
        have r2 : (88 * gx + 8 * mx + jx) % 88 / 8 = mx := by omega
        rw [r1, r2]; omega
      · have r1 : (24 * gy + 8 * my + jy) % 8 = jy := by omega
        have r2 : (88 * gx + 8 * mx + jx) % 8 = jx := by omega
        rw [r1, r2]; omega

theorem ixc_of {c k : Nat} (hc : c = 1 ∨ c = 2) (hk : k < 38016 * (c * c)) :
    kG c k < 3 * (c * c) ∧ kM c k < 33 ∧ kI c k < 6 ∧ kJ c k < 64 ∧ ixc c (kG c k) (kM c k) (kI c k) (kJ c k) = k := by
  rcases hc with rfl | rfl
  · by_cases h : k < 25344 * (1 * 1)
    · obtain ⟨y, x, hkk, hx, hy⟩ : ∃ y x, k = y * (176 * 1) + x ∧ x < 176 * 1 ∧ y < 144 * 1 := ⟨k / (176 * 1), k % (176 * 1), by omega, by omega, by omega⟩
      have d1 : k / (176 * 1) = y := by omega
      have d2 : k % (176 * 1) = x := by omega
      unfold kG kM kI kJ
      rw [if_pos h, if_pos h, if_pos h, if_pos h, d1, d2]
      clear d1 d2 h hk
      have hi4 : y % 16 / 8 * 2 + x % 16 / 8 < 4 := by omega
      refine ⟨by omega, by omega, by omega, by omega, ?_⟩
      unfold ixc
      rw [if_pos hi4]
      have r1 : (y / 48 * 1 + x / 176) / 1 = y / 48 := by omega
      have r2 : (y / 48 * 1 + x / 176) % 1 = x / 176 := by omega
      have r3 : (y % 48 / 16 * 11 + x % 176 / 16) / 11 = y % 48 / 16 := by omega
      have r4 : (y % 48 / 16 * 11 + x % 176 / 16) % 11 = x % 176 / 16 := by omega
      have r5 : (y % 16 / 8 * 2 + x % 16 / 8) / 2 = y % 16 / 8 := by omega
      have r6 : (y % 16 / 8 * 2 + x % 16 / 8) % 2 = x % 16 / 8 := by omega
      have r7 : (y % 8 * 8 + x % 8) / 8 = y % 8 := by omega
      have r8 : (y % 8 * 8 + x % 8) % 8 = x % 8 := by omega
      rw [r1, r2, r3, r4, r5, r6, r7, r8, hkk]
      have s1 : 48 * (y / 48) + 16 * (y % 48 / 16) + 8 * (y % 16 / 8) + y % 8 = y := by omega
      have s2 : 176 * (x / 176) + 16 * (x % 176 / 16) + 8 * (x % 16 / 8) + x % 8 = x := by omega
      rw [s1, s2]
    · obtain ⟨q, y, x, hkk, hx, hy, hq⟩ : ∃ q y x, k = 25344 * (1 * 1) + (q * (6336 * (1 * 1)) + (y * (88 * 1) + x)) ∧ x < 88 * 1 ∧ y < 72 * 1 ∧ q < 2 :=
        ⟨(k - 25344 * (1 * 1)) / (6336 * (1 * 1)), (k - 25344 * (1 * 1)) % (6336 * (1 * 1)) / (88 * 1), (k - 25344 * (1 * 1)) % (6336 * (1 * 1)) % (88 * 1), by omega, by omega, by omega, by omega⟩
      have f1 : k - 25344 * (1 * 1) = q * (6336 * (1 * 1)) + (y * (88 * 1) + x) := by omega
      have f2 : (q * (6336 * (1 * 1)) + (y * (88 * 1) + x)) / (6336 * (1 * 1)) = q := by omega
      have f3 : (q * (6336 * (1 * 1)) + (y * (88 * 1) + x)) % (6336 * (1 * 1)) = y * (88 * 1) + x := by omega
      have d1 : (y * (88 * 1) + x) / (88 * 1) = y := by omega
      have d2 : (y * (88 * 1) + x) % (88 * 1) = x := by omega
      unfold kG kM kI kJ
      rw [if_neg h, if_neg h, if_neg h, if_neg h, f1, f2, f3, d1, d2]
      clear f1 f2 f3 d1 d2 h hk
      have hi4 : ¬ 4 + q < 4 := by omega
      refine ⟨by omega, by omega, by omega, by omega, ?_⟩
      unfold ixc
      rw [if_neg hi4]
      have r1 : (y / 24 * 1 + x / 88) / 1 = y / 24 := by omega
      have r2 : (y / 24 * 1 + x / 88) % 1 = x / 88 := by omega
      have r3 : (y % 24 / 8 * 11 + x % 88 / 8) / 11 = y % 24 / 8 := by omega
      have r4 : (y % 24 / 8 * 11 + x % 88 / 8) % 11 = x % 88 / 8 := by omega
      have r7 : (y % 8 * 8 + x % 8) / 8 = y % 8 := by omega
      have r8 : (y % 8 * 8 + x % 8) % 8 = x % 8 := by omega
      rw [r1, r2, r3, r4, r7, r8, hkk, show 4 + q - 4 = q by omega]
      have s1 : 24 * (y / 24) + 8 * (y % 24 / 8) + y % 8 = y := by omega
      have s2 : 88 * (x / 88) + 8 * (x % 88 / 8) + x % 8 = x := by omega
      rw [s1, s2]
      omega
  · by_cases h : k < 25344 * (2 * 2)
    · obtain ⟨y, x, hkk, hx, hy⟩ : ∃ y x, k = y * (176 * 2) + x ∧ x < 176 * 2 ∧ y < 144 * 2 := ⟨k / (176 * 2), k % (176 * 2), by omega, by omega, by omega⟩
      have d1 : k / (176 * 2) = y := by omega
      have d2 : k % (176 * 2) = x := by omega
      unfold kG kM kI kJ
      rw [if_pos h, if_pos h, if_pos h, if_pos h, d1, d2]
      clear d1 d2 h hk
      have hi4 : y % 16 / 8 * 2 + x % 16 / 8 < 4 := by omega
      refine ⟨by omega, by omega, by omega, by omega, ?_⟩
      unfold ixc
      rw [if_pos hi4]
      have r1 : (y / 48 * 2 + x / 176) / 2 = y / 48 := by omega
      have r2 : (y / 48 * 2 + x / 176) % 2 = x / 176 := by omega
      have r3 : (y % 48 / 16 * 11 + x % 176 / 16) / 11 = y % 48 / 16 := by omega
      have r4 : (y % 48 / 16 * 11 + x % 176 / 16) % 11 = x % 176 / 16 := by omega
      have r5 : (y % 16 / 8 * 2 + x % 16 / 8) / 2 = y % 16 / 8 := by omega
      have r6 : (y % 16 / 8 * 2 + x % 16 / 8) % 2 = x % 16 / 8 := by omega
      have r7 : (y % 8 * 8 + x % 8) / 8 = y % 8 := by omega
      have r8 : (y % 8 * 8 + x % 8) % 8 = x % 8 := by omega
      rw [r1, r2, r3, r4, r5, r6, r7, r8, hkk]
      have s1 : 48 * (y / 48) + 16 * (y % 48 / 16) + 8 * (y % 16 / 8) + y % 8 = y := by omega
      have s2 : 176 * (x / 176) + 16 * (x % 176 / 16) + 8 * (x % 16 / 8) + x % 8 = x := by omega
      rw [s1, s2]
    · obtain ⟨q, y, x, hkk, hx, hy, hq⟩ : ∃ q y x, k = 25344 * (2 * 2) + (q * (6336 * (2 * 2)) + (y * (88 * 2) + x)) ∧ x < 88 * 2 ∧ y < 72 * 2 ∧ q < 2 :=
        ⟨(k - 25344 * (2 * 2)) / (6336 * (2 * 2)), (k - 25344 * (2 * 2)) % (6336 * (2 * 2)) / (88 * 2), (k - 25344 * (2 * 2)) % (6336 * (2 * 2)) % (88 * 2), by omega, by omega, by omega, by omega⟩
      have f1 : k - 25344 * (2 * 2) = q * (6336 * (2 * 2)) + (y * (88 * 2) + x) := by omega
      have f2 : (q * (6336 * (2 * 2)) + (y * (88 * 2) + x)) / (6336 * (2 * 2)) = q := by omega
      have f3 : (q * (6336 * (2 * 2)) + (y * (88 * 2) + x)) % (6336 * (2 * 2)) = y * (88 * 2) + x := by omega
      have d1 : (y * (88 * 2) + x) / (88 * 2) = y := by omega
      have d2 : (y * (88 * 2) + x) % (88 * 2) = x := by omega
      unfold kG kM kI kJ
      rw [if_neg h, if_neg h, if_neg h, if_neg h, f1, f2, f3, d1, d2]
      clear f1 f2 f3 d1 d2 h hk
      have hi4 : ¬ 4 + q < 4 := by omega
      refine ⟨by omega, by omega, by omega, by omega, ?_⟩
      unfold ixc
      rw [if_neg hi4]
      have r1 : (y / 24 * 2 + x / 88) / 2 = y / 24 := by omega
      have r2 : (y / 24 * 2 + x / 88) % 2 = x / 88 := by omega
      have r3 : (y % 24 / 8 * 11 + x % 88 / 8) / 11 = y % 24 / 8 := by omega
      have r4 : (y % 24 / 8 * 11 + x % 88 / 8) % 11 = x % 88 / 8 := by omega
      have r7 : (y % 8 * 8 + x % 8) / 8 = y % 8 := by omega
      have r8 : (y % 8 * 8 + x % 8) % 8 = x % 8 := by omega
      rw [r1, r2, r3, r4, r7, r8, hkk, show 4 + q - 4 = q by omega]
      have s1 : 24 * (y / 24) + 8 * (y % 24 / 8) + y % 8 = y := by omega
      have s2 : 88 * (x / 88) + 8 * (x % 88 / 8) + x % 8 = x := by omega
      rw [s1, s2]
      omega

/-- when byte k is marked -/
def kR (c k : Nat) : Nat := 64 * (198 * kG c k + 6 * kM c k + kI c k) + kJ c k
theorem kR_at {c g m i j : Nat} (hc : c = 1 ∨ c = 2) (hg : g < 3 * (c * c)) (hm : m < 33) (hi : i < 6) (hj : j < 64) :
    ixc c g m i j < 38016 * (c * c) ∧ kR c (ixc c g m i j) = 64 * (198 * g + 6 * m + i) + j := by
  obtain ⟨h0, h1, h2, h3, h4⟩ := ixc_there hc hg hm hi hj
  refine ⟨h0, ?_⟩
  unfold kR
  rw [h1, h2, h3, h4]
theorem kR_of {c k g m i j : Nat} (hc : c = 1 ∨ c = 2) (hk : k < 38016 * (c * c)) (hm : m < 33) (hi : i < 6) (hj : j < 64) (h : kR c k = 64 * (198 * g + 6 * m + i) + j) : k = ixc c g m i j := by
  obtain ⟨h1, h2, h3, h4, h5⟩ := ixc_of hc hk
  unfold kR at h
  have e1 : kG c k = g := by omega
  have e2 : kM c k = m := by omega
  have e3 : kI c k = i := by omega
  have e4 : kJ c k = j := by omega
  rw [← h5, e1, e2, e3, e4]
theorem kR_lt {c k : Nat} (hc : c = 1 ∨ c = 2) (hk : k < 38016 * (c * c)) : kR c k < 64 * (198 * (3 * (c * c))) := by
  obtain ⟨h1, h2, h3, h4, -⟩ := ixc_of hc hk
  unfold kR
  omega

end Go.Proofs.Ytenplmmongphoaa
