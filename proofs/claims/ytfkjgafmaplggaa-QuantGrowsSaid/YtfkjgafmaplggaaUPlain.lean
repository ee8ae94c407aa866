/- quant, plainly: what levels are worth, what blocks are, the nearest level; what follows. -/
import Derived.Test.YtfkjgafmaplggaaKit
namespace Go.Proofs.Ytfkjgafmaplggaa
open Go.RowKit Go.Shelf
set_option linter.unusedVariables false

/-- is a number a level, a quantiser? -/
def okLU (l : Int) : Bool := decide (-127 ≤ l) && decide (l ≤ 127)
def okQU (q : Int) : Bool := decide (1 ≤ q) && decide (q ≤ 31)
theorem okLU_iff (l : Int) : okLU l = true ↔ -127 ≤ l ∧ l ≤ 127 := by simp [okLU]
theorem okQU_iff (q : Int) : okQU q = true ↔ 1 ≤ q ∧ q ≤ 31 := by simp [okQU]
/-- how far from 0 the value of a level lies that is so far from 0, uncut -/
def farU (m q : Int) : Int := if q % 2 = 0 then q * (2 * m + 1) - 1 else q * (2 * m + 1)
/-- the value of a level -/
def worthU (l q : Int) : Int := if 0 < l then max (-2048) (min (farU l q) 2047) else if l < 0 then max (-2048) (min (-(farU (-l) q)) 2047) else 0
/-- what Value answers -/
def valueU (l q : Int) : Int × Int := if okLU l && okQU q then (worthU l q, 0) else (0, 3)
/-- what DC answers -/
def dcU (c : Int) : Int × Int := if c < 0 ∨ 255 < c then (0, 3) else if c = 0 ∨ c = 128 then (0, 10) else if c = 255 then (1024, 0) else (8 * c, 0)
/-- what Inter answers -/
def interU (xs : List Int) (q : Int) : Int × List Int := if xs.length ≠ 64 then (2, []) else if xs.all okLU = false ∨ okQU q = false then (3, []) else (0, xs.map fun l => worthU l q)
/-- what Intra answers -/
def intraU (xs : List Int) (q c : Int) : Int × List Int := if (interU xs q).1 ≠ 0 then ((interU xs q).1, []) else if (dcU c).2 ≠ 0 then ((dcU c).2, []) else (0, (interU xs q).2.set 0 (dcU c).1)
/-- how far a level's value lies from a number -/
def gapU (q n l : Int) : Int := max (worthU l q - n) (n - worthU l q)
def sideU (n : Int) : Int := if n < 0 then -1 else 1
/-- the nearest level of the first ones, on the number's own side -/
def bestU (q n : Int) : Nat → Int
  | 0 => 0
  | k + 1 => if gapU q n (sideU n * k) < gapU q n (bestU q n k) then sideU n * k else bestU q n k
/-- what Nearest answers -/
def nearU (n q : Int) : Int × Int := if -2048 ≤ n ∧ n ≤ 2047 ∧ okQU q = true then (bestU q n 128, 0) else (0, 3)

/-! ### what values are -/
theorem farU_ge {m q : Int} (hm : 1 ≤ m) (hq : 1 ≤ q) : 3 ≤ farU m q := by
  have h : 1 * 3 ≤ q * (2 * m + 1) := Int.mul_le_mul hq (by omega) (by omega) (by omega)
  unfold farU
  split
  · have h2 : 2 * 3 ≤ q * (2 * m + 1) := Int.mul_le_mul (by omega) (by omega) (by omega) (by omega)
    omega
  · omega
theorem farU_le {m q : Int} (h0 : 0 ≤ m) (hm : m ≤ 127) (h1 : 1 ≤ q) (hq : q ≤ 31) : farU m q ≤ 7905 := by
  have h : q * (2 * m + 1) ≤ 31 * 255 := Int.mul_le_mul hq (by omega) (by omega) (by omega)
  unfold farU
  split <;> omega
theorem worthU_zero (q : Int) : worthU 0 q = 0 := rfl
theorem worthU_pos {l q : Int} (hl : 0 < l) (hq : 1 ≤ q) : 0 < worthU l q := by
  have := farU_ge (m := l) (by omega) hq
  unfold worthU
  rw [if_pos hl]
  omega
theorem worthU_neg {l q : Int} (hl : l < 0) (hq : 1 ≤ q) : worthU l q < 0 := by
  have := farU_ge (m := -l) (by omega) hq
  unfold worthU
  rw [if_neg (by omega), if_pos hl]
  omega
theorem worthU_in (l q : Int) : -2048 ≤ worthU l q ∧ worthU l q ≤ 2047 := by
  unfold worthU
  split
  · omega
  · split <;> omega
theorem worthU_odd {l q : Int} (h : okLU l = true) (hq : okQU q = true) : (worthU l q % 2 ≠ 0 ∨ worthU l q = 0 ∨ worthU l q = -2048) ∧ (worthU l q = -worthU (-l) q ∨ (worthU l q = 2047 ∧ worthU (-l) q = -2048) ∨ (worthU l q = -2048 ∧ worthU (-l) q = 2047)) := by
  rw [okLU_iff] at h
  rw [okQU_iff] at hq
  have hp : ∀ m : Int, farU m q % 2 = 1 := by
    intro m
    unfold farU
    have e : ∀ a : Int, q * (2 * a + 1) = 2 * (q * a) + q := fun a => by rw [Int.mul_add, Int.mul_one, ← Int.mul_assoc, Int.mul_comm q 2, Int.mul_assoc]
    rw [e]
    generalize q * m = t
    split <;> omega
  have p1 := hp l
  have p2 := hp (-l)
  unfold worthU
  rw [Int.neg_neg]
  rcases Int.lt_trichotomy l 0 with h1 | h1 | h1
  · rw [if_neg (show ¬ 0 < l by omega), if_pos h1, if_pos (show 0 < -l by omega)]
    generalize farU (-l) q = t at *
    omega
  · subst h1
    simp
  · rw [if_pos h1, if_neg (show ¬ 0 < -l by omega), if_pos (show -l < 0 by omega)]
    generalize farU l q = t at *
    omega
theorem worthU_grow {l q : Int} (h : okLU l = true) (hl : l < 127) (hq : okQU q = true) :
    worthU l q ≤ worthU (l + 1) q ∧ ¬ (worthU (l + 1) q = worthU l q ∧ -2048 < worthU l q ∧ worthU l q < 2047) ∧
    (0 < l → worthU (l + 1) q < 2047 → worthU (l + 1) q - worthU l q = 2 * q) ∧ (l < -1 → -2048 < worthU l q → worthU (l + 1) q - worthU l q = 2 * q) ∧
    (0 < l → q < 31 → worthU l q < worthU l (q + 1) ∨ (worthU l q = 2047 ∧ worthU l (q + 1) = 2047)) := by
  rw [okLU_iff] at h
  rw [okQU_iff] at hq
  have e : ∀ m : Int, farU (m + 1) q = farU m q + 2 * q := by
    intro m
    unfold farU
    have e1 : q * (2 * (m + 1) + 1) = q * (2 * m + 1) + 2 * q := by rw [show 2 * (m + 1) + 1 = (2 * m + 1) + 2 by omega, Int.mul_add, Int.mul_comm q 2]
    rw [e1]
    split <;> omega
  have g : ∀ m : Int, 1 ≤ m → farU m q < farU m (q + 1) := by
    intro m hm
    unfold farU
    have e1 : (q + 1) * (2 * m + 1) = q * (2 * m + 1) + (2 * m + 1) := by rw [Int.add_mul, Int.one_mul]
    rw [e1]
    split <;> split <;> omega
  rcases Int.lt_trichotomy l 0 with h1 | h1 | h1
  · by_cases h2 : l = -1
    · subst h2
      have := worthU_neg (l := -1) (q := q) (by omega) hq.1
      rw [show (-1 : Int) + 1 = 0 by omega, worthU_zero]
      exact ⟨by omega, by omega, by omega, by omega, by omega⟩
    · have e1 := e (-(l + 1))
      have e2 := farU_ge (m := -(l + 1)) (q := q) (by omega) hq.1
      rw [show -(l + 1) + 1 = -l by omega] at e1
      have a1 : worthU l q = max (-2048) (min (-(farU (-l) q)) 2047) := by unfold worthU; rw [if_neg (by omega), if_pos h1]
      have a2 : worthU (l + 1) q = max (-2048) (min (-(farU (-(l + 1)) q)) 2047) := by unfold worthU; rw [if_neg (by omega), if_pos (by omega)]
      generalize farU (-l) q = s at *
      generalize farU (-(l + 1)) q = t at *
      rw [a1, a2]
      exact ⟨by omega, by omega, by omega, by omega, by omega⟩
  · subst h1
    have := worthU_pos (l := 1) (q := q) (by omega) hq.1
    rw [show (0 : Int) + 1 = 1 by omega, worthU_zero]
    exact ⟨by omega, by omega, by omega, by omega, by omega⟩
  · have e1 := e l
    have e2 := farU_ge (m := l) (q := q) (by omega) hq.1
    have e3 := g l (by omega)
    have a1 : worthU l q = max (-2048) (min (farU l q) 2047) := by unfold worthU; rw [if_pos h1]
    have a2 : worthU (l + 1) q = max (-2048) (min (farU (l + 1) q) 2047) := by unfold worthU; rw [if_pos (by omega)]
    have a3 : worthU l (q + 1) = max (-2048) (min (farU l (q + 1)) 2047) := by unfold worthU; rw [if_pos h1]
    generalize farU (l + 1) q = t at *
    generalize farU l (q + 1) = u at *
    generalize farU l q = s at *
    rw [a1, a2, a3]
    exact ⟨by omega, by omega, by omega, by omega, by omega⟩

/-! ### the nearest level -/
theorem gapU_zero (q n : Int) : gapU q n 0 = max (-n) n := by unfold gapU; rw [worthU_zero]; omega
theorem gapU_in {q n : Int} (l : Int) (h1 : -2048 ≤ n) (h2 : n ≤ 2047) : 0 ≤ gapU q n l ∧ gapU q n l ≤ 4095 := by
  have := worthU_in l q
  unfold gapU
  omega
/-- a level of the other side is farther away than 0 -/
theorem gapU_other {q n l : Int} (hq : 1 ≤ q) (h0 : l ≠ 0) (h : (n < 0 ∧ 0 ≤ l) ∨ (0 ≤ n ∧ l ≤ 0)) : gapU q n 0 < gapU q n l := by
  rw [gapU_zero]
  unfold gapU
  rcases h with ⟨h1, h2⟩ | ⟨h1, h2⟩
  · have := worthU_pos (l := l) (by omega) hq
    omega
  · have := worthU_neg (l := l) (by omega) hq
    omega
theorem sideU_sq (n : Int) : sideU n = 1 ∨ sideU n = -1 := by unfold sideU; split <;> simp
theorem bestU_one (q n : Int) : bestU q n 1 = 0 := by
  unfold bestU
  rw [show bestU q n 0 = 0 from rfl]
  simp
theorem bestU_in (q n : Int) : ∀ k : Nat, ∃ j : Nat, bestU q n k = sideU n * j ∧ (j = 0 ∨ j < k)
  | 0 => ⟨0, by simp [bestU], .inl rfl⟩
  | k + 1 => by
    obtain ⟨j, h1, h2⟩ := bestU_in q n k
    unfold bestU
    split
    · exact ⟨k, rfl, .inr (by omega)⟩
    · exact ⟨j, h1, by omega⟩
theorem bestU_lv (q n : Int) {k : Nat} (hk : k ≤ 128) : -127 ≤ bestU q n k ∧ bestU q n k ≤ 127 := by
  obtain ⟨j, h1, h2⟩ := bestU_in q n k
  rw [h1]
  rcases sideU_sq n with h | h <;> rw [h] <;> omega
theorem bestU_le (q n : Int) : ∀ k j : Nat, j < k → gapU q n (bestU q n k) ≤ gapU q n (sideU n * j) ∧ (gapU q n (bestU q n k) = gapU q n (sideU n * j) → max (bestU q n k) (-(bestU q n k)) ≤ j)
  | 0, j, h => absurd h (by omega)
  | k + 1, j, h => by
    have hs : ∀ i : Nat, max (sideU n * i) (-(sideU n * i)) = i := fun i => by rcases sideU_sq n with h | h <;> rw [h] <;> omega
    by_cases hj : j < k
    · obtain ⟨h1, h2⟩ := bestU_le q n k j hj
      unfold bestU
      split
      · rename_i h3
        exact ⟨by omega, fun e => by omega⟩
      · exact ⟨h1, h2⟩
    · obtain rfl : j = k := by omega
      unfold bestU
      split
      · exact ⟨Int.le_refl _, fun _ => by rw [hs]; exact Int.le_refl _⟩
      · rename_i h3
        obtain ⟨i, e1, e2⟩ := bestU_in q n j
        refine ⟨by omega, fun _ => ?_⟩
        rw [e1, hs]
        omega
theorem bestU_gap0 (q n : Int) : ∀ k : Nat, gapU q n (bestU q n k) ≤ gapU q n 0
  | 0 => Int.le_refl _
  | k + 1 => by
    have := bestU_gap0 q n k
    unfold bestU
    split <;> omega
/-- no level is nearer, and of those as near none is nearer to 0 -/
theorem bestU_near {q n l : Int} (hq : okQU q = true) (hl : okLU l = true) :
    gapU q n (bestU q n 128) ≤ gapU q n l ∧ (gapU q n (bestU q n 128) < gapU q n l ∨ max (bestU q n 128) (-(bestU q n 128)) ≤ max l (-l)) := by
  rw [okQU_iff] at hq
  rw [okLU_iff] at hl
  by_cases h : l ≠ 0 ∧ ((n < 0 ∧ 0 ≤ l) ∨ (0 ≤ n ∧ l ≤ 0))
  · have h1 := gapU_other hq.1 h.1 h.2
    have h2 := bestU_gap0 q n 128
    exact ⟨by omega, .inl (by omega)⟩
  · obtain ⟨j, hj1, hj2⟩ : ∃ j : Nat, l = sideU n * j ∧ j < 128 := by
      unfold sideU
      by_cases hn : n < 0
      · exact ⟨(-l).toNat, by rw [if_pos hn]; omega, by omega⟩
      · exact ⟨l.toNat, by rw [if_neg hn]; omega, by omega⟩
    obtain ⟨h1, h2⟩ := bestU_le q n 128 j hj2
    have h3 : max l (-l) = j := by rw [hj1]; rcases sideU_sq n with e | e <;> rw [e] <;> omega
    rw [← hj1] at h1 h2
    refine ⟨h1, ?_⟩
    by_cases h4 : gapU q n (bestU q n 128) = gapU q n l
    · exact .inr (by rw [h3]; exact h2 h4)
    · exact .inl (by omega)
/-- the nearest level of a level's value has that value -/
theorem bestU_worth {q l : Int} (hq : okQU q = true) (hl : okLU l = true) : worthU (bestU q (worthU l q) 128) q = worthU l q := by
  have h := (bestU_near (n := worthU l q) hq hl).1
  have h0 : gapU q (worthU l q) l = 0 := by unfold gapU; omega
  rw [h0] at h
  unfold gapU at h
  omega

/-! ### blocks -/
theorem allU_iff (b : List Int) : b.all okLU = true ↔ ∀ k, k < b.length → okLU (b[k]?.getD 0) = true := by
  rw [List.all_eq_true]
  constructor
  · intro h k hk
    rw [List.getElem?_eq_getElem hk]
    exact h _ (List.getElem_mem _)
  · intro h x hx
    obtain ⟨k, hk, rfl⟩ := List.getElem_of_mem hx
    have := h k hk
    rw [List.getElem?_eq_getElem hk] at this
    exact this
theorem not_allU {b : List Int} {k : Nat} (hk : k < b.length) (h : okLU (b[k]?.getD 0) = false) : b.all okLU = false := by
  rw [Bool.eq_false_iff]
  intro h2
  have := (allU_iff b).1 h2 k hk
  rw [h] at this
  cases this
theorem interU_len {xs : List Int} (q : Int) (h : xs.length ≠ 64) : interU xs q = (2, []) := by unfold interU; rw [if_pos h]
theorem interU_bad {xs : List Int} {q : Int} (h : xs.length = 64) (h2 : xs.all okLU = false ∨ okQU q = false) : interU xs q = (3, []) := by unfold interU; rw [if_neg (by omega), if_pos h2]
theorem interU_ok {xs : List Int} {q : Int} (h : xs.length = 64) (h2 : xs.all okLU = true) (h3 : okQU q = true) : interU xs q = (0, xs.map fun l => worthU l q) := by unfold interU; rw [if_neg (by omega), if_neg (by rw [h2, h3]; simp)]
theorem interU_cases (xs : List Int) (q : Int) : interU xs q = (2, []) ∨ interU xs q = (3, []) ∨ (xs.length = 64 ∧ xs.all okLU = true ∧ okQU q = true ∧ interU xs q = (0, xs.map fun l => worthU l q)) := by
  by_cases h : xs.length = 64
  · by_cases h2 : xs.all okLU = false ∨ okQU q = false
    · exact .inr (.inl (interU_bad h h2))
    · have h3 : xs.all okLU = true := by cases e : xs.all okLU <;> simp_all
      have h4 : okQU q = true := by cases e : okQU q <;> simp_all
      exact .inr (.inr ⟨h, h3, h4, interU_ok h h3 h4⟩)
  · exact .inl (interU_len q h)
/-- so many values, and noughts -/
def fillU (xs : List Int) (q : Int) (k : Nat) : List Int := ((xs.take k).map fun l => worthU l q) ++ List.replicate (64 - k) 0
theorem fillU_length {xs : List Int} (q : Int) {k : Nat} (h : xs.length = 64) (hk : k ≤ 64) : (fillU xs q k).length = 64 := by simp [fillU]; omega
theorem fillU_zero (xs : List Int) (q : Int) : fillU xs q 0 = List.replicate 64 0 := by simp [fillU]
theorem fillU_all {xs : List Int} (q : Int) (h : xs.length = 64) : fillU xs q 64 = xs.map fun l => worthU l q := by simp [fillU, List.take_of_length_le (Nat.le_of_eq h)]
theorem fillU_step {xs : List Int} (q : Int) {k : Nat} (h : xs.length = 64) (hk : k < 64) : (fillU xs q k).set k (worthU (xs[k]?.getD 0) q) = fillU xs q (k + 1) := by
  unfold fillU
  have e1 : ((xs.take k).map fun l => worthU l q).length = k := by simp; omega
  rw [show 64 - k = (64 - (k + 1)) + 1 by omega, List.replicate_succ, List.set_append_right _ _ (by omega), e1, Nat.sub_self, List.set_cons_zero, List.take_succ_eq_append_getElem (by omega), List.map_append, List.append_assoc, List.getElem?_eq_getElem (by omega)]
  rfl

end Go.Proofs.Ytfkjgafmaplggaa
