/- What Find and Start answer, as plain functions; the contracts of bits.Find, bits.firstOne and bits.Start over them. -/
import Derived.Test.YtmampneedmodeaaDoorFind2
namespace Go.Proofs.YtmampneedmodeaaDoor
open Go.RowKit Go.Shelf
set_option linter.unusedVariables false

theorem zl_range (zs : List UInt8) (i k : Nat) :
    zl zs (List.range' i k) ≤ k ∧ (∀ y, i + k - zl zs (List.range' i k) ≤ y → y < i + k → bt zs y = 0) ∧ (zl zs (List.range' i k) < k → bt zs (i + k - zl zs (List.range' i k) - 1) ≠ 0) := by
  induction k with
  | zero => exact ⟨by simp [zl], fun y h1 h2 => by simp [zl] at h1; omega, fun h => by omega⟩
  | succ k ih =>
    obtain ⟨h1, h2, h3⟩ := ih
    rw [List.range'_concat, zl_snoc]
    simp only [Nat.one_mul]
    by_cases hb : bt zs (i + k) = 0
    · rw [if_pos hb]
      refine ⟨by omega, fun y a b => ?_, fun h => ?_⟩
      · by_cases hy : y = i + k
        · rw [hy]; exact hb
        · exact h2 y (by omega) (by omega)
      · have := h3 (by omega)
        rw [show i + (k + 1) - (zl zs (List.range' i k) + 1) - 1 = i + k - zl zs (List.range' i k) - 1 by omega]
        exact this
    · rw [if_neg hb]
      exact ⟨by omega, fun y a b => by omega, fun h => by simpa [Nat.add_assoc] using hb⟩
theorem zl_15 {zs : List UInt8} {i k : Nat} (hk : 15 ≤ k) (h : ∀ y, i + k - 15 ≤ y → y < i + k → bt zs y = 0) : 15 ≤ zl zs (List.range' i k) := by
  obtain ⟨h1, h2, h3⟩ := zl_range zs i k
  false_or_by_contra
  exact h3 (by omega) (h _ (by omega) (by omega))

theorem num_zero {zs : List UInt8} {y n : Nat} : num zs y n = 0 ↔ ∀ j, j < n → bt zs (y + j) = 0 := by
  induction n with
  | zero => simp [num]
  | succ n ih =>
    simp only [num]
    constructor
    · intro h j hj
      by_cases e : j = n
      · subst e; omega
      · exact ih.1 (by omega) j (by omega)
    · intro h
      have h1 := ih.2 fun j hj => h j (by omega)
      have h2 := h n (by omega)
      omega
theorem num_one {zs : List UInt8} {y : Nat} : num zs y 16 = 1 ↔ (∀ j, j < 15 → bt zs (y + j) = 0) ∧ bt zs (y + 15) = 1 := by
  have h := bt_le zs (y + 15)
  rw [show num zs y 16 = 2 * num zs y 15 + bt zs (y + 15) from rfl]
  constructor
  · intro e; exact ⟨num_zero.1 (by omega), by omega⟩
  · intro ⟨a, b⟩; have := num_zero.2 a; omega

/-- does a start code stand there? -/
def isCode (zs : List UInt8) (y : Nat) : Bool := decide (y + 16 ≤ zs.length * 8) && num zs y 16 == 1
/-- the first start code from a place on -/
def fnd (zs : List UInt8) (i : Nat) : Option Nat := (List.range' i (zs.length * 8 - i)).find? (isCode zs)
/-- the first one from a place on -/
def one (zs : List UInt8) (i : Nat) : Option Nat := (List.range' i (zs.length * 8 - i)).find? fun y => bt zs y == 1

theorem noHit_code {zs : List UInt8} {i n y : Nat} (h : NoHit zs (List.range' i n)) (hy : i ≤ y) (hn : y + 16 ≤ i + n) : num zs y 16 ≠ 1 := by
  intro e
  obtain ⟨a, b⟩ := num_one.1 e
  have hp : List.range' i (y + 15 - i) ++ [y + 15] <+: List.range' i n := by
    have e1 : List.range' i (y + 15 - i) ++ [y + 15] = List.range' i (y + 16 - i) := by
      rw [show y + 16 - i = (y + 15 - i) + 1 by omega, List.range'_concat]; simp; omega
    rw [e1, show n = (y + 16 - i) + (n - (y + 16 - i)) by omega, ← List.range'_append_1]
    exact List.prefix_append _ _
  rcases h (List.range' i (y + 15 - i)) (y + 15) hp with h0 | h0
  · omega
  · have := zl_15 (zs := zs) (i := i) (k := y + 15 - i) (by omega) fun z z1 z2 => by
      have := a (z - y) (by omega); rwa [show y + (z - y) = z by omega] at this
    omega

theorem fnd_none {zs : List UInt8} {i : Nat} (h : NoHit zs (List.range' i (zs.length * 8 - i))) : fnd zs i = none := by
  unfold fnd
  rw [List.find?_eq_none]
  intro y hy
  simp only [List.mem_range'_1] at hy
  simp only [isCode, Bool.and_eq_true, decide_eq_true_eq, beq_iff_eq, not_and]
  exact fun h16 => noHit_code h (by omega) (by omega)
theorem fnd_some {zs : List UInt8} {i k : Nat} (hk : k < zs.length * 8 - i) (h : NoHit zs (List.range' i k)) (hb : bt zs (i + k) ≠ 0) (hz : 15 ≤ zl zs (List.range' i k)) : fnd zs i = some (i + k - 15) := by
  obtain ⟨h1, h2, h3⟩ := zl_range zs i k
  have hle := bt_le zs (i + k)
  unfold fnd
  rw [List.find?_range'_eq_some]
  refine ⟨?_, ?_, fun j a b => ?_⟩
  · simp only [isCode, Bool.and_eq_true, decide_eq_true_eq, beq_iff_eq]
    refine ⟨by omega, num_one.2 ⟨fun j hj => h2 _ (by omega) (by omega), ?_⟩⟩
    rw [show i + k - 15 + 15 = i + k by omega]; omega
  · simp; omega
  · simp only [isCode, Bool.not_eq_true', Bool.and_eq_false_iff, decide_eq_false_iff_not, beq_eq_false_iff_ne]
    exact .inr (noHit_code h (by omega) (by omega))

/-- what Find answers -/
def findV (zs : List UInt8) (i : Int) : Value :=
  if i < 0 then .tuple #[.int .i64 0, .int .i64 3] else match fnd zs i.toNat with
  | some y => .tuple #[.int .i64 y, .int .i64 0]
  | none => .tuple #[.int .i64 0, .int .i64 5]

theorem one_none {zs : List UInt8} {i : Nat} (h : ∀ y ∈ List.range' i (zs.length * 8 - i), bt zs y = 0) : one zs i = none := by
  unfold one
  rw [List.find?_eq_none]
  intro y hy
  simp [h y hy]
theorem one_some {zs : List UInt8} {i k : Nat} (hk : k < zs.length * 8 - i) (h : ∀ y ∈ List.range' i k, bt zs y = 0) (hb : bt zs (i + k) = 1) : one zs i = some (i + k) := by
  unfold one
  rw [List.find?_range'_eq_some]
  refine ⟨by simp [hb], by simp; omega, fun j a b => ?_⟩
  have := h j (by simp; omega)
  simp [this]

/-- what firstOne answers -/
def oneV (zs : List UInt8) (i : Nat) : Value := match one zs i with
  | some y => .tuple #[.int .i64 y, .bool true]
  | none => .tuple #[.int .i64 0, .bool false]
/-- what Start answers -/
def startV (zs : List UInt8) (i : Int) : Value :=
  if i < 0 then .tuple #[.int .i64 0, .int .i64 0, .int .i64 3] else match one zs i.toNat with
  | none => .tuple #[.int .i64 0, .int .i64 0, .int .i64 5]
  | some y => if y < i.toNat + 15 then .tuple #[.int .i64 0, .int .i64 0, .int .i64 7]
    else if zs.length * 8 < y + 5 then .tuple #[.int .i64 0, .int .i64 0, .int .i64 5]
    else .tuple #[.int .i64 (num zs (y + 1) 4), .int .i64 ((y + 5 - i.toNat : Nat)), .int .i64 0]

theorem one_lt {zs : List UInt8} {i y : Nat} (h : one zs i = some y) : i ≤ y ∧ y < zs.length * 8 ∧ bt zs y = 1 ∧ ∀ j, i ≤ j → j < y → bt zs j = 0 := by
  unfold one at h
  rw [List.find?_range'_eq_some] at h
  obtain ⟨a, b, c⟩ := h
  simp at a b
  refine ⟨by omega, by omega, a, fun j h1 h2 => ?_⟩
  have := c j h1 h2
  have := bt_le zs j
  simp at *
  omega

end Go.Proofs.YtmampneedmodeaaDoor
