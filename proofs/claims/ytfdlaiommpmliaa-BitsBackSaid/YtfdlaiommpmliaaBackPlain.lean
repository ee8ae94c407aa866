/- Acts that a pen took, as bits; what is read of them. -/
import Derived.Test.YtfdlaiommpmliaaActs
import Derived.Test.YtfdlaiommpmliaaStarts
namespace Go.Proofs.Ytfdlaiommpmliaa
open Go.RowKit Go.Shelf
set_option linter.unusedVariables false

/-- the bits of an act -/
def actBits (x : Act4) : List Bool := if x.c then textBits x.s else numBits x.n.toNat x.k.toNat
/-- an act that a pen takes -/
def good (x : Act4) : Prop := (x.c = true ∧ AllBits x.s ∧ x.s.size ≤ 100) ∨ (x.c = false ∧ 0 ≤ x.k ∧ x.k ≤ 32 ∧ 0 ≤ x.n ∧ x.n / 2 ^ x.k.toNat = 0)
theorem good_len {x : Act4} (h : good x) : (actBits x).length ≤ 100 := by
  rcases h with ⟨hc, _, hs⟩ | ⟨hc, h0, h32, _⟩
  · simp [actBits, hc, textBits_len, hs]
  · simp [actBits, hc, numBits]; omega
def allBits (K : List Act4) : List Bool := K.flatMap actBits
theorem allBits_snoc (K : List Act4) (x : Act4) : allBits (K ++ [x]) = allBits K ++ actBits x := by simp [allBits]
theorem allBits_len {K : List Act4} (h : ∀ x ∈ K, good x) : (allBits K).length ≤ K.length * 100 := by
  induction K with
  | nil => simp [allBits]
  | cons x r ih =>
    have h1 := good_len (h x (by simp))
    have h2 := ih fun y hy => h y (by simp [hy])
    simp only [allBits, List.flatMap_cons, List.length_append, List.length_cons] at *
    omega
theorem allBits_take_le (K : List Act4) (j : Nat) : (allBits (K.take j)).length ≤ (allBits K).length := by
  have e : allBits K = allBits (K.take j) ++ allBits (K.drop j) := by
    unfold allBits; rw [← List.flatMap_append, List.take_append_drop]
  rw [e]; simp
theorem allBits_step {K : List Act4} {j : Nat} (hj : j < K.length) : allBits (K.take (j + 1)) = allBits (K.take j) ++ actBits (K[j]?.getD default) := by
  rw [List.take_add_one, List.getElem?_eq_getElem hj]
  simp only [Option.toList_some, Option.getD_some]
  exact allBits_snoc _ _
/-- the bits of an act stand at its place -/
theorem allBits_at {K : List Act4} {j t : Nat} (hj : j < K.length) (ht : t < (actBits (K[j]?.getD default)).length) : (allBits K).getD ((allBits (K.take j)).length + t) false = (actBits (K[j]?.getD default)).getD t false := by
  have e : allBits K = allBits (K.take j) ++ (actBits (K[j]?.getD default) ++ allBits (K.drop (j + 1))) := by
    rw [← List.append_assoc, ← allBits_step hj]
    unfold allBits; rw [← List.flatMap_append, List.take_append_drop]
  rw [e]
  simp only [List.getD_eq_getElem?_getD]
  rw [List.getElem?_append_right (by omega), Nat.add_sub_cancel_left, List.getElem?_append_left ht]
theorem allBits_fit {K : List Act4} {j : Nat} (hj : j < K.length) : (allBits (K.take j)).length + (actBits (K[j]?.getD default)).length ≤ (allBits K).length := by
  have := allBits_take_le K (j + 1)
  rw [allBits_step hj] at this
  simpa using this

/-- a number's bits are the number -/
theorem num_numBits {zs : List UInt8} {i n k : Nat} (hn : n / 2 ^ k = 0) (h : ∀ t, t < k → bt zs (i + t) = ((numBits n k).getD t false).toNat) : num zs i k = n := by
  have key : ∀ j, j ≤ k → num zs i j = n / 2 ^ (k - j) := by
    intro j
    induction j with
    | zero => intro _; simp [num, hn]
    | succ j ih =>
      intro hj
      simp only [num]
      rw [ih (by omega), h j (by omega)]
      have e : ((numBits n k).getD j false).toNat = n / 2 ^ (k - 1 - j) % 2 := by
        simp only [numBits, List.getD_eq_getElem?_getD]
        rw [List.getElem?_map, List.getElem?_range (by omega)]
        simp only [Option.map_some, Option.getD_some]
        have : n / 2 ^ (k - 1 - j) % 2 < 2 := Nat.mod_lt _ (by omega)
        generalize n / 2 ^ (k - 1 - j) % 2 = q at *
        obtain rfl | rfl : q = 0 ∨ q = 1 := by omega
        · rfl
        · rfl
      rw [e, show k - (j + 1) = k - 1 - j by omega, show k - j = (k - 1 - j) + 1 by omega, Nat.pow_succ, ← Nat.div_div_eq_div_mul]
      omega
  have := key k (Nat.le_refl _)
  simpa using this

/-- what is read at an act's place -/
theorem read_put {K : List Act4} {zs : List UInt8} (hp : Packed zs (allBits K)) {j : Nat} (hj : j < K.length) {x : Act4} (hx : K[j]?.getD default = x) (hg : good x) (hc : x.c = false) :
    ((readN zs ((allBits (K.take j)).length : Nat) x.k == x.n) && (readE zs ((allBits (K.take j)).length : Nat) x.k == 0)) = true := by
  rcases hg with ⟨h, _⟩ | ⟨_, h0, h32, hn0, hn⟩
  · rw [hc] at h; cases h
  · have hl : (actBits x).length = x.k.toNat := by simp [actBits, hc, numBits]
    have hf := allBits_fit hj
    rw [hx, hl] at hf
    have hz := hp.1
    have hb := num_numBits (zs := zs) (i := (allBits (K.take j)).length) (n := x.n.toNat) (k := x.k.toNat)
      (by have : ((x.n.toNat : Int) / 2 ^ x.k.toNat) = ((x.n.toNat / 2 ^ x.k.toNat : Nat) : Int) := by simp
          have e : (x.n.toNat : Int) = x.n := by omega
          rw [e] at this; omega)
      (fun t ht => by
        rw [hp.2 _ (by omega)]
        have := allBits_at (K := K) (j := j) (t := t) hj (by rw [hx, hl]; exact ht)
        rw [this, hx]
        simp [actBits, hc])
    unfold readN readE
    rw [if_neg (by omega), if_neg (by omega), if_neg (by omega), if_neg (by omega), Int.toNat_natCast, hb]
    simp
    omega
theorem read_text {K : List Act4} {zs : List UInt8} (hp : Packed zs (allBits K)) {j t : Nat} (hj : j < K.length) {x : Act4} (hx : K[j]?.getD default = x) (hg : good x) (hc : x.c = true) (ht : t < x.s.size) :
    ((readN zs (((allBits (K.take j)).length : Int) + t) 1 == ((x.s[t].toNat : Int) - 48)) && (readE zs (((allBits (K.take j)).length : Int) + t) 1 == 0)) = true := by
  rcases hg with ⟨_, hs, _⟩ | ⟨h, _⟩
  · have hl : (actBits x).length = x.s.size := by simp [actBits, hc, textBits_len]
    have hf := allBits_fit hj
    rw [hx, hl] at hf
    have hz := hp.1
    have hb : bt zs ((allBits (K.take j)).length + t) = (x.s[t] == 49).toNat := by
      rw [hp.2 _ (by omega)]
      have := allBits_at (K := K) (j := j) (t := t) hj (by rw [hx, hl]; exact ht)
      rw [this, hx]
      simp only [actBits, hc, if_true]
      congr 1
      rw [List.getD_eq_getElem?_getD, List.getElem?_eq_getElem (by rw [textBits_len]; exact ht)]
      simp [textBits]
      rfl
    have e : (((allBits (K.take j)).length : Int) + t) = (((allBits (K.take j)).length + t : Nat) : Int) := by omega
    rw [e]
    unfold readN readE
    rw [if_neg (by omega), if_neg (by omega), if_neg (by omega), if_neg (by omega), Int.toNat_natCast, show ((1 : Int).toNat) = 1 from rfl]
    simp only [num, Nat.add_zero, Nat.mul_zero, Nat.zero_add, hb]
    rcases hs t ht with h | h <;> rw [h] <;> rfl
  · rw [hc] at h; cases h
theorem read_rest {K : List Act4} {zs : List UInt8} (hp : Packed zs (allBits K)) :
    0 ≤ (zs.length : Int) * 8 - (allBits K).length ∧ (zs.length : Int) * 8 - (allBits K).length < 8 ∧
    ((readN zs ((allBits K).length : Nat) ((zs.length : Int) * 8 - (allBits K).length) == 0) && (readE zs ((allBits K).length : Nat) ((zs.length : Int) * 8 - (allBits K).length) == 0)) = true := by
  have hz := hp.1
  refine ⟨by omega, by omega, ?_⟩
  unfold readN readE
  rw [if_neg (by omega), if_neg (by omega), if_neg (by omega), if_neg (by omega), Int.toNat_natCast, num_zero.2 fun t ht => ?_]
  · rfl
  · rw [hp.2 _ (by omega), List.getD_eq_getElem?_getD, List.getElem?_eq_none (by omega)]
    rfl

/-- the cells of acts, one behind the other -/
def actCells (K : List Act4) : List Value := K.flatMap fun x => [.bool x.c, .int .i64 x.n, .int .i64 x.k, .string x.s]
theorem actCells_len (K : List Act4) : (actCells K).length = K.length * 4 := by
  induction K with
  | nil => rfl
  | cons x r ih => simp only [actCells, List.flatMap_cons, List.length_append, List.length_cons, List.length_nil] at *; omega
theorem actCells_snoc (K : List Act4) (x : Act4) : actCells (K ++ [x]) = actCells K ++ [.bool x.c, .int .i64 x.n, .int .i64 x.k, .string x.s] := by simp [actCells]
theorem actCells_at : ∀ {K : List Act4} {i j : Nat}, i < K.length → j < 4 → (actCells K)[i * 4 + j]? = some ((K[i]?.getD default).cell j)
  | [], i, j, h, _ => by simp at h
  | x :: r, 0, j, _, hj => by
    match j, hj with
    | 0, _ => rfl
    | 1, _ => rfl
    | 2, _ => rfl
    | 3, _ => rfl
  | x :: r, i + 1, j, h, hj => by
    have ih := actCells_at (K := r) (i := i) (j := j) (by simpa using h) hj
    have e : actCells (x :: r) = [.bool x.c, .int .i64 x.n, .int .i64 x.k, .string x.s] ++ actCells r := by simp [actCells]
    rw [e, List.getElem?_append_right (by simp; omega)]
    simp only [List.length_cons, List.length_nil]
    rw [show (i + 1) * 4 + j - (0 + 1 + 1 + 1 + 1) = i * 4 + j by omega, ih]
    simp

end Go.Proofs.Ytfdlaiommpmliaa
