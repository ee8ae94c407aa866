/- scan, plainly: the order of the places, the block of pairs, the pairs of a block; how they belong together. -/
import Derived.Test.YtpmdeoiajnfabaaKit
namespace Go.Proofs.Ytpmdeoiajnfabaa
open Go.RowKit Go.Shelf
set_option linter.unusedVariables false

/-- the places, one behind the other -/
def orderL : List Nat := [0, 1, 8, 16, 9, 2, 3, 10, 17, 24, 32, 25, 18, 11, 4, 5,
  12, 19, 26, 33, 40, 48, 41, 34, 27, 20, 13, 6, 7, 14, 21, 28,
  35, 42, 49, 56, 57, 50, 43, 36, 29, 22, 15, 23, 30, 37, 44, 51,
  58, 59, 52, 45, 38, 31, 39, 46, 53, 60, 61, 54, 47, 55, 62, 63]
def ordAt (i : Nat) : Nat := orderL[i]?.getD 0
theorem orderL_length : orderL.length = 64 := rfl
theorem ordAt_lt (i : Nat) : ordAt i < 64 := by
  by_cases h : i < 64
  · exact (by decide +kernel : ∀ i : Fin 64, ordAt i.val < 64) ⟨i, h⟩
  · unfold ordAt
    rw [List.getElem?_eq_none (by rw [orderL_length]; omega)]
    decide
theorem ordAt_inj {i j : Nat} (hi : i < 64) (hj : j < 64) (h : ordAt i = ordAt j) : i = j := by
  have := (by decide +kernel : ∀ i j : Fin 64, ordAt i.val = ordAt j.val → i = j) ⟨i, hi⟩ ⟨j, hj⟩ h
  exact congrArg Fin.val this
theorem ordAt_all : (List.range 64).map ordAt = orderL := by decide +kernel
theorem ordAt_onto {p : Nat} (hp : p < 64) : ∃ i, i < 64 ∧ ordAt i = p := by
  obtain ⟨i, hi⟩ := (by decide +kernel : ∀ p : Fin 64, ∃ i : Fin 64, ordAt i.val = p.val) ⟨p, hp⟩
  exact ⟨i.val, i.isLt, hi⟩
theorem orderL_drop {i : Nat} (hi : i < 64) : orderL.drop i = ordAt i :: orderL.drop (i + 1) := by
  rw [List.drop_eq_getElem_cons (by rw [orderL_length]; exact hi)]
  unfold ordAt
  rw [List.getElem?_eq_getElem (by rw [orderL_length]; exact hi)]
  rfl

/-- what Place answers -/
def placeN (i : Int) : Int := if 0 ≤ i ∧ i < 64 then (ordAt i.toNat : Int) else 0
def placeE (i : Int) : Int := if 0 ≤ i ∧ i < 64 then 0 else 3

def okLv (l : Int) : Bool := l != 0 && decide (-127 ≤ l) && decide (l ≤ 127)
theorem okLv_iff (l : Int) : okLv l = true ↔ l ≠ 0 ∧ -127 ≤ l ∧ l ≤ 127 := by simp [okLv, and_assoc]
def zeros64 : List Int := List.replicate 64 0
/-- the block of pairs, from a place of the order on -/
def spr : List (Int × Int) → Nat → List Int → Int × List Int
  | [], _, b => (0, b)
  | (r, l) :: rest, at_, b => if okLv l = false then (10, []) else if r < 0 ∨ 64 - (at_ : Int) ≤ r then (11, []) else spr rest (at_ + r.toNat + 1) (b.set (ordAt (at_ + r.toNat)) l)
/-- what Spread answers -/
def sprR (ps : List (Int × Int)) (first : Int) : Int × List Int := if first = 0 ∨ first = 1 then spr ps first.toNat zeros64 else (3, [])
/-- one place of a block, as Runs takes it -/
def stepR (b : List Int) (s : Int × List (Int × Int)) (p : Nat) : Int × List (Int × Int) := if b[p]?.getD 0 = 0 then (s.1 + 1, s.2) else (0, s.2 ++ [(s.1, b[p]?.getD 0)])
def runsL (b : List Int) (s : Int × List (Int × Int)) (ps : List Nat) : Int × List (Int × Int) := ps.foldl (stepR b) s
def inLv (x : Int) : Bool := decide (-127 ≤ x) && decide (x ≤ 127)
/-- what Runs answers -/
def runsR (b : List Int) (first : Int) : Int × List (Int × Int) :=
  if first = 0 ∨ first = 1 then (if b.length ≠ 64 ∨ (first = 1 ∧ b[0]?.getD 0 ≠ 0) then (2, []) else if b.all inLv = false then (10, []) else (0, (runsL b (0, []) (orderL.drop first.toNat)).2)) else (3, [])

theorem spr_length : ∀ (ps : List (Int × Int)) (a : Nat) (b : List Int), b.length = 64 → (spr ps a b).1 = 0 → (spr ps a b).2.length = 64
  | [], _, b, h, _ => h
  | (r, l) :: rest, a, b, h, h0 => by
    unfold spr at h0 ⊢
    split
    · rename_i h1
      rw [if_pos h1] at h0
      cases h0
    · rename_i h1
      rw [if_neg h1] at h0
      split
      · rename_i h2
        rw [if_pos h2] at h0
        cases h0
      · rename_i h2
        rw [if_neg h2] at h0
        exact spr_length rest _ _ (by simpa using h) h0
theorem spr_len_le : ∀ (ps : List (Int × Int)) (a : Nat) (b : List Int), b.length ≤ 64 → (spr ps a b).2.length ≤ 64
  | [], _, b, h => h
  | (r, l) :: rest, a, b, h => by
    unfold spr
    split
    · simp
    · split
      · simp
      · exact spr_len_le rest _ _ (by simpa using h)

/-! ### what is spread is told as it was -/
theorem runsL_cons (b : List Int) (s : Int × List (Int × Int)) (p : Nat) (ps : List Nat) : runsL b s (p :: ps) = runsL b (stepR b s p) ps := rfl
theorem runsL_out (b : List Int) : ∀ (ps : List Nat) (r : Int) (o : List (Int × Int)), (runsL b (r, o) ps).2 = o ++ (runsL b (r, []) ps).2
  | [], _, _ => by simp [runsL]
  | p :: ps, r, o => by
    rw [runsL_cons, runsL_cons]
    unfold stepR
    split
    · exact runsL_out b ps (r + 1) o
    · rw [runsL_out b ps 0 (o ++ [(r, b[p]?.getD 0)]), runsL_out b ps 0 ([] ++ [(r, b[p]?.getD 0)])]
      simp
/-- noughts are gone over -/
theorem runsL_noughts (b : List Int) (o : List (Int × Int)) : ∀ (k i : Nat) (r : Int), i + k ≤ 64 → (∀ j, i ≤ j → j < i + k → b[ordAt j]?.getD 0 = 0) → runsL b (r, o) (orderL.drop i) = runsL b (r + k, o) (orderL.drop (i + k))
  | 0, i, r, _, _ => by simp
  | k + 1, i, r, h, hz => by
    rw [orderL_drop (by omega), runsL_cons]
    unfold stepR
    rw [if_pos (hz i (Nat.le_refl _) (by omega)), runsL_noughts b o k (i + 1) (r + 1) (by omega) (fun j h1 h2 => hz j (by omega) (by omega))]
    rw [show i + 1 + k = i + (k + 1) by omega]
    congr 2
    omega
theorem set_get {b : List Int} {p q : Nat} {l : Int} (hb : b.length = 64) (hp : p < 64) : (b.set p l)[q]?.getD 0 = if p = q then l else b[q]?.getD 0 := by
  rw [List.getElem?_set]
  by_cases h : p = q
  · rw [if_pos h, if_pos h, if_pos (by omega)]; rfl
  · rw [if_neg h, if_neg h]
/-- what is spread leaves the places ahead -/
theorem spr_ahead : ∀ (ps : List (Int × Int)) (a : Nat) (b : List Int), b.length = 64 → (spr ps a b).1 = 0 → ∀ j, j < a → j < 64 → (spr ps a b).2[ordAt j]?.getD 0 = b[ordAt j]?.getD 0
  | [], _, _, _, _, _, _, _ => rfl
  | (r, l) :: rest, a, b, hb, h0, j, hj, hj2 => by
    unfold spr at h0 ⊢
    split
    · rename_i h1
      rw [if_pos h1] at h0
      cases h0
    · rename_i h1
      rw [if_neg h1] at h0
      split
      · rename_i h2
        rw [if_pos h2] at h0
        cases h0
      · rename_i h2
        rw [if_neg h2] at h0
        rw [spr_ahead rest _ _ (by simpa using hb) h0 j (by omega) hj2, set_get hb (ordAt_lt _), if_neg]
        intro e
        have := ordAt_inj (by omega) hj2 e
        omega
theorem runs_spr : ∀ (ps : List (Int × Int)) (a : Nat) (b : List Int), b.length = 64 → a ≤ 64 → (∀ j, a ≤ j → j < 64 → b[ordAt j]?.getD 0 = 0) → (spr ps a b).1 = 0 → (runsL (spr ps a b).2 (0, []) (orderL.drop a)).2 = ps
  | [], a, b, hb, ha, hz, _ => by
    show (runsL b (0, []) (orderL.drop a)).2 = []
    rw [runsL_noughts b [] (64 - a) a 0 (by omega) (fun j h1 h2 => hz j h1 (by omega)), show a + (64 - a) = 64 by omega]
    rfl
  | (r, l) :: rest, a, b, hb, ha, hz, h0 => by
    unfold spr at h0 ⊢
    split
    · rename_i h1
      rw [if_pos h1] at h0
      cases h0
    · rename_i h1
      rw [if_neg h1] at h0
      split
      · rename_i h2
        rw [if_pos h2] at h0
        cases h0
      · rename_i h2
        rw [if_neg h2] at h0
        obtain ⟨n, rfl⟩ : ∃ n : Nat, r = n := ⟨r.toNat, by omega⟩
        rw [Int.toNat_natCast] at h0 ⊢
        have hn : a + n < 64 := by omega
        have hb2 : (b.set (ordAt (a + n)) l).length = 64 := by simpa using hb
        have hl : l ≠ 0 := by
          rw [Bool.not_eq_false] at h1
          exact ((okLv_iff l).1 h1).1
        have hA := spr_ahead rest (a + n + 1) (b.set (ordAt (a + n)) l) hb2 h0
        have hI := runs_spr rest (a + n + 1) (b.set (ordAt (a + n)) l) hb2 (by omega) (fun j h3 h4 => by
          rw [set_get hb (ordAt_lt _), if_neg (fun e => by have := ordAt_inj hn h4 e; omega)]
          exact hz j (by omega) h4) h0
        generalize (spr rest (a + n + 1) (b.set (ordAt (a + n)) l)).2 = B at *
        rw [runsL_noughts B [] n a 0 (by omega) (fun j h3 h4 => by
          rw [hA j (by omega) (by omega), set_get hb (ordAt_lt _), if_neg (fun e => by have := ordAt_inj hn (by omega) e; omega)]
          exact hz j h3 (by omega)), orderL_drop hn, runsL_cons]
        have hx : B[ordAt (a + n)]?.getD 0 = l := by rw [hA (a + n) (by omega) hn, set_get hb (ordAt_lt _), if_pos rfl]
        unfold stepR
        rw [hx, if_neg hl, runsL_out, hI]
        simp

/-! ### a block's pairs are spread to it -/
theorem get_ext64 {b c : List Int} (hb : b.length = 64) (hc : c.length = 64) (h : ∀ j, j < 64 → b[ordAt j]?.getD 0 = c[ordAt j]?.getD 0) : b = c := by
  apply List.ext_getElem?
  intro p
  by_cases hp : p < 64
  · obtain ⟨i, hi, rfl⟩ := ordAt_onto hp
    have := h i hi
    rw [List.getElem?_eq_getElem (by omega), List.getElem?_eq_getElem (by omega)] at this ⊢
    exact congrArg some this
  · rw [List.getElem?_eq_none (by omega), List.getElem?_eq_none (by omega)]
theorem spr_runs (c : List Int) (hc : c.length = 64) (hl : c.all inLv = true) : ∀ (d i r : Nat) (b : List Int), i + d = 64 → r ≤ i → b.length = 64 → (∀ j, j < i → b[ordAt j]?.getD 0 = c[ordAt j]?.getD 0) → (∀ j, i ≤ j → j < 64 → b[ordAt j]?.getD 0 = 0) →
    spr (runsL c ((r : Int), []) (orderL.drop i)).2 (i - r) b = (0, c)
  | 0, i, r, b, hi, hr, hb, h1, h2 => by
    rw [show i = 64 by omega]
    show spr [] (64 - r) b = (0, c)
    unfold spr
    rw [get_ext64 hb hc (fun j hj => h1 j (by omega))]
  | d + 1, i, r, b, hi, hr, hb, h1, h2 => by
    rw [orderL_drop (by omega), runsL_cons]
    unfold stepR
    split
    · rename_i h0
      have hI := spr_runs c hc hl d (i + 1) (r + 1) b (by omega) (by omega) hb (fun j hj => by
        by_cases e : j = i
        · subst e
          rw [h0]
          exact h2 j (Nat.le_refl _) (by omega)
        · exact h1 j (by omega)) (fun j h3 h4 => h2 j (by omega) h4)
      rw [show i + 1 - (r + 1) = i - r by omega] at hI
      exact hI
    · rename_i h0
      rw [runsL_out]
      show spr ((↑r, c[ordAt i]?.getD 0) :: (runsL c (0, []) (orderL.drop (i + 1))).2) (i - r) b = _
      have hp := ordAt_lt i
      have hok : okLv (c[ordAt i]?.getD 0) = true := by
        rw [okLv_iff]
        refine ⟨h0, ?_⟩
        rw [List.getElem?_eq_getElem (by omega)]
        have := List.all_eq_true.1 hl (c[ordAt i]'(by omega)) (List.getElem_mem _)
        simpa [inLv] using this
      unfold spr
      rw [hok, if_neg (by decide), if_neg (by omega), Int.toNat_natCast, show i - r + r = i by omega]
      have hI := spr_runs c hc hl d (i + 1) 0 (b.set (ordAt i) (c[ordAt i]?.getD 0)) (by omega) (by omega) (by simpa using hb) (fun j hj => by
        rw [set_get hb hp]
        by_cases e : j = i
        · subst e
          rw [if_pos rfl]
        · rw [if_neg (fun e2 => e (ordAt_inj (by omega) (by omega) e2).symm)]
          exact h1 j (by omega)) (fun j h3 h4 => by
        rw [set_get hb hp, if_neg (fun e2 => by have := ordAt_inj (i := i) (by omega) h4 e2; omega)]
        exact h2 j (by omega) h4)
      exact hI
theorem zeros_get (p : Nat) : zeros64[p]?.getD 0 = 0 := by
  unfold zeros64
  rw [List.getElem?_replicate]
  split <;> rfl
theorem zeros_length : zeros64.length = 64 := rfl
/-- a block's pairs are spread to it -/
theorem spread_of_runs {c : List Int} {first : Nat} (hf : first = 0 ∨ first = 1) (hc : c.length = 64) (hl : c.all inLv = true) (h0 : first = 1 → c[0]?.getD 0 = 0) : (runsR c first).1 = 0 ∧ sprR (runsR c first).2 first = (0, c) := by
  have hff : (first : Int) = 0 ∨ (first : Int) = 1 := by omega
  have hR : runsR c first = (0, (runsL c (0, []) (orderL.drop first)).2) := by
    unfold runsR
    rw [if_pos hff, if_neg, if_neg (by simp [hl]), Int.toNat_natCast]
    rintro (h | ⟨h1, h2⟩)
    · exact h hc
    · exact h2 (h0 (by omega))
  rw [hR]
  refine ⟨rfl, ?_⟩
  unfold sprR
  rw [if_pos hff, Int.toNat_natCast]
  exact spr_runs c hc hl (64 - first) first 0 zeros64 (by omega) (by omega) rfl (fun j hj => by
    obtain rfl : j = 0 := by omega
    rw [zeros_get]
    exact (h0 (by omega)).symm) (fun j _ _ => zeros_get _)
/-- each number of what is spread is a nought or a level -/
theorem spr_in : ∀ (ps : List (Int × Int)) (a : Nat) (b : List Int), b.all inLv = true → (spr ps a b).2.all inLv = true
  | [], _, _, h => h
  | (r, l) :: rest, a, b, h => by
    unfold spr
    split
    · rfl
    · split
      · rfl
      · refine spr_in rest _ _ ?_
        rename_i h1 h2
        rw [Bool.not_eq_false, okLv_iff] at h1
        rw [List.all_eq_true] at h ⊢
        intro x hx
        rcases List.mem_or_eq_of_mem_set hx with hx | rfl
        · exact h x hx
        · simp [inLv, h1.2.1, h1.2.2]
/-- what is spread is told as it was -/
theorem runs_of_spread {ps : List (Int × Int)} {first : Nat} (hf : first = 0 ∨ first = 1) (h : (sprR ps first).1 = 0) : runsR (sprR ps first).2 first = (0, ps) := by
  have hff : (first : Int) = 0 ∨ (first : Int) = 1 := by omega
  have hS : sprR ps first = spr ps first zeros64 := by unfold sprR; rw [if_pos hff, Int.toNat_natCast]
  rw [hS] at h ⊢
  have hlen := spr_length ps first zeros64 rfl h
  have hin : (spr ps first zeros64).2.all inLv = true := spr_in ps first zeros64 (by decide +kernel)
  unfold runsR
  rw [if_pos hff, if_neg, if_neg (by simp [hin]), Int.toNat_natCast, runs_spr ps first zeros64 rfl (by omega) (fun j _ _ => zeros_get _) h]
  rintro (h1 | ⟨h1, h2⟩)
  · exact h1 hlen
  · apply h2
    have := spr_ahead ps first zeros64 rfl h 0 (by omega) (by omega)
    rw [show ordAt 0 = 0 by decide] at this
    rw [this]
    exact zeros_get 0
/-- a nought more ahead of the first place is a place more -/
theorem spr_starts {r l : Int} {rest : List (Int × Int)} (h0 : 0 ≤ r) (h1 : r ≤ 100) : sprR ((r + 1, l) :: rest) 0 = sprR ((r, l) :: rest) 1 := by
  unfold sprR
  rw [if_pos (.inl rfl), if_pos (.inr rfl)]
  show spr ((r + 1, l) :: rest) 0 zeros64 = spr ((r, l) :: rest) 1 zeros64
  unfold spr
  split
  · rfl
  · by_cases h : 63 ≤ r
    · rw [if_pos (by omega), if_pos (by omega)]
    · rw [if_neg (by omega), if_neg (by omega)]
      rw [show 0 + (r + 1).toNat = 1 + r.toNat by omega]
theorem spr_far {r l : Int} {rest : List (Int × Int)} (h : r < 0 ∨ 100 < r) : (sprR ((r, l) :: rest) 1).1 ≠ 0 := by
  unfold sprR
  rw [if_pos (.inr rfl)]
  show (spr ((r, l) :: rest) 1 zeros64).1 ≠ 0
  unfold spr
  split
  · decide
  · rw [if_pos (by omega)]
    decide
/-- a nought at place 0, which no run counts -/
theorem runs_first {c : List Int} {first : Nat} (hf : first = 0 ∨ first = 1) (h0 : first = 1 → c[0]?.getD 0 = 0) : runsL c (-(first : Int), []) orderL = runsL c (0, []) (orderL.drop first) := by
  rcases hf with rfl | rfl
  · rfl
  · show runsL c (-1, []) (0 :: orderL.drop 1) = _
    rw [runsL_cons]
    unfold stepR
    rw [if_pos (h0 rfl)]
    rfl

end Go.Proofs.Ytpmdeoiajnfabaa
