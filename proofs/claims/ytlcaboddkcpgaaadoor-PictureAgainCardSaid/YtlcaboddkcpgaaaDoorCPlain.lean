/- scan, plainly: the order of the places, the block of pairs, the pairs of a block; how they belong together. quant, plainly: what levels are worth, what blocks are, the nearest level; what follows. cosine, plainly: sums, weights, lines and blocks, what functions answer; what follows: turned, mirrored, a sum of blocks. -/
import Derived.Test.YtlcaboddkcpgaaaDoorKit
/- scan, plainly: the order of the places, the block of pairs, the pairs of a block; how they belong together. -/
namespace Go.Proofs.YtlcaboddkcpgaaaDoor
open Go.RowKit Go.Shelf
set_option linter.unusedVariables false

/-- the places, one behind the other -/
def orderL : List Nat := [0, 1, 8, 16, 9, 2, 3, 10, 17, 24, 32, 25, 18, 11, 4, 5,
  12, 19, 26, 33, 40, 48, 41, 34, 27, 20, 13, 6, 7, 14, 21, 28,
  35, 42, 49, 56, 57, 50, 43, 36, 29, 22, 15, 23, 30, 37, 44, 51,
  58, 59, 52, 45, 38, 31, 39, 46, 53, 60, 61, 54, 47, 55, 62, 63]
def ordAt (i : Nat) : Nat := orderL[i]?.getD 0
theorem orderL_length : orderL.length = 64 := rfl
theorem ordAt_lt (i : Nat) : ordAt i < 64 := by
  by_cases h : i < 64
  · exact (by decide +kernel : ∀ i : Fin 64, ordAt i.val < 64) ⟨i, h⟩
  · unfold ordAt
    rw [List.getElem?_eq_none (by rw [orderL_length]; omega)]
    decide
theorem ordAt_inj {i j : Nat} (hi : i < 64) (hj : j < 64) (h : ordAt i = ordAt j) : i = j := by
  have := (by decide +kernel : ∀ i j : Fin 64, ordAt i.val = ordAt j.val → i = j) ⟨i, hi⟩ ⟨j, hj⟩ h
  exact congrArg Fin.val this
theorem ordAt_all : (List.range 64).map ordAt = orderL := by decide +kernel
theorem ordAt_onto {p : Nat} (hp : p < 64) : ∃ i, i < 64 ∧ ordAt i = p := by
  obtain ⟨i, hi⟩ := (by decide +kernel : ∀ p : Fin 64, ∃ i : Fin 64, ordAt i.val = p.val) ⟨p, hp⟩
  exact ⟨i.val, i.isLt, hi⟩
theorem orderL_drop {i : Nat} (hi : i < 64) : orderL.drop i = ordAt i :: orderL.drop (i + 1) := by
  rw [List.drop_eq_getElem_cons (by rw [orderL_length]; exact hi)]
  unfold ordAt
  rw [List.getElem?_eq_getElem (by rw [orderL_length]; exact hi)]
  rfl

/-- what Place answers -/
def placeN (i : Int) : Int := if 0 ≤ i ∧ i < 64 then (ordAt i.toNat : Int) else 0
def placeE (i : Int) : Int := if 0 ≤ i ∧ i < 64 then 0 else 3

def okLv (l : Int) : Bool := l != 0 && decide (-127 ≤ l) && decide (l ≤ 127)
theorem okLv_iff (l : Int) : okLv l = true ↔ l ≠ 0 ∧ -127 ≤ l ∧ l ≤ 127 := by simp [okLv, and_assoc]
def zeros64 : List Int := List.replicate 64 0
/-- the block of pairs, from a place of the order on -/
def spr : List (Int × Int) → Nat → List Int → Int × List Int
  | [], _, b => (0, b)
  | (r, l) :: rest, at_, b => if okLv l = false then (10, []) else if r < 0 ∨ 64 - (at_ : Int) ≤ r then (11, []) else spr rest (at_ + r.toNat + 1) (b.set (ordAt (at_ + r.toNat)) l)
/-- what Spread answers -/
def sprR (ps : List (Int × Int)) (first : Int) : Int × List Int := if first = 0 ∨ first = 1 then spr ps first.toNat zeros64 else (3, [])
/-- one place of a block, as Runs takes it -/
def stepR (b : List Int) (s : Int × List (Int × Int)) (p : Nat) : Int × List (Int × Int) := if b[p]?.getD 0 = 0 then (s.1 + 1, s.2) else (0, s.2 ++ [(s.1, b[p]?.getD 0)])
def runsL (b : List Int) (s : Int × List (Int × Int)) (ps : List Nat) : Int × List (Int × Int) := ps.foldl (stepR b) s
def inLv (x : Int) : Bool := decide (-127 ≤ x) && decide (x ≤ 127)
/-- what Runs answers -/
def runsR (b : List Int) (first : Int) : Int × List (Int × Int) :=
  if first = 0 ∨ first = 1 then (if b.length ≠ 64 ∨ (first = 1 ∧ b[0]?.getD 0 ≠ 0) then (2, []) else if b.all inLv = false then (10, []) else (0, (runsL b (0, []) (orderL.drop first.toNat)).2)) else (3, [])

theorem spr_length : ∀ (ps : List (Int × Int)) (a : Nat) (b : List Int), b.length = 64 → (spr ps a b).1 = 0 → (spr ps a b).2.length = 64
  | [], _, b, h, _ => h
  | (r, l) :: rest, a, b, h, h0 => by
    unfold spr at h0 ⊢
    split
    · rename_i h1
      rw [if_pos h1] at h0
      cases h0
    · rename_i h1
      rw [if_neg h1] at h0
      split
      · rename_i h2
        rw [if_pos h2] at h0
        cases h0
      · rename_i h2
        rw [if_neg h2] at h0
        exact spr_length rest _ _ (by simpa using h) h0
theorem spr_len_le : ∀ (ps : List (Int × Int)) (a : Nat) (b : List Int), b.length ≤ 64 → (spr ps a b).2.length ≤ 64
  | [], _, b, h => h
  | (r, l) :: rest, a, b, h => by
    unfold spr
    split
    · simp
    · split
      · simp
      · exact spr_len_le rest _ _ (by simpa using h)

/-! ### what is spread is told as it was -/
theorem runsL_cons (b : List Int) (s : Int × List (Int × Int)) (p : Nat) (ps : List Nat) : runsL b s (p :: ps) = runsL b (stepR b s p) ps := rfl
theorem runsL_out (b : List Int) : ∀ (ps : List Nat) (r : Int) (o : List (Int × Int)), (runsL b (r, o) ps).2 = o ++ (runsL b (r, []) ps).2
  | [], _, _ => by simp [runsL]
  | p :: ps, r, o => by
    rw [runsL_cons, runsL_cons]
    unfold stepR
    split
    · exact runsL_out b ps (r + 1) o
    · rw [runsL_out b ps 0 (o ++ [(r, b[p]?.getD 0)]), runsL_out b ps 0 ([] ++ [(r, b[p]?.getD 0)])]
      simp
/-- noughts are gone over -/
theorem runsL_noughts (b : List Int) (o : List (Int × Int)) : ∀ (k i : Nat) (r : Int), i + k ≤ 64 → (∀ j, i ≤ j → j < i + k → b[ordAt j]?.getD 0 = 0) → runsL b (r, o) (orderL.drop i) = runsL b (r + k, o) (orderL.drop (i + k))
  | 0, i, r, _, _ => by simp
  | k + 1, i, r, h, hz => by
    rw [orderL_drop (by omega), runsL_cons]
    unfold stepR
    rw [if_pos (hz i (Nat.le_refl _) (by omega)), runsL_noughts b o k (i + 1) (r + 1) (by omega) (fun j h1 h2 => hz j (by omega) (by omega))]
    rw [show i + 1 + k = i + (k + 1) by omega]
    congr 2
    omega
theorem set_get {b : List Int} {p q : Nat} {l : Int} (hb : b.length = 64) (hp : p < 64) : (b.set p l)[q]?.getD 0 = if p = q then l else b[q]?.getD 0 := by
  rw [List.getElem?_set]
  by_cases h : p = q
  · rw [if_pos h, if_pos h, if_pos (by omega)]; rfl
  · rw [if_neg h, if_neg h]
/-- what is spread leaves the places ahead -/
theorem spr_ahead : ∀ (ps : List (Int × Int)) (a : Nat) (b : List Int), b.length = 64 → (spr ps a b).1 = 0 → ∀ j, j < a → j < 64 → (spr ps a b).2[ordAt j]?.getD 0 = b[ordAt j]?.getD 0
  | [], _, _, _, _, _, _, _ => rfl
  | (r, l) :: rest, a, b, hb, h0, j, hj, hj2 => by
    unfold spr at h0 ⊢
    split
    · rename_i h1
      rw [if_pos h1] at h0
      cases h0
    · rename_i h1
      rw [if_neg h1] at h0
      split
      · rename_i h2
        rw [if_pos h2] at h0
        cases h0
      · rename_i h2
        rw [if_neg h2] at h0
        rw [spr_ahead rest _ _ (by simpa using hb) h0 j (by omega) hj2, set_get hb (ordAt_lt _), if_neg]
        intro e
        have := ordAt_inj (by omega) hj2 e
        omega
theorem runs_spr : ∀ (ps : List (Int × Int)) (a : Nat) (b : List Int), b.length = 64 → a ≤ 64 → (∀ j, a ≤ j → j < 64 → b[ordAt j]?.getD 0 = 0) → (spr ps a b).1 = 0 → (runsL (spr ps a b).2 (0, []) (orderL.drop a)).2 = ps
  | [], a, b, hb, ha, hz, _ => by
    show (runsL b (0, []) (orderL.drop a)).2 = []
    rw [runsL_noughts b [] (64 - a) a 0 (by omega) (fun j h1 h2 => hz j h1 (by omega)), show a + (64 - a) = 64 by omega]
    rfl
  | (r, l) :: rest, a, b, hb, ha, hz, h0 => by
    unfold spr at h0 ⊢
    split
    · rename_i h1
      rw [if_pos h1] at h0
      cases h0
    · rename_i h1
      rw [if_neg h1] at h0
      split
      · rename_i h2
        rw [if_pos h2] at h0
        cases h0
      · rename_i h2
        rw [if_neg h2] at h0
        obtain ⟨n, rfl⟩ : ∃ n : Nat, r = n := ⟨r.toNat, by omega⟩
        rw [Int.toNat_natCast] at h0 ⊢
        have hn : a + n < 64 := by omega
        have hb2 : (b.set (ordAt (a + n)) l).length = 64 := by simpa using hb
        have hl : l ≠ 0 := by
          rw [Bool.not_eq_false] at h1
          exact ((okLv_iff l).1 h1).1
        have hA := spr_ahead rest (a + n + 1) (b.set (ordAt (a + n)) l) hb2 h0
        have hI := runs_spr rest (a + n + 1) (b.set (ordAt (a + n)) l) hb2 (by omega) (fun j h3 h4 => by
          rw [set_get hb (ordAt_lt _), if_neg (fun e => by have := ordAt_inj hn h4 e; omega)]
          exact hz j (by omega) h4) h0
        generalize (spr rest (a + n + 1) (b.set (ordAt (a + n)) l)).2 = B at *
        rw [runsL_noughts B [] n a 0 (by omega) (fun j h3 h4 => by
          rw [hA j (by omega) (by omega), set_get hb (ordAt_lt _), if_neg (fun e => by have := ordAt_inj hn (by omega) e; omega)]
          exact hz j h3 (by omega)), orderL_drop hn, runsL_cons]
        have hx : B[ordAt (a + n)]?.getD 0 = l := by rw [hA (a + n) (by omega) hn, set_get hb (ordAt_lt _), if_pos rfl]
        unfold stepR
        rw [hx, if_neg hl, runsL_out, hI]
        simp

/-! ### a block's pairs are spread to it -/
theorem get_ext64 {b c : List Int} (hb : b.length = 64) (hc : c.length = 64) (h : ∀ j, j < 64 → b[ordAt j]?.getD 0 = c[ordAt j]?.getD 0) : b = c := by
  apply List.ext_getElem?
  intro p
  by_cases hp : p < 64
  · obtain ⟨i, hi, rfl⟩ := ordAt_onto hp
    have := h i hi
    rw [List.getElem?_eq_getElem (by omega), List.getElem?_eq_getElem (by omega)] at this ⊢
    exact congrArg some this
  · rw [List.getElem?_eq_none (by omega), List.getElem?_eq_none (by omega)]
theorem spr_runs (c : List Int) (hc : c.length = 64) (hl : c.all inLv = true) : ∀ (d i r : Nat) (b : List Int), i + d = 64 → r ≤ i → b.length = 64 → (∀ j, j < i → b[ordAt j]?.getD 0 = c[ordAt j]?.getD 0) → (∀ j, i ≤ j → j < 64 → b[ordAt j]?.getD 0 = 0) →
    spr (runsL c ((r : Int), []) (orderL.drop i)).2 (i - r) b = (0, c)
  | 0, i, r, b, hi, hr, hb, h1, h2 => by
    rw [show i = 64 by omega]
    show spr [] (64 - r) b = (0, c)
    unfold spr
    rw [get_ext64 hb hc (fun j hj => h1 j (by omega))]
  | d + 1, i, r, b, hi, hr, hb, h1, h2 => by
    rw [orderL_drop (by omega), runsL_cons]
    unfold stepR
    split
    · rename_i h0
      have hI := spr_runs c hc hl d (i + 1) (r + 1) b (by omega) (by omega) hb (fun j hj => by
        by_cases e : j = i
        · subst e
          rw [h0]
          exact h2 j (Nat.le_refl _) (by omega)
        · exact h1 j (by omega)) (fun j h3 h4 => h2 j (by omega) h4)
      rw [show i + 1 - (r + 1) = i - r by omega] at hI
      exact hI
    · rename_i h0
      rw [runsL_out]
      show spr ((↑r, c[ordAt i]?.getD 0) :: (runsL c (0, []) (orderL.drop (i + 1))).2) (i - r) b = _
      have hp := ordAt_lt i
      have hok : okLv (c[ordAt i]?.getD 0) = true := by
        rw [okLv_iff]
        refine ⟨h0, ?_⟩
        rw [List.getElem?_eq_getElem (by omega)]
        have := List.all_eq_true.1 hl (c[ordAt i]'(by omega)) (List.getElem_mem _)
        simpa [inLv] using this
      unfold spr
      rw [hok, if_neg (by decide), if_neg (by omega), Int.toNat_natCast, show i - r + r = i by omega]
      have hI := spr_runs c hc hl d (i + 1) 0 (b.set (ordAt i) (c[ordAt i]?.getD 0)) (by omega) (by omega) (by simpa using hb) (fun j hj => by
        rw [set_get hb hp]
        by_cases e : j = i
        · subst e
          rw [if_pos rfl]
        · rw [if_neg (fun e2 => e (ordAt_inj (by omega) (by omega) e2).symm)]
          exact h1 j (by omega)) (fun j h3 h4 => by
        rw [set_get hb hp, if_neg (fun e2 => by have := ordAt_inj (i := i) (by omega) h4 e2; omega)]
        exact h2 j (by omega) h4)
      exact hI
theorem zeros_get (p : Nat) : zeros64[p]?.getD 0 = 0 := by
  unfold zeros64
  rw [List.getElem?_replicate]
  split <;> rfl
theorem zeros_length : zeros64.length = 64 := rfl
/-- a block's pairs are spread to it -/
theorem spread_of_runs {c : List Int} {first : Nat} (hf : first = 0 ∨ first = 1) (hc : c.length = 64) (hl : c.all inLv = true) (h0 : first = 1 → c[0]?.getD 0 = 0) : (runsR c first).1 = 0 ∧ sprR (runsR c first).2 first = (0, c) := by
  have hff : (first : Int) = 0 ∨ (first : Int) = 1 := by omega
  have hR : runsR c first = (0, (runsL c (0, []) (orderL.drop first)).2) := by
    unfold runsR
    rw [if_pos hff, if_neg, if_neg (by simp [hl]), Int.toNat_natCast]
    rintro (h | ⟨h1, h2⟩)
    · exact h hc
    · exact h2 (h0 (by omega))
  rw [hR]
  refine ⟨rfl, ?_⟩
  unfold sprR
  rw [if_pos hff, Int.toNat_natCast]
  exact spr_runs c hc hl (64 - first) first 0 zeros64 (by omega) (by omega) rfl (fun j hj => by
    obtain rfl : j = 0 := by omega
    rw [zeros_get]
    exact (h0 (by omega)).symm) (fun j _ _ => zeros_get _)
/-- each number of what is spread is a nought or a level -/
theorem spr_in : ∀ (ps : List (Int × Int)) (a : Nat) (b : List Int), b.all inLv = true → (spr ps a b).2.all inLv = true
  | [], _, _, h => h
  | (r, l) :: rest, a, b, h => by
    unfold spr
    split
    · rfl
    · split
      · rfl
      · refine spr_in rest _ _ ?_
        rename_i h1 h2
        rw [Bool.not_eq_false, okLv_iff] at h1
        rw [List.all_eq_true] at h ⊢
        intro x hx
        rcases List.mem_or_eq_of_mem_set hx with hx | rfl
        · exact h x hx
        · simp [inLv, h1.2.1, h1.2.2]
/-- what is spread is told as it was -/
theorem runs_of_spread {ps : List (Int × Int)} {first : Nat} (hf : first = 0 ∨ first = 1) (h : (sprR ps first).1 = 0) : runsR (sprR ps first).2 first = (0, ps) := by
  have hff : (first : Int) = 0 ∨ (first : Int) = 1 := by omega
  have hS : sprR ps first = spr ps first zeros64 := by unfold sprR; rw [if_pos hff, Int.toNat_natCast]
  rw [hS] at h ⊢
  have hlen := spr_length ps first zeros64 rfl h
  have hin : (spr ps first zeros64).2.all inLv = true := spr_in ps first zeros64 (by decide +kernel)
  unfold runsR
  rw [if_pos hff, if_neg, if_neg (by simp [hin]), Int.toNat_natCast, runs_spr ps first zeros64 rfl (by omega) (fun j _ _ => zeros_get _) h]
  rintro (h1 | ⟨h1, h2⟩)
  · exact h1 hlen
  · apply h2
    have := spr_ahead ps first zeros64 rfl h 0 (by omega) (by omega)
    rw [show ordAt 0 = 0 by decide] at this
    rw [this]
    exact zeros_get 0
/-- a nought more ahead of the first place is a place more -/
theorem spr_starts {r l : Int} {rest : List (Int × Int)} (h0 : 0 ≤ r) (h1 : r ≤ 100) : sprR ((r + 1, l) :: rest) 0 = sprR ((r, l) :: rest) 1 := by
  unfold sprR
  rw [if_pos (.inl rfl), if_pos (.inr rfl)]
  show spr ((r + 1, l) :: rest) 0 zeros64 = spr ((r, l) :: rest) 1 zeros64
  unfold spr
  split
  · rfl
  · by_cases h : 63 ≤ r
    · rw [if_pos (by omega), if_pos (by omega)]
    · rw [if_neg (by omega), if_neg (by omega)]
      rw [show 0 + (r + 1).toNat = 1 + r.toNat by omega]
theorem spr_far {r l : Int} {rest : List (Int × Int)} (h : r < 0 ∨ 100 < r) : (sprR ((r, l) :: rest) 1).1 ≠ 0 := by
  unfold sprR
  rw [if_pos (.inr rfl)]
  show (spr ((r, l) :: rest) 1 zeros64).1 ≠ 0
  unfold spr
  split
  · decide
  · rw [if_pos (by omega)]
    decide
/-- a nought at place 0, which no run counts -/
theorem runs_first {c : List Int} {first : Nat} (hf : first = 0 ∨ first = 1) (h0 : first = 1 → c[0]?.getD 0 = 0) : runsL c (-(first : Int), []) orderL = runsL c (0, []) (orderL.drop first) := by
  rcases hf with rfl | rfl
  · rfl
  · show runsL c (-1, []) (0 :: orderL.drop 1) = _
    rw [runsL_cons]
    unfold stepR
    rw [if_pos (h0 rfl)]
    rfl

end Go.Proofs.YtlcaboddkcpgaaaDoor

/- quant, plainly: what levels are worth, what blocks are, the nearest level; what follows. -/
namespace Go.Proofs.YtlcaboddkcpgaaaDoor
open Go.RowKit Go.Shelf
set_option linter.unusedVariables false

/-- is a number a level, a quantiser? -/
def okLU (l : Int) : Bool := decide (-127 ≤ l) && decide (l ≤ 127)
def okQU (q : Int) : Bool := decide (1 ≤ q) && decide (q ≤ 31)
theorem okLU_iff (l : Int) : okLU l = true ↔ -127 ≤ l ∧ l ≤ 127 := by simp [okLU]
theorem okQU_iff (q : Int) : okQU q = true ↔ 1 ≤ q ∧ q ≤ 31 := by simp [okQU]
/-- how far from 0 the value of a level lies that is so far from 0, uncut -/
def farU (m q : Int) : Int := if q % 2 = 0 then q * (2 * m + 1) - 1 else q * (2 * m + 1)
/-- the value of a level -/
def worthU (l q : Int) : Int := if 0 < l then max (-2048) (min (farU l q) 2047) else if l < 0 then max (-2048) (min (-(farU (-l) q)) 2047) else 0
/-- what Value answers -/
def valueU (l q : Int) : Int × Int := if okLU l && okQU q then (worthU l q, 0) else (0, 3)
/-- what DC answers -/
def dcU (c : Int) : Int × Int := if c < 0 ∨ 255 < c then (0, 3) else if c = 0 ∨ c = 128 then (0, 10) else if c = 255 then (1024, 0) else (8 * c, 0)
/-- what Inter answers -/
def interU (xs : List Int) (q : Int) : Int × List Int := if xs.length ≠ 64 then (2, []) else if xs.all okLU = false ∨ okQU q = false then (3, []) else (0, xs.map fun l => worthU l q)
/-- what Intra answers -/
def intraU (xs : List Int) (q c : Int) : Int × List Int := if (interU xs q).1 ≠ 0 then ((interU xs q).1, []) else if (dcU c).2 ≠ 0 then ((dcU c).2, []) else (0, (interU xs q).2.set 0 (dcU c).1)
/-- how far a level's value lies from a number -/
def gapU (q n l : Int) : Int := max (worthU l q - n) (n - worthU l q)
def sideU (n : Int) : Int := if n < 0 then -1 else 1
/-- the nearest level of the first ones, on the number's own side -/
def bestU (q n : Int) : Nat → Int
  | 0 => 0
  | k + 1 => if gapU q n (sideU n * k) < gapU q n (bestU q n k) then sideU n * k else bestU q n k
/-- what Nearest answers -/
def nearU (n q : Int) : Int × Int := if -2048 ≤ n ∧ n ≤ 2047 ∧ okQU q = true then (bestU q n 128, 0) else (0, 3)

/-! ### what values are -/
theorem farU_ge {m q : Int} (hm : 1 ≤ m) (hq : 1 ≤ q) : 3 ≤ farU m q := by
  have h : 1 * 3 ≤ q * (2 * m + 1) := Int.mul_le_mul hq (by omega) (by omega) (by omega)
  unfold farU
  split
  · have h2 : 2 * 3 ≤ q * (2 * m + 1) := Int.mul_le_mul (by omega) (by omega) (by omega) (by omega)
    omega
  · omega
theorem farU_le {m q : Int} (h0 : 0 ≤ m) (hm : m ≤ 127) (h1 : 1 ≤ q) (hq : q ≤ 31) : farU m q ≤ 7905 := by
  have h : q * (2 * m + 1) ≤ 31 * 255 := Int.mul_le_mul hq (by omega) (by omega) (by omega)
  unfold farU
  split <;> omega
theorem worthU_zero (q : Int) : worthU 0 q = 0 := rfl
theorem worthU_pos {l q : Int} (hl : 0 < l) (hq : 1 ≤ q) : 0 < worthU l q := by
  have := farU_ge (m := l) (by omega) hq
  unfold worthU
  rw [if_pos hl]
  omega
theorem worthU_neg {l q : Int} (hl : l < 0) (hq : 1 ≤ q) : worthU l q < 0 := by
  have := farU_ge (m := -l) (by omega) hq
  unfold worthU
  rw [if_neg (by omega), if_pos hl]
  omega
theorem worthU_in (l q : Int) : -2048 ≤ worthU l q ∧ worthU l q ≤ 2047 := by
  unfold worthU
  split
  · omega
  · split <;> omega
theorem worthU_odd {l q : Int} (h : okLU l = true) (hq : okQU q = true) : (worthU l q % 2 ≠ 0 ∨ worthU l q = 0 ∨ worthU l q = -2048) ∧ (worthU l q = -worthU (-l) q ∨ (worthU l q = 2047 ∧ worthU (-l) q = -2048) ∨ (worthU l q = -2048 ∧ worthU (-l) q = 2047)) := by
  rw [okLU_iff] at h
  rw [okQU_iff] at hq
  have hp : ∀ m : Int, farU m q % 2 = 1 := by
    intro m
    unfold farU
    have e : ∀ a : Int, q * (2 * a + 1) = 2 * (q * a) + q := fun a => by rw [Int.mul_add, Int.mul_one, ← Int.mul_assoc, Int.mul_comm q 2, Int.mul_assoc]
    rw [e]
    generalize q * m = t
    split <;> omega
  have p1 := hp l
  have p2 := hp (-l)
  unfold worthU
  rw [Int.neg_neg]
  rcases Int.lt_trichotomy l 0 with h1 | h1 | h1
  · rw [if_neg (show ¬ 0 < l by omega), if_pos h1, if_pos (show 0 < -l by omega)]
    generalize farU (-l) q = t at *
    omega
  · subst h1
    simp
  · rw [if_pos h1, if_neg (show ¬ 0 < -l by omega), if_pos (show -l < 0 by omega)]
    generalize farU l q = t at *
    omega
theorem worthU_grow {l q : Int} (h : okLU l = true) (hl : l < 127) (hq : okQU q = true) :
    worthU l q ≤ worthU (l + 1) q ∧ ¬ (worthU (l + 1) q = worthU l q ∧ -2048 < worthU l q ∧ worthU l q < 2047) ∧
    (0 < l → worthU (l + 1) q < 2047 → worthU (l + 1) q - worthU l q = 2 * q) ∧ (l < -1 → -2048 < worthU l q → worthU (l + 1) q - worthU l q = 2 * q) ∧
    (0 < l → q < 31 → worthU l q < worthU l (q + 1) ∨ (worthU l q = 2047 ∧ worthU l (q + 1) = 2047)) := by
  rw [okLU_iff] at h
  rw [okQU_iff] at hq
  have e : ∀ m : Int, farU (m + 1) q = farU m q + 2 * q := by
    intro m
    unfold farU
    have e1 : q * (2 * (m + 1) + 1) = q * (2 * m + 1) + 2 * q := by rw [show 2 * (m + 1) + 1 = (2 * m + 1) + 2 by omega, Int.mul_add, Int.mul_comm q 2]
    rw [e1]
    split <;> omega
  have g : ∀ m : Int, 1 ≤ m → farU m q < farU m (q + 1) := by
    intro m hm
    unfold farU
    have e1 : (q + 1) * (2 * m + 1) = q * (2 * m + 1) + (2 * m + 1) := by rw [Int.add_mul, Int.one_mul]
    rw [e1]
    split <;> split <;> omega
  rcases Int.lt_trichotomy l 0 with h1 | h1 | h1
  · by_cases h2 : l = -1
    · subst h2
      have := worthU_neg (l := -1) (q := q) (by omega) hq.1
      rw [show (-1 : Int) + 1 = 0 by omega, worthU_zero]
      exact ⟨by omega, by omega, by omega, by omega, by omega⟩
    · have e1 := e (-(l + 1))
      have e2 := farU_ge (m := -(l + 1)) (q := q) (by omega) hq.1
      rw [show -(l + 1) + 1 = -l by omega] at e1
      have a1 : worthU l q = max (-2048) (min (-(farU (-l) q)) 2047) := by unfold worthU; rw [if_neg (by omega), if_pos h1]
      have a2 : worthU (l + 1) q = max (-2048) (min (-(farU (-(l + 1)) q)) 2047) := by unfold worthU; rw [if_neg (by omega), if_pos (by omega)]
      generalize farU (-l) q = s at *
      generalize farU (-(l + 1)) q = t at *
      rw [a1, a2]
      exact ⟨by omega, by omega, by omega, by omega, by omega⟩
  · subst h1
    have := worthU_pos (l := 1) (q := q) (by omega) hq.1
    rw [show (0 : Int) + 1 = 1 by omega, worthU_zero]
    exact ⟨by omega, by omega, by omega, by omega, by omega⟩
  · have e1 := e l
    have e2 := farU_ge (m := l) (q := q) (by omega) hq.1
    have e3 := g l (by omega)
    have a1 : worthU l q = max (-2048) (min (farU l q) 2047) := by unfold worthU; rw [if_pos h1]
    have a2 : worthU (l + 1) q = max (-2048) (min (farU (l + 1) q) 2047) := by unfold worthU; rw [if_pos (by omega)]
    have a3 : worthU l (q + 1) = max (-2048) (min (farU l (q + 1)) 2047) := by unfold worthU; rw [if_pos h1]
    generalize farU (l + 1) q = t at *
    generalize farU l (q + 1) = u at *
    generalize farU l q = s at *
    rw [a1, a2, a3]
    exact ⟨by omega, by omega, by omega, by omega, by omega⟩

/-! ### the nearest level -/
theorem gapU_zero (q n : Int) : gapU q n 0 = max (-n) n := by unfold gapU; rw [worthU_zero]; omega
theorem gapU_in {q n : Int} (l : Int) (h1 : -2048 ≤ n) (h2 : n ≤ 2047) : 0 ≤ gapU q n l ∧ gapU q n l ≤ 4095 := by
  have := worthU_in l q
  unfold gapU
  omega
/-- a level of the other side is farther away than 0 -/
theorem gapU_other {q n l : Int} (hq : 1 ≤ q) (h0 : l ≠ 0) (h : (n < 0 ∧ 0 ≤ l) ∨ (0 ≤ n ∧ l ≤ 0)) : gapU q n 0 < gapU q n l := by
  rw [gapU_zero]
  unfold gapU
  rcases h with ⟨h1, h2⟩ | ⟨h1, h2⟩
  · have := worthU_pos (l := l) (by omega) hq
    omega
  · have := worthU_neg (l := l) (by omega) hq
    omega
theorem sideU_sq (n : Int) : sideU n = 1 ∨ sideU n = -1 := by unfold sideU; split <;> simp
theorem bestU_one (q n : Int) : bestU q n 1 = 0 := by
  unfold bestU
  rw [show bestU q n 0 = 0 from rfl]
  simp
theorem bestU_in (q n : Int) : ∀ k : Nat, ∃ j : Nat, bestU q n k = sideU n * j ∧ (j = 0 ∨ j < k)
  | 0 => ⟨0, by simp [bestU], .inl rfl⟩
  | k + 1 => by
    obtain ⟨j, h1, h2⟩ := bestU_in q n k
    unfold bestU
    split
    · exact ⟨k, rfl, .inr (by omega)⟩
    · exact ⟨j, h1, by omega⟩
theorem bestU_lv (q n : Int) {k : Nat} (hk : k ≤ 128) : -127 ≤ bestU q n k ∧ bestU q n k ≤ 127 := by
  obtain ⟨j, h1, h2⟩ := bestU_in q n k
  rw [h1]
  rcases sideU_sq n with h | h <;> rw [h] <;> omega
theorem bestU_le (q n : Int) : ∀ k j : Nat, j < k → gapU q n (bestU q n k) ≤ gapU q n (sideU n * j) ∧ (gapU q n (bestU q n k) = gapU q n (sideU n * j) → max (bestU q n k) (-(bestU q n k)) ≤ j)
  | 0, j, h => absurd h (by omega)
  | k + 1, j, h => by
    have hs : ∀ i : Nat, max (sideU n * i) (-(sideU n * i)) = i := fun i => by rcases sideU_sq n with h | h <;> rw [h] <;> omega
    by_cases hj : j < k
    · obtain ⟨h1, h2⟩ := bestU_le q n k j hj
      unfold bestU
      split
      · rename_i h3
        exact ⟨by omega, fun e => by omega⟩
      · exact ⟨h1, h2⟩
    · obtain rfl : j = k := by omega
      unfold bestU
      split
      · exact ⟨Int.le_refl _, fun _ => by rw [hs]; exact Int.le_refl _⟩
      · rename_i h3
        obtain ⟨i, e1, e2⟩ := bestU_in q n j
        refine ⟨by omega, fun _ => ?_⟩
        rw [e1, hs]
        omega
theorem bestU_gap0 (q n : Int) : ∀ k : Nat, gapU q n (bestU q n k) ≤ gapU q n 0
  | 0 => Int.le_refl _
  | k + 1 => by
    have := bestU_gap0 q n k
    unfold bestU
    split <;> omega
/-- no level is nearer, and of those as near none is nearer to 0 -/
theorem bestU_near {q n l : Int} (hq : okQU q = true) (hl : okLU l = true) :
    gapU q n (bestU q n 128) ≤ gapU q n l ∧ (gapU q n (bestU q n 128) < gapU q n l ∨ max (bestU q n 128) (-(bestU q n 128)) ≤ max l (-l)) := by
  rw [okQU_iff] at hq
  rw [okLU_iff] at hl
  by_cases h : l ≠ 0 ∧ ((n < 0 ∧ 0 ≤ l) ∨ (0 ≤ n ∧ l ≤ 0))
  · have h1 := gapU_other hq.1 h.1 h.2
    have h2 := bestU_gap0 q n 128
    exact ⟨by omega, .inl (by omega)⟩
  · obtain ⟨j, hj1, hj2⟩ : ∃ j : Nat, l = sideU n * j ∧ j < 128 := by
      unfold sideU
      by_cases hn : n < 0
      · exact ⟨(-l).toNat, by rw [if_pos hn]; omega, by omega⟩
      · exact ⟨l.toNat, by rw [if_neg hn]; omega, by omega⟩
    obtain ⟨h1, h2⟩ := bestU_le q n 128 j hj2
    have h3 : max l (-l) = j := by rw [hj1]; rcases sideU_sq n with e | e <;> rw [e] <;> omega
    rw [← hj1] at h1 h2
    refine ⟨h1, ?_⟩
    by_cases h4 : gapU q n (bestU q n 128) = gapU q n l
    · exact .inr (by rw [h3]; exact h2 h4)
    · exact .inl (by omega)
/-- the nearest level of a level's value has that value -/
theorem bestU_worth {q l : Int} (hq : okQU q = true) (hl : okLU l = true) : worthU (bestU q (worthU l q) 128) q = worthU l q := by
  have h := (bestU_near (n := worthU l q) hq hl).1
  have h0 : gapU q (worthU l q) l = 0 := by unfold gapU; omega
  rw [h0] at h
  unfold gapU at h
  omega

/-! ### blocks -/
theorem allU_iff (b : List Int) : b.all okLU = true ↔ ∀ k, k < b.length → okLU (b[k]?.getD 0) = true := by
  rw [List.all_eq_true]
  constructor
  · intro h k hk
    rw [List.getElem?_eq_getElem hk]
    exact h _ (List.getElem_mem _)
  · intro h x hx
    obtain ⟨k, hk, rfl⟩ := List.getElem_of_mem hx
    have := h k hk
    rw [List.getElem?_eq_getElem hk] at this
    exact this
theorem not_allU {b : List Int} {k : Nat} (hk : k < b.length) (h : okLU (b[k]?.getD 0) = false) : b.all okLU = false := by
  rw [Bool.eq_false_iff]
  intro h2
  have := (allU_iff b).1 h2 k hk
  rw [h] at this
  cases this
theorem interU_len {xs : List Int} (q : Int) (h : xs.length ≠ 64) : interU xs q = (2, []) := by unfold interU; rw [if_pos h]
theorem interU_bad {xs : List Int} {q : Int} (h : xs.length = 64) (h2 : xs.all okLU = false ∨ okQU q = false) : interU xs q = (3, []) := by unfold interU; rw [if_neg (by omega), if_pos h2]
theorem interU_ok {xs : List Int} {q : Int} (h : xs.length = 64) (h2 : xs.all okLU = true) (h3 : okQU q = true) : interU xs q = (0, xs.map fun l => worthU l q) := by unfold interU; rw [if_neg (by omega), if_neg (by rw [h2, h3]; simp)]
theorem interU_cases (xs : List Int) (q : Int) : interU xs q = (2, []) ∨ interU xs q = (3, []) ∨ (xs.length = 64 ∧ xs.all okLU = true ∧ okQU q = true ∧ interU xs q = (0, xs.map fun l => worthU l q)) := by
  by_cases h : xs.length = 64
  · by_cases h2 : xs.all okLU = false ∨ okQU q = false
    · exact .inr (.inl (interU_bad h h2))
    · have h3 : xs.all okLU = true := by cases e : xs.all okLU <;> simp_all
      have h4 : okQU q = true := by cases e : okQU q <;> simp_all
      exact .inr (.inr ⟨h, h3, h4, interU_ok h h3 h4⟩)
  · exact .inl (interU_len q h)
/-- so many values, and noughts -/
def fillU (xs : List Int) (q : Int) (k : Nat) : List Int := ((xs.take k).map fun l => worthU l q) ++ List.replicate (64 - k) 0
theorem fillU_length {xs : List Int} (q : Int) {k : Nat} (h : xs.length = 64) (hk : k ≤ 64) : (fillU xs q k).length = 64 := by simp [fillU]; omega
theorem fillU_zero (xs : List Int) (q : Int) : fillU xs q 0 = List.replicate 64 0 := by simp [fillU]
theorem fillU_all {xs : List Int} (q : Int) (h : xs.length = 64) : fillU xs q 64 = xs.map fun l => worthU l q := by simp [fillU, List.take_of_length_le (Nat.le_of_eq h)]
theorem fillU_step {xs : List Int} (q : Int) {k : Nat} (h : xs.length = 64) (hk : k < 64) : (fillU xs q k).set k (worthU (xs[k]?.getD 0) q) = fillU xs q (k + 1) := by
  unfold fillU
  have e1 : ((xs.take k).map fun l => worthU l q).length = k := by simp; omega
  rw [show 64 - k = (64 - (k + 1)) + 1 by omega, List.replicate_succ, List.set_append_right _ _ (by omega), e1, Nat.sub_self, List.set_cons_zero, List.take_succ_eq_append_getElem (by omega), List.map_append, List.append_assoc, List.getElem?_eq_getElem (by omega)]
  rfl

end Go.Proofs.YtlcaboddkcpgaaaDoor

/- cosine, plainly: sums, weights, lines and blocks, what functions answer; what follows: turned, mirrored, a sum of blocks. -/
namespace Go.Proofs.YtlcaboddkcpgaaaDoor
open Go.RowKit Go.Shelf
set_option linter.unusedVariables false

/-! ### sums -/
/-- the sum of so many -/
def smC : Nat → (Nat → Int) → Int
  | 0, _ => 0
  | n + 1, f => smC n f + f n
theorem smC_zero (f : Nat → Int) : smC 0 f = 0 := rfl
theorem smC_succ (n : Nat) (f : Nat → Int) : smC (n + 1) f = smC n f + f n := rfl
theorem smC_congr {n : Nat} {f g : Nat → Int} (h : ∀ i, i < n → f i = g i) : smC n f = smC n g := by
  induction n with
  | zero => rfl
  | succ n ih => rw [smC_succ, smC_succ, ih (fun i hi => h i (by omega)), h n (by omega)]
theorem smC_add (n : Nat) (f g : Nat → Int) : smC n (fun i => f i + g i) = smC n f + smC n g := by
  induction n with
  | zero => rfl
  | succ n ih => rw [smC_succ, smC_succ, smC_succ, ih]; omega
theorem smC_mul (n : Nat) (a : Int) (f : Nat → Int) : smC n (fun i => a * f i) = a * smC n f := by
  induction n with
  | zero => simp [smC]
  | succ n ih => rw [smC_succ, smC_succ, ih, Int.mul_add]
theorem smC_none (n : Nat) : smC n (fun _ => 0) = 0 := by
  induction n with
  | zero => rfl
  | succ n ih => rw [smC_succ, ih]; rfl
theorem smC_swap (m n : Nat) (f : Nat → Nat → Int) : smC m (fun i => smC n fun j => f i j) = smC n (fun j => smC m fun i => f i j) := by
  induction m with
  | zero => exact (smC_none n).symm
  | succ m ih =>
    rw [smC_succ, ih, ← smC_add]
    exact smC_congr (fun j _ => (smC_succ m _).symm)
theorem smC_app (m n : Nat) (f : Nat → Int) : smC (m + n) f = smC m f + smC n (fun i => f (m + i)) := by
  induction n with
  | zero => simp [smC]
  | succ n ih => rw [show m + (n + 1) = (m + n) + 1 from rfl, smC_succ, ih, smC_succ]; omega
theorem smC_rows (n : Nat) (f : Nat → Int) : smC (8 * n) f = smC n (fun v => smC 8 fun u => f (8 * v + u)) := by
  induction n with
  | zero => rfl
  | succ n ih => rw [show 8 * (n + 1) = 8 * n + 8 from rfl, smC_app, ih]; exact (smC_succ n _).symm
theorem smC_le {n : Nat} {f : Nat → Int} {M : Int} (h : ∀ i, i < n → -M ≤ f i ∧ f i ≤ M) : -(n * M) ≤ smC n f ∧ smC n f ≤ n * M := by
  induction n with
  | zero => simp [smC]
  | succ n ih =>
    have h1 := ih (fun i hi => h i (by omega))
    have h2 := h n (by omega)
    have e : ((n + 1 : Nat) : Int) * M = n * M + M := by rw [Int.natCast_add, Int.add_mul]; simp
    rw [smC_succ, e]
    omega

/-! ### weights -/
def wtL : List Int := [1448, 1448, 1448, 1448, 1448, 1448, 1448, 1448, 2009, 1703, 1138, 400, -400, -1138, -1703, -2009, 1892, 784, -784, -1892, -1892, -784, 784, 1892, 1703, -400, -2009, -1138, 1138, 2009, 400, -1703, 1448, -1448, -1448, 1448, 1448, -1448, -1448, 1448, 1138, -2009, 400, 1703, -1703, -400, 2009, -1138, 784, -1892, 1892, -784, -784, 1892, -1892, 784, 400, -1138, 1703, -2009, 2009, -1703, 1138, -400]
def wt (u x : Nat) : Int := wtL[8 * u + x]?.getD 0
/-- c of so many steps -/
def cK (k : Nat) : Int := [2048, 2009, 1892, 1703, 1448, 1138, 784, 400, 0, -400, -784, -1138, -1448, -1703, -1892, -2009, -2048, -2009, -1892, -1703, -1448, -1138, -784, -400, 0, 400, 784, 1138, 1448, 1703, 1892, 2009][k]?.getD 0
theorem wt_zero : ∀ x : Fin 8, wt 0 x = 1448 := by decide +kernel
theorem wt_cK : ∀ u x : Fin 8, 1 ≤ u.val → wt u x = cK ((2 * x.val + 1) * u.val % 32) := by decide +kernel
theorem wt_le : ∀ u x : Fin 8, -2048 ≤ wt u x ∧ wt u x ≤ 2048 := by decide +kernel
theorem wt_in {u x : Nat} (hu : u < 8) (hx : x < 8) : -2048 ≤ wt u x ∧ wt u x ≤ 2048 := wt_le ⟨u, hu⟩ ⟨x, hx⟩
theorem wt_mirror' : ∀ u x : Fin 8, wt u (7 - x.val) = wt u x * (1 - 2 * ((u.val % 2 : Nat) : Int)) := by decide +kernel
theorem wt_mirror {u x : Nat} (hu : u < 8) (hx : x < 8) : wt u (7 - x) = wt u x * (1 - 2 * ((u % 2 : Nat) : Int)) := wt_mirror' ⟨u, hu⟩ ⟨x, hx⟩

/-! ### lines and blocks -/
/-- which line a place lies on, and which place of it it is; the place, by these -/
def coC (d : Bool) (j : Nat) : Nat := if d then j % 8 else j / 8
def ixC (d : Bool) (j : Nat) : Nat := if d then j / 8 else j % 8
def plC (d : Bool) (f i : Nat) : Nat := if d then 8 * i + f else 8 * f + i
theorem pl_lt (d : Bool) {f i : Nat} (hf : f < 8) (hi : i < 8) : plC d f i < 64 := by unfold plC; cases d <;> simp <;> omega
theorem co_pl (d : Bool) {f i : Nat} (hf : f < 8) (hi : i < 8) : coC d (plC d f i) = f := by unfold coC plC; cases d <;> simp <;> omega
theorem ix_pl (d : Bool) {f i : Nat} (hf : f < 8) (hi : i < 8) : ixC d (plC d f i) = i := by unfold ixC plC; cases d <;> simp <;> omega
theorem pl_co (d : Bool) {j : Nat} : plC d (coC d j) (ixC d j) = j := by unfold ixC coC plC; cases d <;> simp <;> omega
theorem co_lt (d : Bool) {j : Nat} (h : j < 64) : coC d j < 8 := by unfold coC; cases d <;> simp <;> omega
theorem ix_lt (d : Bool) {j : Nat} (h : j < 64) : ixC d j < 8 := by unfold ixC; cases d <;> simp <;> omega

abbrev nthC (b : List Int) (j : Nat) : Int := b[j]?.getD 0
/-- a list of so many, told place by place -/
def ofC (n : Nat) (f : Nat → Int) : List Int := (List.range n).map f
theorem ofC_length (n : Nat) (f : Nat → Int) : (ofC n f).length = n := by simp [ofC]
theorem ofC_get {n : Nat} {f : Nat → Int} {j : Nat} (h : j < n) : nthC (ofC n f) j = f j := by simp [nthC, ofC, h]
theorem ofC_out {n : Nat} {f : Nat → Int} {j : Nat} (h : n ≤ j) : nthC (ofC n f) j = 0 := by simp [nthC, ofC, h]
theorem listC_ext {n : Nat} {a b : List Int} (ha : a.length = n) (hb : b.length = n) (h : ∀ j, j < n → nthC a j = nthC b j) : a = b := by
  apply List.ext_getElem?
  intro j
  by_cases hj : j < n
  · have := h j hj
    simp only [nthC] at this
    rw [List.getElem?_eq_getElem (by omega), List.getElem?_eq_getElem (by omega)] at this ⊢
    simpa using this
  · rw [List.getElem?_eq_none (by omega), List.getElem?_eq_none (by omega)]
theorem ofC_self {n : Nat} {b : List Int} (h : b.length = n) : ofC n (nthC b) = b := listC_ext (ofC_length _ _) h (fun j hj => ofC_get hj)
theorem ofC_congr {n : Nat} {f g : Nat → Int} (h : ∀ j, j < n → f j = g j) : ofC n f = ofC n g := listC_ext (ofC_length _ _) (ofC_length _ _) (fun j hj => by rw [ofC_get hj, ofC_get hj, h j hj])
theorem nth_set {b : List Int} {k j : Nat} {x : Int} (hk : k < b.length) : nthC (b.set k x) j = if j = k then x else nthC b j := by
  unfold nthC
  rw [List.getElem?_set]
  by_cases h : k = j
  · subst h; simp [hk]
  · rw [if_neg h, if_neg (by omega)]
theorem ofC_set {n : Nat} {f : Nat → Int} {k : Nat} {x : Int} (hk : k < n) : (ofC n f).set k x = ofC n (fun j => if j = k then x else f j) :=
  listC_ext (by simp [ofC]) (ofC_length _ _) (fun j hj => by
    rw [nth_set (by rw [ofC_length]; exact hk), ofC_get hj, ofC_get hj])

/-- the sums of eight numbers -/
def lineS (l : List Int) : List Int := ofC 8 fun x => smC 8 fun u => wt u x * nthC l u
/-- what a place of a block is worth by its line -/
def lnS (d : Bool) (b : List Int) (j : Nat) : Int := smC 8 fun u => wt u (ixC d j) * nthC b (plC d (coC d j) u)
/-- a block of which so many lines are summed, and so many places of one more -/
def mixC (d : Bool) (base b : List Int) (f k : Nat) : List Int := ofC 64 fun j => if coC d j < f ∨ (coC d j = f ∧ ixC d j < k) then lnS d b j else nthC base j
def linesC (d : Bool) (b : List Int) : List Int := ofC 64 (lnS d b)
/-- one line of a block is summed, so many places of it -/
def turnC (d : Bool) (b : List Int) (f k : Nat) : List Int := ofC 64 fun j => if coC d j = f ∧ ixC d j < k then lnS d b j else nthC b j
/-- a line of a block -/
def pickC (d : Bool) (b : List Int) (f k : Nat) : List Int := ofC 8 fun i => if i < k then nthC b (plC d f i) else 0
theorem lineS_length (l : List Int) : (lineS l).length = 8 := ofC_length _ _
theorem mix_length (d : Bool) (base b : List Int) (f k : Nat) : (mixC d base b f k).length = 64 := ofC_length _ _
theorem turn_length (d : Bool) (b : List Int) (f k : Nat) : (turnC d b f k).length = 64 := ofC_length _ _
theorem lines_length (d : Bool) (b : List Int) : (linesC d b).length = 64 := ofC_length _ _
theorem pick_length (d : Bool) (b : List Int) (f k : Nat) : (pickC d b f k).length = 8 := ofC_length _ _
theorem lineS_get {l : List Int} {x : Nat} (hx : x < 8) : nthC (lineS l) x = smC 8 fun u => wt u x * nthC l u := ofC_get hx
/-- the sums of a line that was picked -/
theorem lineS_pick (d : Bool) (b : List Int) {f i : Nat} (hf : f < 8) (hi : i < 8) : nthC (lineS (pickC d b f 8)) i = lnS d b (plC d f i) := by
  rw [lineS_get hi]
  unfold lnS
  rw [ix_pl d hf hi, co_pl d hf hi]
  exact smC_congr (fun u hu => by unfold pickC; rw [ofC_get hu, if_pos hu])
theorem pick_step (d : Bool) (b : List Int) {f k : Nat} (hk : k < 8) : (pickC d b f k).set k (nthC b (plC d f k)) = pickC d b f (k + 1) := by
  unfold pickC
  rw [ofC_set hk]
  apply ofC_congr
  intro j hj
  by_cases h : j = k
  · rw [if_pos h, if_pos (by omega), h]
  · rw [if_neg h]
    by_cases h2 : j < k
    · rw [if_pos h2, if_pos (by omega)]
    · rw [if_neg h2, if_neg (by omega)]
theorem pick_zero (d : Bool) (b : List Int) (f : Nat) : pickC d b f 0 = List.replicate 8 0 := listC_ext (pick_length _ _ _ _) (by simp) (fun j hj => by unfold pickC; rw [ofC_get hj, if_neg (by omega)]; unfold nthC; rw [List.getElem?_replicate, if_pos hj]; rfl)
theorem pl_ne (d : Bool) {f k j : Nat} (hf : f < 8) (hk : k < 8) : j = plC d f k ↔ (coC d j = f ∧ ixC d j = k) := by
  constructor
  · rintro rfl
    exact ⟨co_pl d hf hk, ix_pl d hf hk⟩
  · rintro ⟨h1, h2⟩
    rw [← h1, ← h2, pl_co]
theorem turn_step (d : Bool) (b : List Int) {f k : Nat} (hf : f < 8) (hk : k < 8) : (turnC d b f k).set (plC d f k) (lnS d b (plC d f k)) = turnC d b f (k + 1) := by
  unfold turnC
  rw [ofC_set (pl_lt d hf hk)]
  apply ofC_congr
  intro j hj
  by_cases h : j = plC d f k
  · obtain ⟨h1, h2⟩ := (pl_ne d hf hk).1 h
    rw [if_pos h, if_pos ⟨h1, by omega⟩, h]
  · rw [if_neg h]
    have h' : ¬ (coC d j = f ∧ ixC d j = k) := fun e => h ((pl_ne d hf hk).2 e)
    by_cases h2 : coC d j = f ∧ ixC d j < k
    · rw [if_pos h2, if_pos ⟨h2.1, by omega⟩]
    · rw [if_neg h2, if_neg (by omega)]
theorem turn_zero (d : Bool) {b : List Int} (f : Nat) (hb : b.length = 64) : turnC d b f 0 = b := listC_ext (turn_length _ _ _ _) hb (fun j hj => by unfold turnC; rw [ofC_get hj, if_neg (by omega)])
theorem mix_step (d : Bool) (base b : List Int) {f k : Nat} (hf : f < 8) (hk : k < 8) : (mixC d base b f k).set (plC d f k) (lnS d b (plC d f k)) = mixC d base b f (k + 1) := by
  unfold mixC
  rw [ofC_set (pl_lt d hf hk)]
  apply ofC_congr
  intro j hj
  by_cases h : j = plC d f k
  · obtain ⟨h1, h2⟩ := (pl_ne d hf hk).1 h
    rw [if_pos h, if_pos (by omega), h]
  · rw [if_neg h]
    have h' : ¬ (coC d j = f ∧ ixC d j = k) := fun e => h ((pl_ne d hf hk).2 e)
    by_cases h2 : coC d j < f ∨ (coC d j = f ∧ ixC d j < k)
    · rw [if_pos h2, if_pos (by omega)]
    · rw [if_neg h2, if_neg (by omega)]
theorem mix_zero (d : Bool) {base : List Int} (b : List Int) (hb : base.length = 64) : mixC d base b 0 0 = base := listC_ext (mix_length _ _ _ _ _) hb (fun j hj => by unfold mixC; rw [ofC_get hj, if_neg (by omega)])
theorem mix_next (d : Bool) (base b : List Int) (f : Nat) : mixC d base b f 8 = mixC d base b (f + 1) 0 := by
  unfold mixC
  apply ofC_congr
  intro j hj
  have := ix_lt d hj
  by_cases h2 : coC d j < f + 1
  · rw [if_pos (by omega), if_pos (by omega)]
  · rw [if_neg (by omega), if_neg (by omega)]
theorem mix_all (d : Bool) (base b : List Int) : mixC d base b 8 0 = linesC d b := by
  unfold mixC linesC
  apply ofC_congr
  intro j hj
  rw [if_pos (.inl (co_lt d hj))]
/-- a line of the block that is half summed, summed -/
theorem turn_mix (d : Bool) (b : List Int) {f : Nat} (hf : f < 8) : turnC d (mixC d b b f 0) f 8 = mixC d b b (f + 1) 0 := by
  unfold turnC
  rw [← mix_next]
  conv => rhs; unfold mixC
  apply ofC_congr
  intro j hj
  have h8 := ix_lt d hj
  have hm : ∀ u, u < 8 → nthC (mixC d b b f 0) (plC d f u) = nthC b (plC d f u) := by
    intro u hu
    unfold mixC
    rw [ofC_get (pl_lt d hf hu), co_pl d hf hu, if_neg (by omega)]
  by_cases h : coC d j = f
  · rw [if_pos ⟨h, h8⟩, if_pos (.inr ⟨h, h8⟩)]
    unfold lnS
    exact smC_congr (fun u hu => by rw [h, hm u hu])
  · rw [if_neg (by omega)]
    unfold mixC
    rw [ofC_get hj]
    by_cases h2 : coC d j < f
    · rw [if_pos (.inl h2), if_pos (.inl h2)]
    · rw [if_neg (by omega), if_neg (by omega)]

/-! ### a block's sums -/
/-- the sum of 64 products -/
def invS (b : List Int) (k : Nat) : Int := smC 64 fun i => wt (i % 8) (k % 8) * wt (i / 8) (k / 8) * nthC b i
theorem invS_rows (b : List Int) (k : Nat) : invS b k = smC 8 fun v => smC 8 fun u => wt u (k % 8) * wt v (k / 8) * nthC b (8 * v + u) := by
  unfold invS
  rw [show (64 : Nat) = 8 * 8 from rfl, smC_rows]
  exact smC_congr (fun v _ => smC_congr (fun u hu => by rw [show (8 * v + u) % 8 = u by omega, show (8 * v + u) / 8 = v by omega]))
theorem lines_rc (b : List Int) {k : Nat} (hk : k < 64) : lnS true (linesC false b) k = invS b k := by
  rw [invS_rows]
  unfold lnS
  apply smC_congr
  intro v hv
  have e : plC true (coC true k) v = 8 * v + k % 8 := by simp [plC, coC]
  rw [e]
  unfold linesC
  rw [ofC_get (by omega)]
  unfold lnS
  rw [← smC_mul]
  apply smC_congr
  intro u hu
  simp only [ixC, coC, plC, if_true, Bool.false_eq_true, if_false]
  rw [show (8 * v + k % 8) % 8 = k % 8 by omega, show (8 * v + k % 8) / 8 = v by omega]
  rw [Int.mul_comm (wt u (k % 8)) (wt v (k / 8)), Int.mul_assoc]
theorem lines_cr (b : List Int) {k : Nat} (hk : k < 64) : lnS false (linesC true b) k = invS b k := by
  rw [invS_rows, smC_swap]
  unfold lnS
  apply smC_congr
  intro u hu
  have e : plC false (coC false k) u = 8 * (k / 8) + u := by simp [plC, coC]
  rw [e]
  unfold linesC
  rw [ofC_get (by omega)]
  unfold lnS
  rw [← smC_mul]
  apply smC_congr
  intro v hv
  simp only [ixC, coC, plC, if_true, Bool.false_eq_true, if_false]
  rw [show (8 * (k / 8) + u) % 8 = u by omega, show (8 * (k / 8) + u) / 8 = k / 8 by omega]
  rw [← Int.mul_assoc]
theorem lines_two (b : List Int) : linesC true (linesC false b) = ofC 64 (invS b) := ofC_congr (fun _ hk => lines_rc b hk)
theorem lines_two' (b : List Int) : linesC false (linesC true b) = ofC 64 (invS b) := ofC_congr (fun _ hk => lines_cr b hk)

/-! ### how great they are -/
theorem mul_in {a x A M : Int} (ha : -A ≤ a ∧ a ≤ A) (hx : -M ≤ x ∧ x ≤ M) (hA : 0 ≤ A) (hM : 0 ≤ M) : -(A * M) ≤ a * x ∧ a * x ≤ A * M := by
  have h1 : (a * x).natAbs ≤ A.toNat * M.toNat := by
    rw [Int.natAbs_mul]
    exact Nat.mul_le_mul (by omega) (by omega)
  have h2 : ((A.toNat * M.toNat : Nat) : Int) = A * M := by rw [Int.natCast_mul, Int.toNat_of_nonneg hA, Int.toNat_of_nonneg hM]
  omega
theorem nth_in {b : List Int} {M : Int} (hM : 0 ≤ M) (h : ∀ x ∈ b, -M ≤ x ∧ x ≤ M) (j : Nat) : -M ≤ nthC b j ∧ nthC b j ≤ M := by
  unfold nthC
  cases e : b[j]? with
  | none => simp; omega
  | some x => simpa using h x (List.mem_of_getElem? e)
theorem lnS_in (d : Bool) {b : List Int} {M : Int} (hM : 0 ≤ M) (h : ∀ j, -M ≤ nthC b j ∧ nthC b j ≤ M) {j : Nat} (hj : j < 64) : -(8 * (2048 * M)) ≤ lnS d b j ∧ lnS d b j ≤ 8 * (2048 * M) :=
  smC_le (n := 8) (fun u hu => mul_in (wt_in hu (ix_lt d hj)) (h _) (by omega) hM)
theorem lines_in (d : Bool) {b : List Int} {M : Int} (hM : 0 ≤ M) (h : ∀ j, -M ≤ nthC b j ∧ nthC b j ≤ M) (j : Nat) : -(8 * (2048 * M)) ≤ nthC (linesC d b) j ∧ nthC (linesC d b) j ≤ 8 * (2048 * M) := by
  unfold linesC
  by_cases hj : j < 64
  · rw [ofC_get hj]; exact lnS_in d hM h hj
  · rw [ofC_out (by omega)]; omega
theorem mix_in (d : Bool) {b : List Int} {M : Int} (hM : 0 ≤ M) (h : ∀ j, -M ≤ nthC b j ∧ nthC b j ≤ M) (f k j : Nat) : -(8 * (2048 * M)) ≤ nthC (mixC d b b f k) j ∧ nthC (mixC d b b f k) j ≤ 8 * (2048 * M) := by
  unfold mixC
  by_cases hj : j < 64
  · rw [ofC_get hj]
    split
    · exact lnS_in d hM h hj
    · have := h j; omega
  · rw [ofC_out (by omega)]; omega
/-- part of a sum -/
theorem part_in {n : Nat} (hn : n ≤ 8) {l : List Int} {M : Int} (hM : 0 ≤ M) (h : ∀ j, -M ≤ nthC l j ∧ nthC l j ≤ M) {x : Nat} (hx : x < 8) :
    -(8 * (2048 * M)) ≤ (smC n fun u => wt u x * nthC l u) ∧ (smC n fun u => wt u x * nthC l u) ≤ 8 * (2048 * M) := by
  have h1 := smC_le (n := n) (f := fun u => wt u x * nthC l u) (M := 2048 * M) (fun u hu => mul_in (wt_in (by omega) hx) (h _) (by omega) hM)
  have h2 : (n : Int) * (2048 * M) ≤ 8 * (2048 * M) := Int.mul_le_mul_of_nonneg_right (by omega) (by omega)
  omega
theorem invP_in {n : Nat} (hn : n ≤ 64) {b : List Int} (h : ∀ j, -2048 ≤ nthC b j ∧ nthC b j ≤ 2048) {k : Nat} (hk : k < 64) :
    -549755813888 ≤ (smC n fun i => wt (i % 8) (k % 8) * wt (i / 8) (k / 8) * nthC b i) ∧ (smC n fun i => wt (i % 8) (k % 8) * wt (i / 8) (k / 8) * nthC b i) ≤ 549755813888 := by
  have h1 := smC_le (n := n) (f := fun i => wt (i % 8) (k % 8) * wt (i / 8) (k / 8) * nthC b i) (M := 2048 * 2048 * 2048)
    (fun i hi => mul_in (A := 2048 * 2048) (mul_in (wt_in (by omega) (by omega)) (wt_in (by omega) (by omega)) (by omega) (by omega)) (h _) (by omega) (by omega))
  have h2 : (n : Int) * (2048 * 2048 * 2048) ≤ 64 * (2048 * 2048 * 2048) := Int.mul_le_mul_of_nonneg_right (by omega) (by omega)
  omega

/-! ### what follows: turned, mirrored, a sum -/
theorem invS_turned (b : List Int) {k : Nat} (hk : k < 64) : invS (ofC 64 fun i => nthC b (i % 8 * 8 + i / 8)) k = invS b (k % 8 * 8 + k / 8) := by
  rw [invS_rows, invS_rows, smC_swap]
  apply smC_congr
  intro u hu
  apply smC_congr
  intro v hv
  rw [ofC_get (by omega), show (8 * v + u) % 8 = u by omega, show (8 * v + u) / 8 = v by omega, show (k % 8 * 8 + k / 8) % 8 = k / 8 by omega, show (k % 8 * 8 + k / 8) / 8 = k % 8 by omega, Int.mul_comm (wt u _) (wt v _), Nat.mul_comm u 8]
theorem invS_across (b : List Int) {k : Nat} (hk : k < 64) : invS (ofC 64 fun i => nthC b i * (1 - 2 * ((i % 2 : Nat) : Int))) k = invS b (k / 8 * 8 + 7 - k % 8) := by
  unfold invS
  apply smC_congr
  intro i hi
  rw [ofC_get hi, show (k / 8 * 8 + 7 - k % 8) % 8 = 7 - k % 8 by omega, show (k / 8 * 8 + 7 - k % 8) / 8 = k / 8 by omega, wt_mirror (by omega) (by omega), show i % 8 % 2 = i % 2 by omega]
  ac_rfl
theorem invS_down (b : List Int) {k : Nat} (hk : k < 64) : invS (ofC 64 fun i => nthC b i * (1 - 2 * ((i / 8 % 2 : Nat) : Int))) k = invS b ((7 - k / 8) * 8 + k % 8) := by
  unfold invS
  apply smC_congr
  intro i hi
  rw [ofC_get hi, show ((7 - k / 8) * 8 + k % 8) % 8 = k % 8 by omega, show ((7 - k / 8) * 8 + k % 8) / 8 = 7 - k / 8 by omega, wt_mirror (u := i / 8) (by omega) (by omega)]
  ac_rfl
theorem invS_sum (a b : List Int) (k : Nat) : invS (ofC 64 fun i => nthC a i + nthC b i) k = invS a k + invS b k := by
  unfold invS
  rw [← smC_add]
  apply smC_congr
  intro i hi
  rw [ofC_get hi, Int.mul_add]
/-- a sum, rounded -/
def rndC (s : Int) : Int := (s + 8388608) / 16777216
theorem rnd_sum (s t : Int) : -1 ≤ rndC (s + t) - rndC s - rndC t ∧ rndC (s + t) - rndC s - rndC t ≤ 1 := by unfold rndC; omega

/-! ### what the functions answer -/
def okPC (n : Int) : Bool := decide (0 ≤ n) && decide (n < 8)
theorem okPC_iff (n : Int) : okPC n = true ↔ 0 ≤ n ∧ n < 8 := by simp [okPC]
def weightR (u x : Int) : Int × Int := if okPC u && okPC x then (wt u.toNat x.toNat, 0) else (0, 3)
def okNC (lo hi n : Int) : Bool := decide (lo ≤ n) && decide (n ≤ hi)
theorem okNC_iff (lo hi n : Int) : okNC lo hi n = true ↔ lo ≤ n ∧ n ≤ hi := by simp [okNC]
def checkR (l : List Int) (m : Nat) (lo hi : Int) : Int := if l.length ≠ m then 2 else if l.all (okNC lo hi) then 0 else 3
def lineR (l : List Int) : Int × List Int := if checkR l 8 (-1099511627776) 1099511627776 = 0 then (0, lineS l) else (checkR l 8 (-1099511627776) 1099511627776, [])
def invL (b : List Int) : List Int := ofC 64 fun k => rndC (invS b k)
def invR (b : List Int) : Int × List Int := if checkR b 64 (-2048) 2047 = 0 then (0, invL b) else (checkR b 64 (-2048) 2047, [])
theorem invL_length (b : List Int) : (invL b).length = 64 := ofC_length _ _
theorem allC_iff (l : List Int) (lo hi : Int) : l.all (okNC lo hi) = true ↔ ∀ j, j < l.length → okNC lo hi (nthC l j) = true := by
  rw [List.all_eq_true]
  constructor
  · intro h j hj
    apply h
    simp [nthC, hj]
  · intro h x hx
    obtain ⟨j, hj, rfl⟩ := List.mem_iff_getElem.1 hx
    have := h j hj
    simpa [nthC, hj] using this
theorem not_allC {l : List Int} {lo hi : Int} {j : Nat} (hj : j < l.length) (h : okNC lo hi (nthC l j) = false) : l.all (okNC lo hi) = false := by
  cases e : l.all (okNC lo hi) with
  | false => rfl
  | true => have := (allC_iff l lo hi).1 e j hj; rw [h] at this; cases this
theorem checkR_len {l : List Int} {m : Nat} {lo hi : Int} (h : l.length ≠ m) : checkR l m lo hi = 2 := by unfold checkR; rw [if_pos h]
theorem checkR_bad {l : List Int} {m : Nat} {lo hi : Int} (h : l.length = m) (h2 : l.all (okNC lo hi) = false) : checkR l m lo hi = 3 := by unfold checkR; rw [if_neg (by omega), h2]; rfl
theorem checkR_ok {l : List Int} {m : Nat} {lo hi : Int} (h : l.length = m) (h2 : l.all (okNC lo hi) = true) : checkR l m lo hi = 0 := by unfold checkR; rw [if_neg (by omega), h2]; rfl
theorem checkR_cases (l : List Int) (m : Nat) (lo hi : Int) : checkR l m lo hi = 2 ∨ checkR l m lo hi = 3 ∨ (checkR l m lo hi = 0 ∧ l.length = m ∧ l.all (okNC lo hi) = true) := by
  by_cases h : l.length = m
  · cases h2 : l.all (okNC lo hi) with
    | true => exact .inr (.inr ⟨checkR_ok h h2, h, rfl⟩)
    | false => exact .inr (.inl (checkR_bad h h2))
  · exact .inl (checkR_len h)
theorem checkR_in {l : List Int} {m : Nat} {lo hi : Int} (h : l.all (okNC lo hi) = true) {M : Int} (hM : 0 ≤ M) (h1 : -M ≤ lo) (h2 : hi ≤ M) (j : Nat) : -M ≤ nthC l j ∧ nthC l j ≤ M := by
  apply nth_in hM
  intro x hx
  have := (okNC_iff lo hi x).1 (List.all_eq_true.1 h x hx)
  omega
theorem lineR_bad {l : List Int} (h : checkR l 8 (-1099511627776) 1099511627776 ≠ 0) : lineR l = (checkR l 8 (-1099511627776) 1099511627776, []) := by unfold lineR; rw [if_neg h]
theorem lineR_ok {l : List Int} (h : checkR l 8 (-1099511627776) 1099511627776 = 0) : lineR l = (0, lineS l) := by unfold lineR; rw [if_pos h]
theorem invR_bad {l : List Int} (h : checkR l 64 (-2048) 2047 ≠ 0) : invR l = (checkR l 64 (-2048) 2047, []) := by unfold invR; rw [if_neg h]
theorem invR_ok {l : List Int} (h : checkR l 64 (-2048) 2047 = 0) : invR l = (0, invL l) := by unfold invR; rw [if_pos h]

/-- two rows of weights, multiplied place by place -/
def rowsC (u v : Nat) : Int := smC 8 fun x => wt u x * wt v x
theorem rows_near : ∀ u v : Fin 8, (u = v → -20000 < rowsC u v - 16777216 ∧ rowsC u v - 16777216 < 20000) ∧ (u ≠ v → -20000 < rowsC u v ∧ rowsC u v < 20000) := by decide +kernel

end Go.Proofs.YtlcaboddkcpgaaaDoor
