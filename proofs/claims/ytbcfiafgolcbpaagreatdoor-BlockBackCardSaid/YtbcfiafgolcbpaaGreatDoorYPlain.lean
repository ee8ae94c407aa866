/- block, plainly: which blocks may be, what is got, what is put, levels and samples; what is put is got, what is got may be. block, plainly: what is got may be, and is put in no more bits; of bits that are cut off nothing is got. block, plainly: what is handed over, pair by pair, from a cursor; how that comes to what Get answers. -/
import Derived.Test.YtbcfiafgolcbpaaGreatDoorEFact
import Derived.Test.YtbcfiafgolcbpaaGreatDoorCPlain
/- block, plainly: which blocks may be, what is got, what is put, levels and samples; what is put is got, what is got may be. -/
namespace Go.Proofs.YtbcfiafgolcbpaaGreatDoor
open Go.RowKit Go.Shelf
set_option linter.unusedVariables false

/-- may a number be an intra block's first code? -/
def dcOk (n : Int) : Bool := decide (1 ≤ n ∧ n ≤ 255 ∧ n ≠ 128)
def fstY (intra : Bool) : Nat := if intra then 1 else 0
/-- what Check answers -/
def chkY (dc : Int) (ps : List (Int × Int)) (intra : Bool) : Int :=
  if intra = true ∧ dcOk dc = false then 10 else if intra = false ∧ (dc ≠ 0 ∨ ps = []) then 2 else (spr ps (fstY intra) zeros64).1
/-- what Get answers -/
structure GotY where
  dc : Int
  ps : List (Int × Int)
  many : Int
  err : Int
def badY (e : Int) : GotY := ⟨0, [], 0, e⟩
/-- pairs, one behind the other, to the end -/
def pairsY (zs : List UInt8) (A : Nat) (dc : Int) : Nat → Nat → Bool → Nat → List (Int × Int) → GotY
  | 0, _, _, _, _ => badY 11
  | f + 1, bits, first, place, ps =>
    if (got first zs ((A + bits : Nat) : Int)).err ≠ 0 then badY (got first zs ((A + bits : Nat) : Int)).err
    else if (got first zs ((A + bits : Nat) : Int)).over = true then ⟨dc, ps, (bits : Int) + (got first zs ((A + bits : Nat) : Int)).many, 0⟩
    else if 63 < (place : Int) + (got first zs ((A + bits : Nat) : Int)).run then badY 11
    else pairsY zs A dc f (bits + (got first zs ((A + bits : Nat) : Int)).many.toNat) false (place + (got first zs ((A + bits : Nat) : Int)).run.toNat + 1) (ps ++ [((got first zs ((A + bits : Nat) : Int)).run, (got first zs ((A + bits : Nat) : Int)).level)])
def gotY (zs : List UInt8) (x : Int) (intra : Bool) : GotY :=
  if x < 0 then badY 3
  else if intra then
    if 8 * zs.length < x.toNat + 8 then badY 5
    else if dcOk (num zs x.toNat 8) = false then badY 10
    else pairsY zs x.toNat (num zs x.toNat 8) 65 8 false 1 []
  else pairsY zs x.toNat 0 65 0 true 0 []
/-- the codes of pairs, and the end -/
def textY : List (Int × Int) → Bool → ByteArray
  | [], _ => end8
  | (r, l) :: rest, first => putP first r l ++ textY rest false
def putTY (dc : Int) (ps : List (Int × Int)) (intra : Bool) : ByteArray := (if intra then binS dc.toNat 8 else ⟨#[]⟩) ++ textY ps (!intra)

/-! ### pairs that may be -/
def okPs : List (Int × Int) → Nat → Prop
  | [], place => place ≤ 64
  | (r, l) :: rest, place => okLv l = true ∧ 0 ≤ r ∧ (place : Int) + r ≤ 63 ∧ okPs rest (place + r.toNat + 1)
theorem okPs_spr : ∀ (ps : List (Int × Int)) (place : Nat) (b : List Int), place ≤ 64 → ((spr ps place b).1 = 0 ↔ okPs ps place)
  | [], place, b, h => by simp [spr, okPs, h]
  | (r, l) :: rest, place, b, h => by
    unfold spr okPs
    by_cases h1 : okLv l = false
    · rw [if_pos h1]
      simp [h1]
    · rw [if_neg h1]
      have h1' : okLv l = true := by simpa using h1
      by_cases h2 : r < 0 ∨ 64 - (place : Int) ≤ r
      · rw [if_pos h2]
        constructor
        · intro e; exact absurd e (by decide)
        · rintro ⟨_, h3, h4, _⟩; omega
      · rw [if_neg h2]
        have ih := okPs_spr rest (place + r.toNat + 1) (b.set (ordAt (place + r.toNat)) l) (by omega)
        rw [ih]
        constructor
        · intro e; exact ⟨h1', by omega, by omega, e⟩
        · rintro ⟨_, _, _, e⟩; exact e
theorem okPs_len : ∀ (ps : List (Int × Int)) (place : Nat), okPs ps place → ps.length + place ≤ 64
  | [], place, h => by simpa [okPs] using h
  | (r, l) :: rest, place, h => by
    obtain ⟨_, h1, h2, h3⟩ := h
    have := okPs_len rest _ h3
    simp only [List.length_cons]
    omega
theorem okPs_pair {r l : Int} {rest : List (Int × Int)} {place : Nat} (h : okPs ((r, l) :: rest) place) : isP r l = true := by
  obtain ⟨h0, h1, h2, _⟩ := h
  rw [okLv_iff] at h0
  unfold isP
  rw [decide_eq_true_iff]
  omega

/-! ### what is put is got -/
theorem pairs_put (zs : List UInt8) (A : Nat) (dc : Int) : ∀ (ps : List (Int × Int)) (f bits : Nat) (first : Bool) (place : Nat) (acc : List (Int × Int)), okPs ps place → ps.length < f → (first = true → ps ≠ []) → Stands zs (A + bits) (textY ps first) →
    pairsY zs A dc f bits first place acc = ⟨dc, acc ++ ps, (bits : Int) + (textY ps first).size, 0⟩
  | [], f + 1, bits, first, place, acc, hok, hf, hne, hs => by
    have hfirst : first = false := by cases first; rfl; exact absurd rfl (hne rfl)
    subst hfirst
    have hg := got_end (zs := zs) (A := A + bits) hs
    unfold pairsY
    rw [hg]
    simp [textY]
    rfl
  | (r, l) :: rest, f + 1, bits, first, place, acc, hok, hf, hne, hs => by
    have hp := okPs_pair hok
    obtain ⟨h0, h1, h2, h3⟩ := hok
    obtain ⟨s1, s2⟩ := Stands.split hs
    have hg := got_put hp s1
    unfold pairsY
    rw [hg]
    simp only [ne_eq, not_true_eq_false, if_false, Bool.false_eq_true]
    rw [if_neg (by omega), Int.toNat_natCast]
    rw [pairs_put zs A dc rest f (bits + (putP first r l).size) false (place + r.toNat + 1) (acc ++ [(r, l)]) h3 (by simp at hf; omega) (fun h => by cases h) (by rw [← Nat.add_assoc]; exact s2)]
    congr 1
    · simp
    · show _ = (bits : Int) + ((putP first r l ++ textY rest false).size : Nat)
      rw [ByteArray.size_append]
      omega
theorem chkY_ok {dc : Int} {ps : List (Int × Int)} {intra : Bool} (h : chkY dc ps intra = 0) : (intra = true → dcOk dc = true) ∧ (intra = false → dc = 0 ∧ ps ≠ []) ∧ okPs ps (fstY intra) := by
  unfold chkY at h
  split at h
  · exact absurd h (by decide)
  · rename_i h1
    split at h
    · exact absurd h (by decide)
    · rename_i h2
      refine ⟨fun hi => ?_, fun hi => ?_, (okPs_spr _ _ _ (by unfold fstY; split <;> omega)).1 h⟩
      · cases e : dcOk dc
        · exact absurd ⟨hi, e⟩ h1
        · rfl
      · refine ⟨?_, fun e => h2 ⟨hi, .inr e⟩⟩
        false_or_by_contra
        rename_i e
        exact h2 ⟨hi, .inl e⟩
theorem dcOk_iff (n : Int) : dcOk n = true ↔ 1 ≤ n ∧ n ≤ 255 ∧ n ≠ 128 := by simp [dcOk]
theorem got_putY {zs : List UInt8} {A : Nat} {dc : Int} {ps : List (Int × Int)} {intra : Bool} (hc : chkY dc ps intra = 0) (hs : Stands zs A (putTY dc ps intra)) : gotY zs A intra = ⟨dc, ps, (putTY dc ps intra).size, 0⟩ := by
  obtain ⟨c1, c2, c3⟩ := chkY_ok hc
  have hlen := okPs_len _ _ c3
  unfold gotY
  rw [if_neg (by omega), Int.toNat_natCast]
  cases intra with
  | true =>
    have hd := (dcOk_iff dc).1 (c1 rfl)
    unfold putTY at hs ⊢
    simp only [if_true] at hs ⊢
    obtain ⟨s1, s2⟩ := hs.split
    have hn := stands_num 8 _ _ _ s1
    rw [binS_size] at s2
    have hsz := s1.1
    rw [binS_size] at hsz
    have hnum : ((num zs A 8 : Nat) : Int) = dc := by rw [hn]; omega
    rw [if_neg (by omega), hnum, c1 rfl]
    simp only [Bool.true_eq_false, if_false]
    rw [pairs_put zs A dc ps 65 8 false 1 [] c3 (by omega) (fun h => by cases h) s2, ByteArray.size_append, binS_size]
    simp
  | false =>
    obtain ⟨rfl, hne⟩ := c2 rfl
    unfold putTY at hs ⊢
    simp only [Bool.false_eq_true, if_false] at hs ⊢
    have e : ((⟨#[]⟩ : ByteArray) ++ textY ps (!false)) = textY ps true := ByteArray.empty_append
    rw [e] at hs ⊢
    rw [pairs_put zs A 0 ps 65 0 true 0 [] c3 (by have : fstY false = 0 := rfl; omega) (fun _ => hne) hs]
    simp

end Go.Proofs.YtbcfiafgolcbpaaGreatDoor

/- block, plainly: what is got may be, and is put in no more bits; of bits that are cut off nothing is got. -/
namespace Go.Proofs.YtbcfiafgolcbpaaGreatDoor
open Go.RowKit Go.Shelf
set_option linter.unusedVariables false

/-! ### what is got -/
theorem pairs_apart : ∀ j k : Fin 63, j ≠ k → pairAt j.val ≠ pairAt k.val := by decide +kernel
theorem tabI_at {k : Nat} (hk : k < 63) {r l : Int} (hr : r = (pairAt k).1) (hl : l = (pairAt k).2 ∨ l = -((pairAt k).2 : Int)) : tabI r l = some k := by
  refine tabI_some hk (decide_eq_true ⟨hr.symm, by omega⟩) (fun j hj => decide_eq_false ?_)
  rintro ⟨h1, h2⟩
  have p1 := pairAt_one hk
  have p2 := pairAt_one (show j < 63 by omega)
  refine pairs_apart ⟨j, by omega⟩ ⟨k, hk⟩ (fun e => by have := congrArg Fin.val e; simp at this; omega) ?_
  exact Prod.ext (by simp only; omega) (by simp only; omega)
/-- what a code that was got is -/
structure IsGot (first : Bool) (zs : List UInt8) (A : Nat) (g : Got) : Prop where
  over : g.over = true → first = false ∧ g.many = 2
  pair : g.over = false → isP g.run g.level = true ∧ ((putP first g.run g.level).size : Int) ≤ g.many
  many : 1 ≤ g.many ∧ (A : Int) + g.many ≤ 8 * zs.length
theorem lvl_in {n : Nat} (h : n < 256) (h0 : n ≠ 0) (h1 : n ≠ 128) : -127 ≤ lvl n ∧ lvl n ≤ 127 ∧ lvl n ≠ 0 := by
  unfold lvl
  split <;> omega
theorem isGot {first : Bool} {zs : List UInt8} {A : Nat} (h : (got first zs (A : Int)).err = 0) : IsGot first zs A (got first zs (A : Int)) := by
  rw [got_nat] at h ⊢
  unfold gotS at h ⊢
  cases hI : getI (codesF first) (seenB zs A (seenN zs A)) with
  | none =>
    rw [hI] at h
    simp only at h
    exact absurd h (by split <;> decide)
  | some k =>
    rw [hI] at h
    simp only at h ⊢
    obtain ⟨hk, hb⟩ := getI_lt hI
    by_cases h63 : k < 63
    · rw [if_pos h63] at h ⊢
      unfold tabG at h ⊢
      by_cases hc : 8 * zs.length ≤ A + (codeF first k).size
      · rw [if_pos hc] at h
        exact absurd h (by decide)
      · rw [if_neg hc] at h ⊢
        have p1 := pairAt_one h63
        have hT := tabI_at h63 (r := ((pairAt k).1 : Int)) (l := if bt zs (A + (codeF first k).size) = 1 then -((pairAt k).2 : Int) else (pairAt k).2) rfl (by split <;> simp)
        have hrl := @pairAt_small k
        refine ⟨fun e => (by cases e), fun _ => ⟨?_, ?_⟩, by simp only; omega, by simp only; omega⟩
        · unfold isP
          rw [decide_eq_true_iff]
          simp only
          split <;> omega
        · simp only
          rw [putP_some hT, ByteArray.size_append, signS_size]
          omega
    · rw [if_neg h63] at h ⊢
      by_cases he : first = false ∧ k = 63
      · rw [if_pos he] at h ⊢
        obtain ⟨rfl, rfl⟩ := he
        rw [show (codesF false)[63]?.getD ⟨#[]⟩ = end8 by decide +kernel] at hb
        have h2 := ((seen_begins_iff zs A _ _).1 hb).1
        have h3 : (2 : Nat) ≤ seenN zs A := h2
        unfold seenN at h3
        exact ⟨fun _ => ⟨rfl, rfl⟩, fun e => (by cases e), by decide, by simp only; omega⟩
      · rw [if_neg he] at h ⊢
        unfold escG at h ⊢
        by_cases hc : 8 * zs.length < A + 20
        · rw [if_pos hc] at h
          exact absurd h (by decide)
        · rw [if_neg hc] at h ⊢
          by_cases hz : num zs (A + 12) 8 = 0 ∨ num zs (A + 12) 8 = 128
          · rw [if_pos hz] at h
            exact absurd h (by decide)
          · rw [if_neg hz] at h ⊢
            have n1 := num_lt zs (A + 6) 6
            have n2 := num_lt zs (A + 12) 8
            obtain ⟨l1, l2, l3⟩ := lvl_in (n := num zs (A + 12) 8) (by simpa using n2) (by omega) (by omega)
            refine ⟨fun e => (by cases e), fun _ => ⟨?_, ?_⟩, by simp only; omega, by simp only; omega⟩
            · unfold isP
              rw [decide_eq_true_iff]
              simp only
              omega
            · simp only
              have := (putP_size first (num zs (A + 6) 6 : Nat) (lvl (num zs (A + 12) 8))).2.1
              omega
theorem isP_okLv {r l : Int} (h : isP r l = true) : okLv l = true ∧ 0 ≤ r := by
  unfold isP at h
  rw [decide_eq_true_iff] at h
  rw [okLv_iff]
  omega
theorem pairs_got (zs : List UInt8) (A : Nat) (dc : Int) : ∀ (f bits : Nat) (first : Bool) (place : Nat) (acc : List (Int × Int)), place ≤ 64 → (pairsY zs A dc f bits first place acc).err = 0 →
    ∃ new, (pairsY zs A dc f bits first place acc).ps = acc ++ new ∧ okPs new place ∧ (first = true → new ≠ []) ∧ (bits : Int) + (textY new first).size ≤ (pairsY zs A dc f bits first place acc).many ∧ (A : Int) + (pairsY zs A dc f bits first place acc).many ≤ 8 * zs.length ∧ (pairsY zs A dc f bits first place acc).dc = dc
  | 0, bits, first, place, acc, hp, h => absurd (show (11 : Int) = 0 from h) (by decide)
  | f + 1, bits, first, place, acc, hp, h => by
    unfold pairsY at h ⊢
    by_cases h1 : (got first zs ((A + bits : Nat) : Int)).err ≠ 0
    · rw [if_pos h1] at h
      exact absurd h h1
    · rw [if_neg h1] at h ⊢
      have hG := isGot (show (got first zs ((A + bits : Nat) : Int)).err = 0 by simpa using h1)
      generalize got first zs ((A + bits : Nat) : Int) = g at *
      by_cases h2 : g.over = true
      · rw [if_pos h2] at h ⊢
        obtain ⟨rfl, hm⟩ := hG.over h2
        have hmm := hG.many.2
        refine ⟨[], by simp, by simpa [okPs] using hp, fun e => (by cases e), ?_, ?_, rfl⟩
        · show (bits : Int) + ((end8.size : Nat) : Int) ≤ (bits : Int) + g.many
          have : end8.size = 2 := rfl
          omega
        · show (A : Int) + ((bits : Int) + g.many) ≤ _
          omega
      · rw [if_neg h2] at h ⊢
        by_cases h3 : 63 < (place : Int) + g.run
        · rw [if_pos h3] at h
          exact absurd h (by decide)
        · rw [if_neg h3] at h ⊢
          obtain ⟨q1, q2⟩ := hG.pair (by simpa using h2)
          obtain ⟨q3, q4⟩ := isP_okLv q1
          obtain ⟨m1, m2⟩ := hG.many
          obtain ⟨new, e1, e2, _, e4, e5, e6⟩ := pairs_got zs A dc f _ _ _ _ (by omega) h
          refine ⟨(g.run, g.level) :: new, by rw [e1]; simp, ⟨q3, q4, by omega, e2⟩, fun _ => by simp, ?_, e5, e6⟩
          refine Int.le_trans ?_ e4
          show (bits : Int) + (((putP first g.run g.level ++ textY new false).size : Nat) : Int) ≤ _
          rw [ByteArray.size_append]
          omega
/-- what is got may be, and is put in no more bits -/
theorem got_mayY {zs : List UInt8} {A : Nat} {intra : Bool} (h : (gotY zs (A : Int) intra).err = 0) :
    chkY (gotY zs A intra).dc (gotY zs A intra).ps intra = 0 ∧ ((putTY (gotY zs A intra).dc (gotY zs A intra).ps intra).size : Int) ≤ (gotY zs A intra).many ∧ (A : Int) + (gotY zs A intra).many ≤ 8 * zs.length := by
  unfold gotY at h ⊢
  rw [if_neg (by omega), Int.toNat_natCast] at h ⊢
  cases intra with
  | true =>
    simp only [if_true] at h ⊢
    by_cases h1 : 8 * zs.length < A + 8
    · rw [if_pos h1] at h
      exact absurd h (by decide)
    · rw [if_neg h1] at h ⊢
      by_cases h2 : dcOk (num zs A 8) = false
      · rw [if_pos h2] at h
        exact absurd h (by decide)
      · rw [if_neg h2] at h ⊢
        obtain ⟨new, e1, e2, _, e4, e5, e6⟩ := pairs_got zs A (num zs A 8) 65 8 false 1 [] (by omega) h
        rw [e1, e6, List.nil_append]
        refine ⟨?_, ?_, e5⟩
        · unfold chkY
          rw [if_neg (by simp at h2 ⊢; exact h2), if_neg (by simp)]
          exact (okPs_spr new 1 zeros64 (by omega)).2 e2
        · unfold putTY
          simp only [if_true]
          rw [ByteArray.size_append, binS_size]
          exact Int.le_trans (by simp) e4
  | false =>
    simp only [Bool.false_eq_true, if_false] at h ⊢
    obtain ⟨new, e1, e2, e3, e4, e5, e6⟩ := pairs_got zs A 0 65 0 true 0 [] (by omega) h
    rw [e1, e6, List.nil_append]
    refine ⟨?_, ?_, e5⟩
    · unfold chkY
      rw [if_neg (by simp), if_neg (by simp; exact e3 rfl)]
      exact (okPs_spr new 0 zeros64 (by omega)).2 e2
    · unfold putTY
      simp only [Bool.false_eq_true, if_false]
      rw [show ((⟨#[]⟩ : ByteArray) ++ textY new (!false)) = textY new true from ByteArray.empty_append]
      exact Int.le_trans (by simp) e4

end Go.Proofs.YtbcfiafgolcbpaaGreatDoor

/- block, plainly: what is handed over, pair by pair, from a cursor; how that comes to what Get answers. -/
namespace Go.Proofs.YtbcfiafgolcbpaaGreatDoor
open Go.RowKit Go.Shelf
set_option linter.unusedVariables false

section
variable (zs : List UInt8) (A : Nat) (fst : Bool) (b0 p0 : Nat)
/-- how many bits stand ahead of a pair -/
def offY : Nat → Nat
  | 0 => b0
  | x + 1 => offY x + (got (fst && x == 0) zs ((A + offY x : Nat) : Int)).many.toNat
/-- what is got there -/
def gY (x : Nat) : Got := got (fst && x == 0) zs ((A + offY zs A fst b0 x : Nat) : Int)
/-- the place where a pair may stand -/
def plY : Nat → Nat
  | 0 => p0
  | x + 1 => plY x + (gY zs A fst b0 x).run.toNat + 1
/-- the pairs so far -/
def psY (x : Nat) : List (Int × Int) := (List.range x).map fun j => ((gY zs A fst b0 j).run, (gY zs A fst b0 j).level)
/-- the end of what is got -/
abbrev remY (dc : Int) (x : Nat) : GotY := pairsY zs A dc (65 - x) (offY zs A fst b0 x) (fst && x == 0) (plY zs A fst b0 p0 x) (psY zs A fst b0 x)
end
variable {zs : List UInt8} {A : Nat} {fst : Bool} {b0 p0 : Nat}
theorem offY_succ (x : Nat) : offY zs A fst b0 (x + 1) = offY zs A fst b0 x + (gY zs A fst b0 x).many.toNat := rfl
theorem plY_succ (x : Nat) : plY zs A fst b0 p0 (x + 1) = plY zs A fst b0 p0 x + (gY zs A fst b0 x).run.toNat + 1 := rfl
theorem psY_succ (x : Nat) : psY zs A fst b0 (x + 1) = psY zs A fst b0 x ++ [((gY zs A fst b0 x).run, (gY zs A fst b0 x).level)] := by simp [psY, List.range_succ]
theorem psY_length (x : Nat) : (psY zs A fst b0 x).length = x := by simp [psY]
theorem plY_ge (x : Nat) : x ≤ plY zs A fst b0 p0 x := by
  induction x with
  | zero => omega
  | succ x ih => rw [plY_succ]; omega
theorem remY_open (dc : Int) {x : Nat} (hx : x < 65) : remY zs A fst b0 p0 dc x = pairsY zs A dc (64 - x + 1) (offY zs A fst b0 x) (fst && x == 0) (plY zs A fst b0 p0 x) (psY zs A fst b0 x) := by
  show pairsY zs A dc (65 - x) _ _ _ _ = _
  rw [show 65 - x = 64 - x + 1 by omega]
theorem remY_err (dc : Int) {x : Nat} (hx : x < 65) (h : (gY zs A fst b0 x).err ≠ 0) : remY zs A fst b0 p0 dc x = badY (gY zs A fst b0 x).err := by
  rw [remY_open dc hx]
  unfold pairsY
  exact if_pos h
theorem remY_over (dc : Int) {x : Nat} (hx : x < 65) (h : (gY zs A fst b0 x).err = 0) (ho : (gY zs A fst b0 x).over = true) : remY zs A fst b0 p0 dc x = ⟨dc, psY zs A fst b0 x, (offY zs A fst b0 x : Int) + (gY zs A fst b0 x).many, 0⟩ := by
  rw [remY_open dc hx]
  unfold pairsY
  exact (if_neg (fun e => e h)).trans (if_pos ho)
theorem remY_run (dc : Int) {x : Nat} (hx : x < 65) (h : (gY zs A fst b0 x).err = 0) (ho : (gY zs A fst b0 x).over = false) (hr : 63 < (plY zs A fst b0 p0 x : Int) + (gY zs A fst b0 x).run) : remY zs A fst b0 p0 dc x = badY 11 := by
  rw [remY_open dc hx]
  unfold pairsY
  exact (if_neg (fun e => e h)).trans ((if_neg (fun e => by rw [show (got (fst && x == 0) zs ((A + offY zs A fst b0 x : Nat) : Int)).over = false from ho] at e; cases e)).trans (if_pos hr))
theorem remY_next (dc : Int) {x : Nat} (hx : x < 65) (h : (gY zs A fst b0 x).err = 0) (ho : (gY zs A fst b0 x).over = false) (hr : ¬ 63 < (plY zs A fst b0 p0 x : Int) + (gY zs A fst b0 x).run) : remY zs A fst b0 p0 dc x = remY zs A fst b0 p0 dc (x + 1) := by
  have e : remY zs A fst b0 p0 dc (x + 1) = pairsY zs A dc (64 - x) (offY zs A fst b0 (x + 1)) false (plY zs A fst b0 p0 (x + 1)) (psY zs A fst b0 (x + 1)) := by
    show pairsY zs A dc (65 - (x + 1)) _ (fst && x + 1 == 0) _ _ = _
    rw [show 65 - (x + 1) = 64 - x by omega, show (fst && x + 1 == 0) = false by simp]
  generalize remY zs A fst b0 p0 dc (x + 1) = R at *
  subst e
  rw [offY_succ, plY_succ, psY_succ, remY_open dc hx]
  conv => lhs; unfold pairsY
  exact (if_neg (fun e => e h)).trans ((if_neg (fun e => by rw [show (got (fst && x == 0) zs ((A + offY zs A fst b0 x : Nat) : Int)).over = false from ho] at e; cases e)).trans (if_neg hr))
/-- a pair that was got: one bit or more, and within the bytes -/
theorem gY_many {x : Nat} (h : (gY zs A fst b0 x).err = 0) : 1 ≤ (gY zs A fst b0 x).many ∧ ((A + offY zs A fst b0 x : Nat) : Int) + (gY zs A fst b0 x).many ≤ 8 * zs.length := (isGot h).many
theorem gY_run {x : Nat} (h : (gY zs A fst b0 x).err = 0) (ho : (gY zs A fst b0 x).over = false) : 0 ≤ (gY zs A fst b0 x).run ∧ (gY zs A fst b0 x).run ≤ 63 ∧ okLv (gY zs A fst b0 x).level = true := by
  have := ((isGot h).pair ho).1
  have h2 := isP_okLv this
  unfold isP at this
  rw [decide_eq_true_iff] at this
  exact ⟨this.1, this.2.1, h2.1⟩
theorem got_bad (first : Bool) (x : Int) (h : (got first zs x).err ≠ 0) : (got first zs x).over = false ∧ (got first zs x).many = 0 := by
  unfold got at h ⊢
  split at h
  · rename_i hx; rw [if_pos hx]; exact ⟨rfl, rfl⟩
  rename_i hx
  rw [if_neg hx]
  unfold gotS at h ⊢
  split
  · exact ⟨rfl, rfl⟩
  · rename_i k hk
    rw [hk] at h
    simp only at h
    by_cases h1 : k < 63
    · rw [if_pos h1] at h ⊢
      unfold tabG at h ⊢
      split
      · exact ⟨rfl, rfl⟩
      · rename_i h2; rw [if_neg h2] at h; exact absurd rfl h
    · rw [if_neg h1] at h ⊢
      split
      · rename_i h2; rw [if_pos h2] at h; exact absurd rfl h
      · rename_i h2
        rw [if_neg h2] at h
        unfold escG at h ⊢
        split
        · exact ⟨rfl, rfl⟩
        · rename_i h3
          rw [if_neg h3] at h
          split
          · exact ⟨rfl, rfl⟩
          · rename_i h4; rw [if_neg h4] at h; exact absurd rfl h
theorem gY_bad {x : Nat} (h : (gY zs A fst b0 x).err ≠ 0) : (gY zs A fst b0 x).over = false ∧ (gY zs A fst b0 x).many = 0 := got_bad _ _ h

/-- an intra block's first code, or why there is none -/
def codeY (zs : List UInt8) (A : Nat) : Int × Int := if 8 * zs.length < A + 8 then (0, 5) else if dcOk (num zs A 8) = false then (0, 10) else (num zs A 8, 0)
theorem gotY_nat (zs : List UInt8) (A : Nat) (intra : Bool) : gotY zs (A : Int) intra = if intra then (if (codeY zs A).2 ≠ 0 then badY (codeY zs A).2 else remY zs A false 8 1 (codeY zs A).1 0) else remY zs A true 0 0 0 0 := by
  unfold gotY
  rw [if_neg (by omega), Int.toNat_natCast]
  cases intra with
  | false => rfl
  | true =>
    simp only [if_true]
    unfold codeY
    by_cases h1 : 8 * zs.length < A + 8
    · rw [if_pos h1, if_pos h1]
      rfl
    · rw [if_neg h1, if_neg h1]
      by_cases h2 : dcOk (num zs A 8 : Nat) = false
      · rw [if_pos h2, if_pos h2]
        rfl
      · rw [if_neg h2, if_neg h2]
        rfl

end Go.Proofs.YtbcfiafgolcbpaaGreatDoor
