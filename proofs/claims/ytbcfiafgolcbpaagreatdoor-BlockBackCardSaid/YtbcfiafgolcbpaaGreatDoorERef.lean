/- Contracts of the reference's coeff (praxinoscoperef08): rows, Coded, read, Get, Pair, code, Short, bits, Escape, Put. Contracts of the reference's coeff (praxinoscoperef08): Coded, code, Pair, Short, Escape, Put, read, Get. -/
import Derived.Test.YtbcfiafgolcbpaaGreatDoorFmt
import Derived.Test.YtbcfiafgolcbpaaGreatDoorPen
/- Contracts of the reference's coeff (praxinoscoperef08): rows, Coded, read, Get, Pair, code, Short, bits, Escape, Put. -/
/- The table, and what is answered. -/
namespace Go.Proofs.YtbcfiafgolcbpaaGreatDoor
open Go.RowKit Go.Shelf
set_option linter.unusedVariables false

/-- the codes of the table, without a sign -/
def codes8 : List ByteArray := [[1, 1], [0, 1, 0, 0], [0, 0, 1, 0, 1], [0, 0, 0, 0, 1, 1, 0], [0, 0, 1, 0, 0, 1, 1, 0], [0, 0, 1, 0, 0, 0, 0, 1], [0, 0, 0, 0, 0, 0, 1, 0, 1, 0], [0, 0, 0, 0, 0, 0, 0, 1, 1, 1, 0, 1], [0, 0, 0, 0, 0, 0, 0, 1, 1, 0, 0, 0], [0, 0, 0, 0, 0, 0, 0, 1, 0, 0, 1, 1], [0, 0, 0, 0, 0, 0, 0, 1, 0, 0, 0, 0], [0, 0, 0, 0, 0, 0, 0, 0, 1, 1, 0, 1, 0], [0, 0, 0, 0, 0, 0, 0, 0, 1, 1, 0, 0, 1], [0, 0, 0, 0, 0, 0, 0, 0, 1, 1, 0, 0, 0], [0, 0, 0, 0, 0, 0, 0, 0, 1, 0, 1, 1, 1], [0, 1, 1], [0, 0, 0, 1, 1, 0], [0, 0, 1, 0, 0, 1, 0, 1], [0, 0, 0, 0, 0, 0, 1, 1, 0, 0], [0, 0, 0, 0, 0, 0, 0, 1, 1, 0, 1, 1], [0, 0, 0, 0, 0, 0, 0, 0, 1, 0, 1, 1, 0], [0, 0, 0, 0, 0, 0, 0, 0, 1, 0, 1, 0, 1], [0, 1, 0, 1], [0, 0, 0, 0, 1, 0, 0], [0, 0, 0, 0, 0, 0, 1, 0, 1, 1], [0, 0, 0, 0, 0, 0, 0, 1, 0, 1, 0, 0], [0, 0, 0, 0, 0, 0, 0, 0, 1, 0, 1, 0, 0], [0, 0, 1, 1, 1], [0, 0, 1, 0, 0, 1, 0, 0], [0, 0, 0, 0, 0, 0, 0, 1, 1, 1, 0, 0], [0, 0, 0, 0, 0, 0, 0, 0, 1, 0, 0, 1, 1], [0, 0, 1, 1, 0], [0, 0, 0, 0, 0, 0, 1, 1, 1, 1], [0, 0, 0, 0, 0, 0, 0, 1, 0, 0, 1, 0], [0, 0, 0, 1, 1, 1], [0, 0, 0, 0, 0, 0, 1, 0, 0, 1], [0, 0, 0, 0, 0, 0, 0, 0, 1, 0, 0, 1, 0], [0, 0, 0, 1, 0, 1], [0, 0, 0, 0, 0, 0, 0, 1, 1, 1, 1, 0], [0, 0, 0, 1, 0, 0], [0, 0, 0, 0, 0, 0, 0, 1, 0, 1, 0, 1], [0, 0, 0, 0, 1, 1, 1], [0, 0, 0, 0, 0, 0, 0, 1, 0, 0, 0, 1], [0, 0, 0, 0, 1, 0, 1], [0, 0, 0, 0, 0, 0, 0, 0, 1, 0, 0, 0, 1], [0, 0, 1, 0, 0, 1, 1, 1], [0, 0, 0, 0, 0, 0, 0, 0, 1, 0, 0, 0, 0], [0, 0, 1, 0, 0, 0, 1, 1], [0, 0, 1, 0, 0, 0, 1, 0], [0, 0, 1, 0, 0, 0, 0, 0], [0, 0, 0, 0, 0, 0, 1, 1, 1, 0], [0, 0, 0, 0, 0, 0, 1, 1, 0, 1], [0, 0, 0, 0, 0, 0, 1, 0, 0, 0], [0, 0, 0, 0, 0, 0, 0, 1, 1, 1, 1, 1], [0, 0, 0, 0, 0, 0, 0, 1, 1, 0, 1, 0], [0, 0, 0, 0, 0, 0, 0, 1, 1, 0, 0, 1], [0, 0, 0, 0, 0, 0, 0, 1, 0, 1, 1, 1], [0, 0, 0, 0, 0, 0, 0, 1, 0, 1, 1, 0], [0, 0, 0, 0, 0, 0, 0, 0, 1, 1, 1, 1, 1], [0, 0, 0, 0, 0, 0, 0, 0, 1, 1, 1, 1, 0], [0, 0, 0, 0, 0, 0, 0, 0, 1, 1, 1, 0, 1], [0, 0, 0, 0, 0, 0, 0, 0, 1, 1, 1, 0, 0], [0, 0, 0, 0, 0, 0, 0, 0, 1, 1, 0, 1, 1]].map bitsT
/-- their pairs -/
def pairs8 : List (Nat × Nat) := [(0, 1), (0, 2), (0, 3), (0, 4), (0, 5), (0, 6), (0, 7), (0, 8), (0, 9), (0, 10), (0, 11), (0, 12), (0, 13), (0, 14), (0, 15), (1, 1), (1, 2), (1, 3), (1, 4), (1, 5), (1, 6), (1, 7), (2, 1), (2, 2), (2, 3), (2, 4), (2, 5), (3, 1), (3, 2), (3, 3), (3, 4), (4, 1), (4, 2), (4, 3), (5, 1), (5, 2), (5, 3), (6, 1), (6, 2), (7, 1), (7, 2), (8, 1), (8, 2), (9, 1), (9, 2), (10, 1), (10, 2), (11, 1), (12, 1), (13, 1), (14, 1), (15, 1), (16, 1), (17, 1), (18, 1), (19, 1), (20, 1), (21, 1), (22, 1), (23, 1), (24, 1), (25, 1), (26, 1)]
/-- of each run its codes, as a text -/
def rows8 : List ByteArray := [⟨#[49, 49, 32, 48, 49, 48, 48, 32, 48, 48, 49, 48, 49, 32, 48, 48, 48, 48, 49, 49, 48, 32, 48, 48, 49, 48, 48, 49, 49, 48, 32, 48, 48, 49, 48, 48, 48, 48, 49, 32, 48, 48, 48, 48, 48, 48, 49, 48, 49, 48, 32, 48, 48, 48, 48, 48, 48, 48, 49, 49, 49, 48, 49, 32, 48, 48, 48, 48, 48, 48, 48, 49, 49, 48, 48, 48, 32, 48, 48, 48, 48, 48, 48, 48, 49, 48, 48, 49, 49, 32, 48, 48, 48, 48, 48, 48, 48, 49, 48, 48, 48, 48, 32, 48, 48, 48, 48, 48, 48, 48, 48, 49, 49, 48, 49, 48, 32, 48, 48, 48, 48, 48, 48, 48, 48, 49, 49, 48, 48, 49, 32, 48, 48, 48, 48, 48, 48, 48, 48, 49, 49, 48, 48, 48, 32, 48, 48, 48, 48, 48, 48, 48, 48, 49, 48, 49, 49, 49]⟩, ⟨#[48, 49, 49, 32, 48, 48, 48, 49, 49, 48, 32, 48, 48, 49, 48, 48, 49, 48, 49, 32, 48, 48, 48, 48, 48, 48, 49, 49, 48, 48, 32, 48, 48, 48, 48, 48, 48, 48, 49, 49, 48, 49, 49, 32, 48, 48, 48, 48, 48, 48, 48, 48, 49, 48, 49, 49, 48, 32, 48, 48, 48, 48, 48, 48, 48, 48, 49, 48, 49, 48, 49]⟩, ⟨#[48, 49, 48, 49, 32, 48, 48, 48, 48, 49, 48, 48, 32, 48, 48, 48, 48, 48, 48, 49, 48, 49, 49, 32, 48, 48, 48, 48, 48, 48, 48, 49, 48, 49, 48, 48, 32, 48, 48, 48, 48, 48, 48, 48, 48, 49, 48, 49, 48, 48]⟩, ⟨#[48, 48, 49, 49, 49, 32, 48, 48, 49, 48, 48, 49, 48, 48, 32, 48, 48, 48, 48, 48, 48, 48, 49, 49, 49, 48, 48, 32, 48, 48, 48, 48, 48, 48, 48, 48, 49, 48, 48, 49, 49]⟩, ⟨#[48, 48, 49, 49, 48, 32, 48, 48, 48, 48, 48, 48, 49, 49, 49, 49, 32, 48, 48, 48, 48, 48, 48, 48, 49, 48, 48, 49, 48]⟩, ⟨#[48, 48, 48, 49, 49, 49, 32, 48, 48, 48, 48, 48, 48, 49, 48, 48, 49, 32, 48, 48, 48, 48, 48, 48, 48, 48, 49, 48, 48, 49, 48]⟩, ⟨#[48, 48, 48, 49, 48, 49, 32, 48, 48, 48, 48, 48, 48, 48, 49, 49, 49, 49, 48]⟩, ⟨#[48, 48, 48, 49, 48, 48, 32, 48, 48, 48, 48, 48, 48, 48, 49, 48, 49, 48, 49]⟩, ⟨#[48, 48, 48, 48, 49, 49, 49, 32, 48, 48, 48, 48, 48, 48, 48, 49, 48, 48, 48, 49]⟩, ⟨#[48, 48, 48, 48, 49, 48, 49, 32, 48, 48, 48, 48, 48, 48, 48, 48, 49, 48, 48, 48, 49]⟩, ⟨#[48, 48, 49, 48, 48, 49, 49, 49, 32, 48, 48, 48, 48, 48, 48, 48, 48, 49, 48, 48, 48, 48]⟩, ⟨#[48, 48, 49, 48, 48, 48, 49, 49]⟩, ⟨#[48, 48, 49, 48, 48, 48, 49, 48]⟩, ⟨#[48, 48, 49, 48, 48, 48, 48, 48]⟩, ⟨#[48, 48, 48, 48, 48, 48, 49, 49, 49, 48]⟩, ⟨#[48, 48, 48, 48, 48, 48, 49, 49, 48, 49]⟩, ⟨#[48, 48, 48, 48, 48, 48, 49, 48, 48, 48]⟩, ⟨#[48, 48, 48, 48, 48, 48, 48, 49, 49, 49, 49, 49]⟩, ⟨#[48, 48, 48, 48, 48, 48, 48, 49, 49, 48, 49, 48]⟩, ⟨#[48, 48, 48, 48, 48, 48, 48, 49, 49, 48, 48, 49]⟩, ⟨#[48, 48, 48, 48, 48, 48, 48, 49, 48, 49, 49, 49]⟩, ⟨#[48, 48, 48, 48, 48, 48, 48, 49, 48, 49, 49, 48]⟩, ⟨#[48, 48, 48, 48, 48, 48, 48, 48, 49, 49, 49, 49, 49]⟩, ⟨#[48, 48, 48, 48, 48, 48, 48, 48, 49, 49, 49, 49, 48]⟩, ⟨#[48, 48, 48, 48, 48, 48, 48, 48, 49, 49, 49, 48, 49]⟩, ⟨#[48, 48, 48, 48, 48, 48, 48, 48, 49, 49, 49, 48, 48]⟩, ⟨#[48, 48, 48, 48, 48, 48, 48, 48, 49, 49, 48, 49, 49]⟩]
theorem codes8_length : codes8.length = 63 := rfl
theorem pairs8_length : pairs8.length = 63 := rfl
theorem rows8_length : rows8.length = 27 := rfl
def codeAt (k : Nat) : ByteArray := codes8[k]?.getD ⟨#[]⟩
def pairAt (k : Nat) : Nat × Nat := pairs8[k]?.getD (0, 0)
def rowAt8 (r : Nat) : ByteArray := rows8[r]?.getD ⟨#[]⟩
/-- a code of the table, at first or later -/
def codeF (first : Bool) (k : Nat) : ByteArray := if first && k == 0 then bitsT [1] else codeAt k
def esc8 : ByteArray := bitsT [0, 0, 0, 0, 0, 1]
def end8 : ByteArray := bitsT [1, 0]
/-- all codes, at first or later, and their numbers -/
def codesF (first : Bool) : List ByteArray := (List.range 63).map (codeF first) ++ (if first then [esc8] else [end8, esc8])
def numsF (first : Bool) : List Int := (List.range 63).map (fun (k : Nat) => (k : Int)) ++ (if first then [1000] else [1001, 1000])
theorem makeF : ∀ first, makeE (codesF first) (numsF first) = 0 := by decide +kernel
theorem clashF : ∀ first, clash (codesF first) = false := by decide +kernel
theorem codesF_bits : ∀ first, ∀ c ∈ codesF first, allB c = true ∧ 1 ≤ c.size ∧ c.size ≤ 13 := by decide +kernel

/-- what Get answers -/
structure Got where
  run : Int
  level : Int
  over : Bool
  many : Int
  err : Int
abbrev gotV (g : Got) : Value := .tuple #[.agg #[.int .i64 g.run, .int .i64 g.level], .bool g.over, .int .i64 g.many, .int .i64 g.err]
abbrev badG (e : Int) : Got := ⟨0, 0, false, 0, e⟩
/-- a level of eight bits -/
def lvl (l : Nat) : Int := if 128 < l then (l : Int) - 256 else l
def escG (zs : List UInt8) (a : Nat) : Got :=
  if 8 * zs.length < a + 20 then badG 5 else if num zs (a + 12) 8 = 0 ∨ num zs (a + 12) 8 = 128 then badG 10
  else ⟨num zs (a + 6) 6, lvl (num zs (a + 12) 8), false, 20, 0⟩
def tabG (first : Bool) (zs : List UInt8) (a k : Nat) : Got :=
  if 8 * zs.length ≤ a + (codeF first k).size then badG 5
  else ⟨(pairAt k).1, if bt zs (a + (codeF first k).size) = 1 then -((pairAt k).2 : Int) else (pairAt k).2, false, (codeF first k).size + 1, 0⟩
def gotS (first : Bool) (zs : List UInt8) (a : Nat) (S : ByteArray) : Got :=
  match getI (codesF first) S with
  | none => badG (if getMore (codesF first) S then 5 else 7)
  | some k => if k < 63 then tabG first zs a k else if first = false ∧ k = 63 then ⟨0, 0, true, 2, 0⟩ else escG zs a
def got (first : Bool) (zs : List UInt8) (x : Int) : Got := if x < 0 then badG 3 else gotS first zs x.toNat (seenB zs x.toNat (seenN zs x.toNat))

/-- is it a pair? -/
def isP (r l : Int) : Bool := decide (0 ≤ r ∧ r ≤ 63 ∧ -127 ≤ l ∧ l ≤ 127 ∧ l ≠ 0)
/-- where it stands in the table, whatever its sign -/
def tabI (r l : Int) : Option Nat := pairs8.findIdx? fun p => decide ((p.1 : Int) = r ∧ ((p.2 : Int) = l ∨ (p.2 : Int) = -l))
def codeOf (r l : Int) : ByteArray := match tabI r l with | some k => codeAt k | none => ⟨#[]⟩
def escS (r l : Int) : ByteArray := esc8 ++ binS r.toNat 6 ++ binS ((l + 256) % 256).toNat 8
def signS (l : Int) : ByteArray := if l < 0 then bitsT [1] else bitsT [0]
def putP (first : Bool) (r l : Int) : ByteArray := match tabI r l with | some k => codeF first k ++ signS l | none => escS r l
def putS8 (first : Bool) (r l : Int) : ByteArray := if isP r l then putP first r l else ⟨#[]⟩
def putE8 (r l : Int) : Int := if isP r l then 0 else 3
def escS8 (r l : Int) : ByteArray := if isP r l then escS r l else ⟨#[]⟩
def shortB (r l : Int) : Bool := (tabI r l).isSome

end Go.Proofs.YtbcfiafgolcbpaaGreatDoor

/- The contracts: bits that are read, spelled; the table. -/
namespace Go.Proofs.YtbcfiafgolcbpaaGreatDoor
open Go.RowKit Go.Shelf
set_option linter.unusedVariables false

/-- what the reference's Read answers at a place of the bits, or behind them -/
def r1N (zs : List UInt8) (A n : Nat) : Int := if 8 * zs.length < A + n then 0 else num zs A n
def r1E (zs : List UInt8) (A n : Nat) : Int := if 8 * zs.length < A + n then 5 else 0
set_option maxRecDepth 100000 in
set_option maxHeartbeats 1000000 in
theorem r1read_any {n₀ : Nat} {w : World} {sv : Value} {zs : List UInt8} (hB : Byt n₀ w sv zs) (i : Int) (A : Nat) (hi : i = A) (n : Nat) (hn : n ≤ 32) (hA : A ≤ 8 * zs.length) (hl : zs.length ≤ 1099511627776) :
    Calls Tryz.prog 37 #[sv, .int .i64 i, .int .i64 (n : Nat)] w fun e w' => e = .returned (.tuple #[.int .i64 (r1N zs A n), .int .i64 (r1E zs A n)]) ∧ w = w' := by
  subst hi
  have HC := Lib.hid (rcount_any hB)
  by_cases h : 8 * zs.length < A + n
  · rw [show r1N zs A n = 0 from if_pos h, show r1E zs A n = 5 from if_pos h]
    obtain ⟨a, cap, rfl, hl', _⟩ := hB
    go_enter Tryz.func37, Tryz.ntmps37
    go_wp2_with (go_at_call 56; refine HC.out.mono ?_; rintro e w' ⟨rfl, rfl⟩)
    go_ret2
    exact ⟨rfl, rfl⟩
  · rw [show r1N zs A n = num zs A n from if_neg h, show r1E zs A n = 0 from if_neg h]
    have HB := Lib.hid (fun (i : Int) (k : Nat) (hi : i = k) (h : k < 8 * zs.length) => rbit_any hB i k hi h)
    have HL := Lib.hid (fun k => num_lt32 zs A k)
    obtain ⟨a, cap, rfl, hl', _⟩ := hB
    go_enter Tryz.func37, Tryz.ntmps37
    go_wp2_with (go_at_call 56; refine HC.out.mono ?_; rintro e w' ⟨rfl, rfl⟩)
    go_loop [8, 9] (fun x i => ∃ k : Nat, k ≤ n ∧ x = .int .i64 (num zs A k : Nat) ∧ i = .int .i64 k) (fun _ i => n - (intOf i).toNat)
    case atStart => exact ⟨0, Nat.zero_le _, rfl, rfl⟩
    case round =>
      obtain ⟨k, hk, rfl, rfl⟩ := hrel
      by_cases hk2 : k < n
      · have h1 := HL.out k (by omega)
        have h2 := bt_le zs (A + k)
        have hs : num zs A (k + 1) = 2 * num zs A k + bt zs (A + k) := rfl
        have HS := Lib.hid hs
        have HBk := Lib.hid (HB.out ((A : Int) + (k : Int)) (A + k) (by omega) (by omega))
        clear hs
        generalize num zs A k = x at *
        generalize bt zs (A + k) = b at *
        go_wp2_with fail
        refine HBk.out.mono ?_
        rintro e w' ⟨rfl, rfl⟩
        go_wp2
        go_round
        case rel => exact ⟨k + 1, by omega, by rw [HS.out]; go_num, by go_num⟩
        case measure => simp [intOf]; omega
      · have hkn : k = n := by omega
        subst hkn
        go_wp2
        go_ret2
        exact ⟨rfl, rfl⟩

theorem binS_cons (n k : Nat) : binS n (k + 1) = (⟨#[UInt8.ofNat (48 + n / 2 ^ k % 2)]⟩ : ByteArray) ++ binS n k := by
  apply ByteArray.ext
  apply Array.toList_inj.1
  have h : (binS n (k + 1)).data.toList = UInt8.ofNat (48 + n / 2 ^ k % 2) :: (binS n k).data.toList := by
    simp only [binS, binL, List.range_succ_eq_map, List.map_cons, List.map_map]
    congr 1
    apply List.map_congr_left
    intro i hi
    simp only [Function.comp, cbit]
    rw [show k + 1 - 1 - (i + 1) = k - 1 - i by omega]
  rw [h]
  simp
set_option maxRecDepth 100000 in
set_option maxHeartbeats 1000000 in
theorem r8bits_any (n m : Nat) (hn : n ≤ 1000000) (hm : m ≤ 30) (w : World) :
    Calls Tryz.prog 93 #[.int .i64 (n : Nat), .int .i64 (m : Nat)] w fun e w' => e = .returned (.string (binS n m)) ∧ Below w.heap.size w w' := by
  go_enter Tryz.func93, Tryz.ntmps93
  go_wp2
  go_loopw [0, 5, 6] (fun x s i wr => ∃ k : Nat, k ≤ m ∧ x = .int .i64 (n / 2 ^ k : Nat) ∧ s = .string (binS n k) ∧ i = .int .i64 k ∧ Below w.heap.size w wr) (fun _ _ i _ => m - (intOf i).toNat)
  case atStart => exact ⟨0, Nat.zero_le _, by simp, rfl, rfl, Below.refl _ _⟩
  case round =>
    obtain ⟨k, hk, rfl, rfl, rfl, hB⟩ := hrel
    have HB := Lib.hid hB
    have hbs := hB.size
    clear hB
    by_cases hk2 : k < m
    · have HS := Lib.hid (binS_cons n k)
      have HD : Hid (n / 2 ^ (k + 1) = n / 2 ^ k / 2) := by
        show _ = _
        rw [Nat.pow_succ, Nat.div_div_eq_div_mul]
      have hq : n / 2 ^ k ≤ 1000000 := Nat.le_trans (Nat.div_le_self _ _) hn
      have hsz := binS_size n k
      generalize binS n k = s at *
      generalize n / 2 ^ k = q at *
      obtain hv | hv : q % 2 = 0 ∨ q % 2 = 1 := by omega
      · rw [hv] at HS
        have hv2 : (q : Int).tmod 2 = 0 := by rw [Int.tmod_eq_emod_of_nonneg (by omega)]; omega
        have c1 : (convert 22 9 (.slice (some ⟨wr.heap.size, 0, none⟩) 1 1)).run Tryz.prog (wr.alloc (.cells #[.int .u8 48] 5 (0, 0))) = .ok (.string ⟨#[48]⟩) (wr.alloc (.cells #[.int .u8 48] 5 (0, 0))) := conv_one wr 48
        clear hv
        go_wp2
        go_roundw
        case rel => exact ⟨k + 1, by omega, by rw [HD.out]; go_num, by rw [HS.out]; rfl, by go_num, HB.out.alloc hbs _⟩
        case measure => simp [intOf]; omega
      · rw [hv] at HS
        have hv2 : (q : Int).tmod 2 = 1 := by rw [Int.tmod_eq_emod_of_nonneg (by omega)]; omega
        have c1 : (convert 22 9 (.slice (some ⟨wr.heap.size, 0, none⟩) 1 1)).run Tryz.prog (wr.alloc (.cells #[.int .u8 49] 5 (0, 0))) = .ok (.string ⟨#[49]⟩) (wr.alloc (.cells #[.int .u8 49] 5 (0, 0))) := conv_one wr 49
        clear hv
        go_wp2
        go_roundw
        case rel => exact ⟨k + 1, by omega, by rw [HD.out]; go_num, by rw [HS.out]; rfl, by go_num, HB.out.alloc hbs _⟩
        case measure => simp [intOf]; omega
    · have hkm : k = m := by omega
      subst hkm
      go_wp2
      go_ret
      exact ⟨rfl, HB.out⟩

set_option maxRecDepth 100000 in
set_option maxHeartbeats 1000000 in
theorem r8rows_any (w : World) :
    Calls Tryz.prog 87 #[] w fun e w' => e = .returned (.slice (some ⟨w.heap.size, 0, none⟩) 27 27) ∧ w' = w.alloc (.cells (strV rows8).toArray 9 (0, 0)) := by
  go_enter Tryz.func87, Tryz.ntmps87
  go_wp2_with (with_reducible refine stop_slice 91 27 _ rfl ?_; refine Hid.out ?_)
  refine Lib.hid ?_
  refine Great.wpList_buildSliceTo rfl 91 9 27 _ rfl _ rfl _ rfl Tryz.underlying91x (strV rows8).toArray (by kernel_rfl) ?_
  go_wp2
  go_ret
  exact ⟨rfl, rfl⟩

end Go.Proofs.YtbcfiafgolcbpaaGreatDoor

/- Contracts of the reference's coeff (praxinoscoperef08): Coded, code, Pair, Short, Escape, Put, read, Get. -/
namespace Go.Proofs.YtbcfiafgolcbpaaGreatDoor
open Go.RowKit Go.Shelf
set_option linter.unusedVariables false

theorem Tryz.info66e : (Tryz.prog.info? 66).map (fun i => (i.zero, i.size, i.bytes)) = some (some (.agg #[.int .i64 0, .int .i64 0]), 2, 16) := by kernel_rfl
theorem Tryz.underlying25e : Tryz.prog.underlying 25 = some (.slice 66) := by kernel_rfl

/-- the cells of pairs -/
def cellsP (l : List (Nat × Nat)) : List Value := l.flatMap fun c => [.int .i64 (c.1 : Nat), .int .i64 (c.2 : Nat)]
theorem cellsP_append (a b : List (Nat × Nat)) : cellsP (a ++ b) = cellsP a ++ cellsP b := by simp [cellsP]
theorem cellsP_length (l : List (Nat × Nat)) : (cellsP l).length = l.length * 2 := by
  induction l with
  | nil => rfl
  | cons c l ih => simp [cellsP] at ih ⊢; omega
theorem cellsP_at (l : List (Nat × Nat)) {k : Nat} (h : k < l.length) : (cellsP l)[2 * k]? = some (.int .i64 ((l[k]?.getD (0, 0)).1 : Nat)) ∧ (cellsP l)[2 * k + 1]? = some (.int .i64 ((l[k]?.getD (0, 0)).2 : Nat)) := by
  induction l generalizing k with
  | nil => simp at h
  | cons c l ih =>
    have e : cellsP (c :: l) = .int .i64 (c.1 : Nat) :: .int .i64 (c.2 : Nat) :: cellsP l := by simp [cellsP]
    rw [e]
    match k with
    | 0 => simp
    | k + 1 =>
      have := ih (k := k) (by simpa using h)
      rw [show 2 * (k + 1) = 2 * k + 1 + 1 by omega]
      simpa using this
/-- the first pairs' cells, the first codes -/
def pairsTo (c : Nat) : List Value := cellsP (pairs8.take c)
def codesTo (c : Nat) : List Value := strV (codes8.take c)
theorem take_pairs {c : Nat} (h : c < 63) (p : Nat × Nat) (hp : pairAt c = p) : pairsTo c ++ [.int .i64 (p.1 : Nat), .int .i64 (p.2 : Nat)] = pairsTo (c + 1) := by
  unfold pairsTo
  have hl : c < pairs8.length := h
  have : pairs8.take (c + 1) = pairs8.take c ++ [p] := by
    rw [List.take_add_one, List.getElem?_eq_getElem hl]
    rw [← hp]
    unfold pairAt
    rw [List.getElem?_eq_getElem hl]
    rfl
  rw [this, cellsP_append]
  rfl
theorem take_codes {c : Nat} (h : c < 63) (s : ByteArray) (hs : s = codeAt c) : codesTo c ++ [.string s] = codesTo (c + 1) := by
  unfold codesTo
  have hl : c < codes8.length := h
  have : codes8.take (c + 1) = codes8.take c ++ [s] := by
    rw [List.take_add_one, List.getElem?_eq_getElem hl, hs]
    unfold codeAt
    rw [List.getElem?_eq_getElem hl]
    rfl
  rw [this]
  simp

/-! ### Coded -/
def itemOk (s : ByteArray) (run c lv fr i : Nat) : Bool := decide (c < 63 ∧ fr ≤ i ∧ lv ≤ 15 ∧ s.extract fr i = codeAt c ∧ pairAt c = (run, lv))
/-- a row's letters gone through -/
def scanR (s : ByteArray) (run N : Nat) : List UInt8 → Nat → Nat → Nat → Nat → Bool
  | [], i, c, lv, fr => itemOk s run c lv fr i && c + 1 == N
  | b :: l, i, c, lv, fr => if b = 32 then itemOk s run c lv fr i && scanR s run N l (i + 1) (c + 1) (lv + 1) (i + 1) else scanR s run N l (i + 1) c lv fr
/-- how many codes stand ahead of a row -/
def ends8 (r : Nat) : Nat := [0, 15, 22, 27, 31, 34, 37, 39, 41, 43, 45, 47, 48, 49, 50, 51, 52, 53, 54, 55, 56, 57, 58, 59, 60, 61, 62, 63][r]?.getD 63
theorem scan8 : ∀ r : Fin 27, scanR (rowAt8 r) r (ends8 (r + 1)) (rowAt8 r).data.toList 0 (ends8 r) 1 0 = true := by decide +kernel
theorem rows8_small : ∀ r : Fin 27, (rowAt8 r).size ≤ 1000 := by decide +kernel

theorem ownsRow_grown2 {w w' : World} {base n sz : Nat} {e : TypeId} {v : Value} {xs : List Value} {row : Option Nat} (h : w.ownsRow base e sz v n xs) (hg : w.grownBy w' row) (hne : ∀ j, v.ownBlock = some j → row ≠ some j) : w'.ownsRow base e sz v n xs := by
  refine h.kept hg ?_
  cases hv : v.ownBlock with
  | none => exact .inl rfl
  | some j => exact .inr (fun e => hne j hv e.symm)

theorem ownsRow_base2 {w : World} {base base' n sz : Nat} {e : TypeId} {v : Value} {xs : List Value} (h : w.ownsRow base e sz v n xs) (hb : base' ≤ base) : w.ownsRow base' e sz v n xs := by
  refine ⟨h.1, ?_⟩
  rcases h.2 with hn | ⟨g, cap, cur, rfl, hbb, rest⟩
  · exact .inl hn
  · exact .inr ⟨g, cap, cur, rfl, by omega, rest⟩
set_option maxRecDepth 100000 in
set_option maxHeartbeats 4000000 in
theorem r8coded_any (w : World) :
    Calls Tryz.prog 59 #[] w fun e w' => ∃ vp vc, e = .returned (.tuple #[vp, vc]) ∧ w'.ownsRow w.heap.size 66 2 vp 63 (cellsP pairs8) ∧ w'.ownsRow w.heap.size 9 1 vc 63 (strV codes8) ∧ Below w.heap.size w w' := by
  obtain ⟨i1, hi1, hz10, hz11, hz12⟩ := info_parts Tryz.info9
  obtain ⟨i2, hi2, hz20, hz21, hz22⟩ := info_parts Tryz.info66e
  have HR := Lib.hid (r8rows_any w)
  have h1 : Below w.heap.size w (w.alloc (.cells (strV rows8).toArray 9 (0, 0))) := (Below.refl _ w).alloc (Nat.le_refl _) _
  have hsz : (w.alloc (.cells (strV rows8).toArray 9 (0, 0))).heap.size = w.heap.size + 1 := by simp
  have HC : Hid (∀ (k : Nat), k < 27 → (w.alloc (.cells (strV rows8).toArray 9 (0, 0))).cell? ⟨w.heap.size, k, none⟩ = some (.string (rowAt8 k))) := by
    intro k hk
    have hk3 : k < rows8.length := hk
    have h := src_row w (strV rows8) 9 k (.string (rowAt8 k)) (by simp [rowAt8, hk3])
    have hadd : (⟨w.heap.size, 0, none⟩ : Addr).add k = ⟨w.heap.size, 0 + k, none⟩ := by unfold Addr.add; split <;> simp_all
    rwa [hadd, Nat.zero_add] at h
  generalize hw1 : w.alloc (.cells (strV rows8).toArray 9 (0, 0)) = w1 at *
  have HW1 := Lib.hid hw1
  have H1 := Lib.hid h1
  have hb1 : w1.heap.size = w.heap.size + 1 := hsz
  clear hw1 h1 hsz
  go_enter Tryz.func59, Tryz.ntmps59
  go_wp2_with (go_at_call 87; refine HR.out.mono ?_; rintro e w' ⟨rfl, hw'⟩; have hw2 := hw'.symm; subst hw2; refine Hid.out ?_)
  refine Lib.hid ?_
  go_wp2_with fail
  go_loopw [2, 3, 5, 6, 7, 8] (fun vp vc r _ _ _ wr => ∃ k : Nat, k ≤ 27 ∧ r = .int .i64 k ∧ wr.ownsRow (w.heap.size + 1) 66 2 vp (ends8 k) (pairsTo (ends8 k)) ∧ wr.ownsRow (w.heap.size + 1) 9 1 vc (ends8 k) (codesTo (ends8 k)) ∧ (∀ j, vp.ownBlock = some j → vc.ownBlock ≠ some j) ∧ Below w1.heap.size w1 wr)
    (fun _ _ r _ _ _ _ => 27 - (intOf r).toNat)
  case atStart => exact ⟨0, Nat.zero_le _, rfl, World.ownsRow_nil _ _ _ _, World.ownsRow_nil _ _ _ _, (fun j h => by cases h), Below.refl _ _⟩
  case round =>
    obtain ⟨r, hr, rfl, hop, hoc, hne, hB⟩ := hrel
    have HP := Lib.hid hop
    have HCo := Lib.hid hoc
    have HNe := Lib.hid hne
    have HB := Lib.hid hB
    clear hop hoc hne hB
    by_cases hr2 : r < 27
    · have HS0 := Lib.hid (scan8 ⟨r, hr2⟩)
      have hss := rows8_small ⟨r, hr2⟩
      have HCr := Lib.hid (HC.out r hr2)
      simp only at HS0 hss
      generalize rowAt8 r = s at *
      generalize hN : ends8 (r + 1) = N at *
      generalize hM : ends8 r = M at *
      have HN := Lib.hid hN
      clear hN hM
      go_wp2_with fail
      go_loopw [2, 3, 6, 7, 8] (fun vp vc lv fr i wr => ∃ (k c l f : Nat), lv = .int .i64 l ∧ fr = .int .i64 f ∧ i = .int .i64 k ∧ ((k ≤ s.size ∧ scanR s r N (s.data.toList.drop k) k c l f = true) ∨ (k = s.size + 1 ∧ c = N)) ∧ wr.ownsRow (w.heap.size + 1) 66 2 vp c (pairsTo c) ∧ wr.ownsRow (w.heap.size + 1) 9 1 vc c (codesTo c) ∧ (∀ j, vp.ownBlock = some j → vc.ownBlock ≠ some j) ∧ Below w1.heap.size w1 wr)
        (fun _ _ _ _ i _ => s.size + 1 - (intOf i).toNat)
      case atStart => exact ⟨0, M, 1, 0, rfl, rfl, rfl, .inl ⟨Nat.zero_le _, HS0.out⟩, HP.out, HCo.out, HNe.out, HB.out⟩
      case round =>
        obtain ⟨k, c, l, f, rfl, rfl, rfl, hk, hop, hoc, hne, hB⟩ := hrel
        have HP2 := Lib.hid hop
        have HCo2 := Lib.hid hoc
        have HNe2 := Lib.hid hne
        have HB2 := Lib.hid hB
        have hcell := (hB.cell (p := ⟨w.heap.size, r, none⟩) (by simp; omega)).trans HCr.out
        have hbs := hB.size
        clear hop hoc hne hB
        rcases hk with ⟨hk, hsc⟩ | ⟨rfl, rfl⟩
        · by_cases hlt : k < s.size
          · rw [show s.data.toList.drop k = s[k] :: s.data.toList.drop (k + 1) from List.drop_eq_getElem_cons (by simpa using hlt)] at hsc
            unfold scanR at hsc
            by_cases hsp : s[k] = 32
            · rw [if_pos hsp, Bool.and_eq_true] at hsc
              obtain ⟨hok, hsc⟩ := hsc
              have HSc := Lib.hid hsc
              have e1 : ((s[k].toNat : Int) == 32) = true := by rw [hsp]; rfl
              have e2 : ((k : Int) == (s.size : Int)) = false := by rw [beq_eq_false_iff_ne]; omega
              clear hsp hsc
              unfold itemOk at hok
              rw [decide_eq_true_eq] at hok
              obtain ⟨hc63, hfk, hl15, hx, hp⟩ := hok
              have HX := Lib.hid hx
              have HTp := Lib.hid (take_pairs hc63 _ hp)
              have HTc := Lib.hid (take_codes hc63 _ hx)
              have hop0 := fun j e => (HP2.out.lt j e).1
              clear hx hp
              go_wp2_with (first
                | (at_builtin; go_loud (refine wpList_append_where _ rfl _ _ 25 rfl (w.heap.size + 1) 66 i2 (.agg #[.int .i64 0, .int .i64 0]) 2 16 Tryz.underlying25e hi2 hz20 hz21 hz22 rfl (by decide) _ c _ rfl (HP2.out.alloc _) ⟨wr.heap.size, 0, none⟩ 1 1 [.int .i64 (r : Nat), .int .i64 (l : Nat)] rfl rfl (src_two _ _ _ _) two_one (by unfold maxLen; omega) (by omega) (by simp; omega) ?_); intro v2 w2 hown2 hgrow2 hloc2; have HO2 := Lib.hid hown2; have HG2 := Lib.hid hgrow2; have HL2 := Lib.hid hloc2; have HC2 := Lib.hid (ownsRow_grown2 (HCo2.out.alloc _) hgrow2 (fun j h1 h2 => HNe2.out j h2 h1)); have hb2 : Below w1.heap.size w1 w2 := (HB2.out.alloc hbs _).grown hgrow2 (by simp; omega) (fun j e => by have := hop0 j e; omega); have HB3 := Lib.hid hb2; have hbs3 := hb2.size; have hcell2 := (hb2.cell (p := ⟨w.heap.size, r, none⟩) (by simp; omega)).trans HCr.out; clear hown2 hgrow2 hloc2 hb2)
                | (at_builtin; go_loud (refine wpList_append_v rfl _ _ 91 9 i1 (.string ⟨#[]⟩) 16 rfl Tryz.underlying91x hi1 hz10 hz11 hz12 rfl (w.heap.size + 1) _ c _ rfl (HC2.out.alloc _) (some ⟨w2.heap.size, 0, none⟩) 1 1 [.string (s.extract f k)] rfl (src_one _ _ _) (fun e => nomatch e) (by simp [Value.oneCell']) (by omega) (by omega) (by simp; omega) ?_); intro v3 w3 hap; have HA := Lib.hid hap; clear hap))
              obtain ⟨a1, a2, a3⟩ := HA.out
              have hne2 : ∀ j, v2.ownBlock = some j → u3.ownBlock ≠ some j := fun j e e2 => by
                rcases HL2.out j e with h | h
                · exact HNe2.out j h e2
                · have := (HCo2.out.lt j e2).2
                  simp at h
                  omega
              refine ⟨⟨v2, v3, .int .i64 ((l : Int) + 1), .int .i64 ((k : Int) + 1), .int .i64 ((k : Int) + 1), ⟨k + 1, c + 1, l + 1, by go_num, k + 1, by go_num, by go_num, .inl ⟨by omega, HSc.out⟩, ?_, ?_, ?_, ?_⟩, rfl, rfl, rfl, rfl, rfl⟩, ?_⟩
              · rw [← HTp.out]
                exact ownsRow_grown2 (HO2.out.alloc _) a2 (fun j h1 h2 => hne2 j h1 h2)
              · rw [← HTc.out]
                exact a1
              · intro j e e2
                rcases a3 j e2 with h | h
                · exact hne2 j e h
                · have := (HO2.out.lt j e).2
                  simp at h
                  omega
              · have h := (HB3.out.alloc hbs3 _).grown a2 (by simp; omega) (fun j e => by have := (HCo2.out.lt j e).1; omega)
                rwa [hb1] at h
              · first | (simp [intOf]; done) | (simp [intOf]; omega)
            · rw [if_neg hsp] at hsc
              have HSc := Lib.hid hsc
              have e1 : ((s[k].toNat : Int) == 32) = false := by
                rw [beq_eq_false_iff_ne]
                intro e
                apply hsp
                apply UInt8.toNat_inj.1
                rw [show (32 : UInt8).toNat = 32 from rfl]
                omega
              have e2 : ((k : Int) == (s.size : Int)) = false := by rw [beq_eq_false_iff_ne]; omega
              clear hsp hsc
              go_wp2
              go_roundw
              case rel =>
                exact ⟨k + 1, c, l, f, rfl, rfl, by go_num, .inl ⟨by omega, HSc.out⟩, HP2.out, HCo2.out, HNe2.out, HB2.out⟩
              case measure => simp [intOf]; omega
          · obtain rfl : k = s.size := by omega
            rw [show s.data.toList.drop s.size = [] from List.drop_eq_nil_of_le (by simp)] at hsc
            unfold scanR at hsc
            rw [Bool.and_eq_true, beq_iff_eq] at hsc
            obtain ⟨hok, hcN⟩ := hsc
            unfold itemOk at hok
            rw [decide_eq_true_eq] at hok
            obtain ⟨hc63, hfk, hl15, hx, hp⟩ := hok
            have HX := Lib.hid hx
            have HTp := Lib.hid (take_pairs hc63 _ hp)
            have HTc := Lib.hid (take_codes hc63 _ hx)
            have hop0 := fun j e => (HP2.out.lt j e).1
            clear hx hp
            go_wp2_with (first
              | (at_builtin; go_loud (refine wpList_append_where _ rfl _ _ 25 rfl (w.heap.size + 1) 66 i2 (.agg #[.int .i64 0, .int .i64 0]) 2 16 Tryz.underlying25e hi2 hz20 hz21 hz22 rfl (by decide) _ c _ rfl (HP2.out.alloc _) ⟨wr.heap.size, 0, none⟩ 1 1 [.int .i64 (r : Nat), .int .i64 (l : Nat)] rfl rfl (src_two _ _ _ _) two_one (by unfold maxLen; omega) (by omega) (by simp; omega) ?_); intro v2 w2 hown2 hgrow2 hloc2; have HO2 := Lib.hid hown2; have HG2 := Lib.hid hgrow2; have HL2 := Lib.hid hloc2; have HC2 := Lib.hid (ownsRow_grown2 (HCo2.out.alloc _) hgrow2 (fun j h1 h2 => HNe2.out j h2 h1)); have hb2 : Below w1.heap.size w1 w2 := (HB2.out.alloc hbs _).grown hgrow2 (by simp; omega) (fun j e => by have := hop0 j e; omega); have HB3 := Lib.hid hb2; have hbs3 := hb2.size; have hcell2 := (hb2.cell (p := ⟨w.heap.size, r, none⟩) (by simp; omega)).trans HCr.out; clear hown2 hgrow2 hloc2 hb2)
              | (at_builtin; go_loud (refine wpList_append_v rfl _ _ 91 9 i1 (.string ⟨#[]⟩) 16 rfl Tryz.underlying91x hi1 hz10 hz11 hz12 rfl (w.heap.size + 1) _ c _ rfl (HC2.out.alloc _) (some ⟨w2.heap.size, 0, none⟩) 1 1 [.string (s.extract f s.size)] rfl (src_one _ _ _) (fun e => nomatch e) (by simp [Value.oneCell']) (by omega) (by omega) (by simp; omega) ?_); intro v3 w3 hap; have HA := Lib.hid hap; clear hap))
            obtain ⟨a1, a2, a3⟩ := HA.out
            have hne2 : ∀ j, v2.ownBlock = some j → u3.ownBlock ≠ some j := fun j e e2 => by
              rcases HL2.out j e with h | h
              · exact HNe2.out j h e2
              · have := (HCo2.out.lt j e2).2
                simp at h
                omega
            refine ⟨⟨v2, v3, .int .i64 ((l : Int) + 1), .int .i64 ((s.size : Int) + 1), .int .i64 ((s.size : Int) + 1), ⟨s.size + 1, c + 1, l + 1, by go_num, s.size + 1, by go_num, by go_num, .inr ⟨rfl, hcN⟩, ?_, ?_, ?_, ?_⟩, rfl, rfl, rfl, rfl, rfl⟩, ?_⟩
            · rw [← HTp.out]
              exact ownsRow_grown2 (HO2.out.alloc _) a2 (fun j h1 h2 => hne2 j h1 h2)
            · rw [← HTc.out]
              exact a1
            · intro j e e2
              rcases a3 j e2 with h | h
              · exact hne2 j e h
              · have := (HO2.out.lt j e).2
                simp at h
                omega
            · have h := (HB3.out.alloc hbs3 _).grown a2 (by simp; omega) (fun j e => by have := (HCo2.out.lt j e).1; omega)
              rwa [hb1] at h
            · first | (simp [intOf]; done) | (simp [intOf]; omega)
        · go_wp2
          go_roundw
          case rel => exact ⟨r + 1, by omega, by go_num, by rw [HN.out]; exact HP2.out, by rw [HN.out]; exact HCo2.out, HNe2.out, HB2.out⟩
          case measure => simp [intOf]; omega
    · obtain rfl : r = 27 := by omega
      go_wp2
      go_ret2
      exact ⟨_, _, rfl, ownsRow_base2 HP.out (by omega), ownsRow_base2 HCo.out (by omega), H1.out.trans (HB.out.mono (by omega))⟩

end Go.Proofs.YtbcfiafgolcbpaaGreatDoor
