/- Contracts of the reference's coeff (praxinoscoperef08): rows, Coded, read, Get, Pair, code, Short, bits, Escape, Put. -/
import Derived.Test.YtejcgkplcbapfaaDoorFmt
/- The table, and what is answered. -/
namespace Go.Proofs.YtejcgkplcbapfaaDoor
open Go.RowKit Go.Shelf
set_option linter.unusedVariables false

/-- the codes of the table, without a sign -/
def codes8 : List ByteArray := [[1, 1], [0, 1, 0, 0], [0, 0, 1, 0, 1], [0, 0, 0, 0, 1, 1, 0], [0, 0, 1, 0, 0, 1, 1, 0], [0, 0, 1, 0, 0, 0, 0, 1], [0, 0, 0, 0, 0, 0, 1, 0, 1, 0], [0, 0, 0, 0, 0, 0, 0, 1, 1, 1, 0, 1], [0, 0, 0, 0, 0, 0, 0, 1, 1, 0, 0, 0], [0, 0, 0, 0, 0, 0, 0, 1, 0, 0, 1, 1], [0, 0, 0, 0, 0, 0, 0, 1, 0, 0, 0, 0], [0, 0, 0, 0, 0, 0, 0, 0, 1, 1, 0, 1, 0], [0, 0, 0, 0, 0, 0, 0, 0, 1, 1, 0, 0, 1], [0, 0, 0, 0, 0, 0, 0, 0, 1, 1, 0, 0, 0], [0, 0, 0, 0, 0, 0, 0, 0, 1, 0, 1, 1, 1], [0, 1, 1], [0, 0, 0, 1, 1, 0], [0, 0, 1, 0, 0, 1, 0, 1], [0, 0, 0, 0, 0, 0, 1, 1, 0, 0], [0, 0, 0, 0, 0, 0, 0, 1, 1, 0, 1, 1], [0, 0, 0, 0, 0, 0, 0, 0, 1, 0, 1, 1, 0], [0, 0, 0, 0, 0, 0, 0, 0, 1, 0, 1, 0, 1], [0, 1, 0, 1], [0, 0, 0, 0, 1, 0, 0], [0, 0, 0, 0, 0, 0, 1, 0, 1, 1], [0, 0, 0, 0, 0, 0, 0, 1, 0, 1, 0, 0], [0, 0, 0, 0, 0, 0, 0, 0, 1, 0, 1, 0, 0], [0, 0, 1, 1, 1], [0, 0, 1, 0, 0, 1, 0, 0], [0, 0, 0, 0, 0, 0, 0, 1, 1, 1, 0, 0], [0, 0, 0, 0, 0, 0, 0, 0, 1, 0, 0, 1, 1], [0, 0, 1, 1, 0], [0, 0, 0, 0, 0, 0, 1, 1, 1, 1], [0, 0, 0, 0, 0, 0, 0, 1, 0, 0, 1, 0], [0, 0, 0, 1, 1, 1], [0, 0, 0, 0, 0, 0, 1, 0, 0, 1], [0, 0, 0, 0, 0, 0, 0, 0, 1, 0, 0, 1, 0], [0, 0, 0, 1, 0, 1], [0, 0, 0, 0, 0, 0, 0, 1, 1, 1, 1, 0], [0, 0, 0, 1, 0, 0], [0, 0, 0, 0, 0, 0, 0, 1, 0, 1, 0, 1], [0, 0, 0, 0, 1, 1, 1], [0, 0, 0, 0, 0, 0, 0, 1, 0, 0, 0, 1], [0, 0, 0, 0, 1, 0, 1], [0, 0, 0, 0, 0, 0, 0, 0, 1, 0, 0, 0, 1], [0, 0, 1, 0, 0, 1, 1, 1], [0, 0, 0, 0, 0, 0, 0, 0, 1, 0, 0, 0, 0], [0, 0, 1, 0, 0, 0, 1, 1], [0, 0, 1, 0, 0, 0, 1, 0], [0, 0, 1, 0, 0, 0, 0, 0], [0, 0, 0, 0, 0, 0, 1, 1, 1, 0], [0, 0, 0, 0, 0, 0, 1, 1, 0, 1], [0, 0, 0, 0, 0, 0, 1, 0, 0, 0], [0, 0, 0, 0, 0, 0, 0, 1, 1, 1, 1, 1], [0, 0, 0, 0, 0, 0, 0, 1, 1, 0, 1, 0], [0, 0, 0, 0, 0, 0, 0, 1, 1, 0, 0, 1], [0, 0, 0, 0, 0, 0, 0, 1, 0, 1, 1, 1], [0, 0, 0, 0, 0, 0, 0, 1, 0, 1, 1, 0], [0, 0, 0, 0, 0, 0, 0, 0, 1, 1, 1, 1, 1], [0, 0, 0, 0, 0, 0, 0, 0, 1, 1, 1, 1, 0], [0, 0, 0, 0, 0, 0, 0, 0, 1, 1, 1, 0, 1], [0, 0, 0, 0, 0, 0, 0, 0, 1, 1, 1, 0, 0], [0, 0, 0, 0, 0, 0, 0, 0, 1, 1, 0, 1, 1]].map bitsT
/-- their pairs -/
def pairs8 : List (Nat × Nat) := [(0, 1), (0, 2), (0, 3), (0, 4), (0, 5), (0, 6), (0, 7), (0, 8), (0, 9), (0, 10), (0, 11), (0, 12), (0, 13), (0, 14), (0, 15), (1, 1), (1, 2), (1, 3), (1, 4), (1, 5), (1, 6), (1, 7), (2, 1), (2, 2), (2, 3), (2, 4), (2, 5), (3, 1), (3, 2), (3, 3), (3, 4), (4, 1), (4, 2), (4, 3), (5, 1), (5, 2), (5, 3), (6, 1), (6, 2), (7, 1), (7, 2), (8, 1), (8, 2), (9, 1), (9, 2), (10, 1), (10, 2), (11, 1), (12, 1), (13, 1), (14, 1), (15, 1), (16, 1), (17, 1), (18, 1), (19, 1), (20, 1), (21, 1), (22, 1), (23, 1), (24, 1), (25, 1), (26, 1)]
/-- of each run its codes, as a text -/
def rows8 : List ByteArray := [⟨#[49, 49, 32, 48, 49, 48, 48, 32, 48, 48, 49, 48, 49, 32, 48, 48, 48, 48, 49, 49, 48, 32, 48, 48, 49, 48, 48, 49, 49, 48, 32, 48, 48, 49, 48, 48, 48, 48, 49, 32, 48, 48, 48, 48, 48, 48, 49, 48, 49, 48, 32, 48, 48, 48, 48, 48, 48, 48, 49, 49, 49, 48, 49, 32, 48, 48, 48, 48, 48, 48, 48, 49, 49, 48, 48, 48, 32, 48, 48, 48, 48, 48, 48, 48, 49, 48, 48, 49, 49, 32, 48, 48, 48, 48, 48, 48, 48, 49, 48, 48, 48, 48, 32, 48, 48, 48, 48, 48, 48, 48, 48, 49, 49, 48, 49, 48, 32, 48, 48, 48, 48, 48, 48, 48, 48, 49, 49, 48, 48, 49, 32, 48, 48, 48, 48, 48, 48, 48, 48, 49, 49, 48, 48, 48, 32, 48, 48, 48, 48, 48, 48, 48, 48, 49, 48, 49, 49, 49]⟩, ⟨#[48, 49, 49, 32, 48, 48, 48, 49, 49, 48, 32, 48, 48, 49, 48, 48, 49, 48, 49, 32, 48, 48, 48, 48, 48, 48, 49, 49, 48, 48, 32, 48, 48, 48, 48, 48, 48, 48, 49, 49, 48, 49, 49, 32, 48, 48, 48, 48, 48, 48, 48, 48, 49, 48, 49, 49, 48, 32, 48, 48, 48, 48, 48, 48, 48, 48, 49, 48, 49, 48, 49]⟩, ⟨#[48, 49, 48, 49, 32, 48, 48, 48, 48, 49, 48, 48, 32, 48, 48, 48, 48, 48, 48, 49, 48, 49, 49, 32, 48, 48, 48, 48, 48, 48, 48, 49, 48, 49, 48, 48, 32, 48, 48, 48, 48, 48, 48, 48, 48, 49, 48, 49, 48, 48]⟩, ⟨#[48, 48, 49, 49, 49, 32, 48, 48, 49, 48, 48, 49, 48, 48, 32, 48, 48, 48, 48, 48, 48, 48, 49, 49, 49, 48, 48, 32, 48, 48, 48, 48, 48, 48, 48, 48, 49, 48, 48, 49, 49]⟩, ⟨#[48, 48, 49, 49, 48, 32, 48, 48, 48, 48, 48, 48, 49, 49, 49, 49, 32, 48, 48, 48, 48, 48, 48, 48, 49, 48, 48, 49, 48]⟩, ⟨#[48, 48, 48, 49, 49, 49, 32, 48, 48, 48, 48, 48, 48, 49, 48, 48, 49, 32, 48, 48, 48, 48, 48, 48, 48, 48, 49, 48, 48, 49, 48]⟩, ⟨#[48, 48, 48, 49, 48, 49, 32, 48, 48, 48, 48, 48, 48, 48, 49, 49, 49, 49, 48]⟩, ⟨#[48, 48, 48, 49, 48, 48, 32, 48, 48, 48, 48, 48, 48, 48, 49, 48, 49, 48, 49]⟩, ⟨#[48, 48, 48, 48, 49, 49, 49, 32, 48, 48, 48, 48, 48, 48, 48, 49, 48, 48, 48, 49]⟩, ⟨#[48, 48, 48, 48, 49, 48, 49, 32, 48, 48, 48, 48, 48, 48, 48, 48, 49, 48, 48, 48, 49]⟩, ⟨#[48, 48, 49, 48, 48, 49, 49, 49, 32, 48, 48, 48, 48, 48, 48, 48, 48, 49, 48, 48, 48, 48]⟩, ⟨#[48, 48, 49, 48, 48, 48, 49, 49]⟩, ⟨#[48, 48, 49, 48, 48, 48, 49, 48]⟩, ⟨#[48, 48, 49, 48, 48, 48, 48, 48]⟩, ⟨#[48, 48, 48, 48, 48, 48, 49, 49, 49, 48]⟩, ⟨#[48, 48, 48, 48, 48, 48, 49, 49, 48, 49]⟩, ⟨#[48, 48, 48, 48, 48, 48, 49, 48, 48, 48]⟩, ⟨#[48, 48, 48, 48, 48, 48, 48, 49, 49, 49, 49, 49]⟩, ⟨#[48, 48, 48, 48, 48, 48, 48, 49, 49, 48, 49, 48]⟩, ⟨#[48, 48, 48, 48, 48, 48, 48, 49, 49, 48, 48, 49]⟩, ⟨#[48, 48, 48, 48, 48, 48, 48, 49, 48, 49, 49, 49]⟩, ⟨#[48, 48, 48, 48, 48, 48, 48, 49, 48, 49, 49, 48]⟩, ⟨#[48, 48, 48, 48, 48, 48, 48, 48, 49, 49, 49, 49, 49]⟩, ⟨#[48, 48, 48, 48, 48, 48, 48, 48, 49, 49, 49, 49, 48]⟩, ⟨#[48, 48, 48, 48, 48, 48, 48, 48, 49, 49, 49, 48, 49]⟩, ⟨#[48, 48, 48, 48, 48, 48, 48, 48, 49, 49, 49, 48, 48]⟩, ⟨#[48, 48, 48, 48, 48, 48, 48, 48, 49, 49, 48, 49, 49]⟩]
theorem codes8_length : codes8.length = 63 := rfl
theorem pairs8_length : pairs8.length = 63 := rfl
theorem rows8_length : rows8.length = 27 := rfl
def codeAt (k : Nat) : ByteArray := codes8[k]?.getD ⟨#[]⟩
def pairAt (k : Nat) : Nat × Nat := pairs8[k]?.getD (0, 0)
def rowAt8 (r : Nat) : ByteArray := rows8[r]?.getD ⟨#[]⟩
/-- a code of the table, at first or later -/
def codeF (first : Bool) (k : Nat) : ByteArray := if first && k == 0 then bitsT [1] else codeAt k
def esc8 : ByteArray := bitsT [0, 0, 0, 0, 0, 1]
def end8 : ByteArray := bitsT [1, 0]
/-- all codes, at first or later, and their numbers -/
def codesF (first : Bool) : List ByteArray := (List.range 63).map (codeF first) ++ (if first then [esc8] else [end8, esc8])
def numsF (first : Bool) : List Int := (List.range 63).map (fun (k : Nat) => (k : Int)) ++ (if first then [1000] else [1001, 1000])
theorem makeF : ∀ first, makeE (codesF first) (numsF first) = 0 := by decide +kernel
theorem clashF : ∀ first, clash (codesF first) = false := by decide +kernel
theorem codesF_bits : ∀ first, ∀ c ∈ codesF first, allB c = true ∧ 1 ≤ c.size ∧ c.size ≤ 13 := by decide +kernel

/-- what Get answers -/
structure Got where
  run : Int
  level : Int
  over : Bool
  many : Int
  err : Int
abbrev gotV (g : Got) : Value := .tuple #[.agg #[.int .i64 g.run, .int .i64 g.level], .bool g.over, .int .i64 g.many, .int .i64 g.err]
abbrev badG (e : Int) : Got := ⟨0, 0, false, 0, e⟩
/-- a level of eight bits -/
def lvl (l : Nat) : Int := if 128 < l then (l : Int) - 256 else l
def escG (zs : List UInt8) (a : Nat) : Got :=
  if 8 * zs.length < a + 20 then badG 5 else if num zs (a + 12) 8 = 0 ∨ num zs (a + 12) 8 = 128 then badG 10
  else ⟨num zs (a + 6) 6, lvl (num zs (a + 12) 8), false, 20, 0⟩
def tabG (first : Bool) (zs : List UInt8) (a k : Nat) : Got :=
  if 8 * zs.length ≤ a + (codeF first k).size then badG 5
  else ⟨(pairAt k).1, if bt zs (a + (codeF first k).size) = 1 then -((pairAt k).2 : Int) else (pairAt k).2, false, (codeF first k).size + 1, 0⟩
def gotS (first : Bool) (zs : List UInt8) (a : Nat) (S : ByteArray) : Got :=
  match getI (codesF first) S with
  | none => badG (if getMore (codesF first) S then 5 else 7)
  | some k => if k < 63 then tabG first zs a k else if first = false ∧ k = 63 then ⟨0, 0, true, 2, 0⟩ else escG zs a
def got (first : Bool) (zs : List UInt8) (x : Int) : Got := if x < 0 then badG 3 else gotS first zs x.toNat (seenB zs x.toNat (seenN zs x.toNat))

/-- is it a pair? -/
def isP (r l : Int) : Bool := decide (0 ≤ r ∧ r ≤ 63 ∧ -127 ≤ l ∧ l ≤ 127 ∧ l ≠ 0)
/-- where it stands in the table, whatever its sign -/
def tabI (r l : Int) : Option Nat := pairs8.findIdx? fun p => decide ((p.1 : Int) = r ∧ ((p.2 : Int) = l ∨ (p.2 : Int) = -l))
def codeOf (r l : Int) : ByteArray := match tabI r l with | some k => codeAt k | none => ⟨#[]⟩
def escS (r l : Int) : ByteArray := esc8 ++ binS r.toNat 6 ++ binS ((l + 256) % 256).toNat 8
def signS (l : Int) : ByteArray := if l < 0 then bitsT [1] else bitsT [0]
def putP (first : Bool) (r l : Int) : ByteArray := match tabI r l with | some k => codeF first k ++ signS l | none => escS r l
def putS8 (first : Bool) (r l : Int) : ByteArray := if isP r l then putP first r l else ⟨#[]⟩
def putE8 (r l : Int) : Int := if isP r l then 0 else 3
def escS8 (r l : Int) : ByteArray := if isP r l then escS r l else ⟨#[]⟩
def shortB (r l : Int) : Bool := (tabI r l).isSome

end Go.Proofs.YtejcgkplcbapfaaDoor

/- The contracts: bits that are read, spelled; the table. -/
namespace Go.Proofs.YtejcgkplcbapfaaDoor
open Go.RowKit Go.Shelf
set_option linter.unusedVariables false

/-- what the reference's Read answers at a place of the bits, or behind them -/
def r1N (zs : List UInt8) (A n : Nat) : Int := if 8 * zs.length < A + n then 0 else num zs A n
def r1E (zs : List UInt8) (A n : Nat) : Int := if 8 * zs.length < A + n then 5 else 0
set_option maxRecDepth 100000 in
set_option maxHeartbeats 1000000 in
theorem r1read_any {n₀ : Nat} {w : World} {sv : Value} {zs : List UInt8} (hB : Byt n₀ w sv zs) (i : Int) (A : Nat) (hi : i = A) (n : Nat) (hn : n ≤ 32) (hA : A ≤ 8 * zs.length) (hl : zs.length ≤ 1099511627776) :
    Calls Tryd.prog 32 #[sv, .int .i64 i, .int .i64 (n : Nat)] w fun e w' => e = .returned (.tuple #[.int .i64 (r1N zs A n), .int .i64 (r1E zs A n)]) ∧ w = w' := by
  subst hi
  have HC := Lib.hid (rcount_any hB)
  by_cases h : 8 * zs.length < A + n
  · rw [show r1N zs A n = 0 from if_pos h, show r1E zs A n = 5 from if_pos h]
    obtain ⟨a, cap, rfl, hl', _⟩ := hB
    go_enter Tryd.func32, Tryd.ntmps32
    go_wp2_with (go_at_call 48; refine HC.out.mono ?_; rintro e w' ⟨rfl, rfl⟩)
    go_ret2
    exact ⟨rfl, rfl⟩
  · rw [show r1N zs A n = num zs A n from if_neg h, show r1E zs A n = 0 from if_neg h]
    have HB := Lib.hid (fun (i : Int) (k : Nat) (hi : i = k) (h : k < 8 * zs.length) => rbit_any hB i k hi h)
    have HL := Lib.hid (fun k => num_lt32 zs A k)
    obtain ⟨a, cap, rfl, hl', _⟩ := hB
    go_enter Tryd.func32, Tryd.ntmps32
    go_wp2_with (go_at_call 48; refine HC.out.mono ?_; rintro e w' ⟨rfl, rfl⟩)
    go_loop [8, 9] (fun x i => ∃ k : Nat, k ≤ n ∧ x = .int .i64 (num zs A k : Nat) ∧ i = .int .i64 k) (fun _ i => n - (intOf i).toNat)
    case atStart => exact ⟨0, Nat.zero_le _, rfl, rfl⟩
    case round =>
      obtain ⟨k, hk, rfl, rfl⟩ := hrel
      by_cases hk2 : k < n
      · have h1 := HL.out k (by omega)
        have h2 := bt_le zs (A + k)
        have hs : num zs A (k + 1) = 2 * num zs A k + bt zs (A + k) := rfl
        have HS := Lib.hid hs
        have HBk := Lib.hid (HB.out ((A : Int) + (k : Int)) (A + k) (by omega) (by omega))
        clear hs
        generalize num zs A k = x at *
        generalize bt zs (A + k) = b at *
        go_wp2_with fail
        refine HBk.out.mono ?_
        rintro e w' ⟨rfl, rfl⟩
        go_wp2
        go_round
        case rel => exact ⟨k + 1, by omega, by rw [HS.out]; go_num, by go_num⟩
        case measure => simp [intOf]; omega
      · have hkn : k = n := by omega
        subst hkn
        go_wp2
        go_ret2
        exact ⟨rfl, rfl⟩

theorem binS_cons (n k : Nat) : binS n (k + 1) = (⟨#[UInt8.ofNat (48 + n / 2 ^ k % 2)]⟩ : ByteArray) ++ binS n k := by
  apply ByteArray.ext
  apply Array.toList_inj.1
  have h : (binS n (k + 1)).data.toList = UInt8.ofNat (48 + n / 2 ^ k % 2) :: (binS n k).data.toList := by
    simp only [binS, binL, List.range_succ_eq_map, List.map_cons, List.map_map]
    congr 1
    apply List.map_congr_left
    intro i hi
    simp only [Function.comp, cbit]
    rw [show k + 1 - 1 - (i + 1) = k - 1 - i by omega]
  rw [h]
  simp
set_option maxRecDepth 100000 in
set_option maxHeartbeats 1000000 in
theorem r8bits_any (n m : Nat) (hn : n ≤ 1000000) (hm : m ≤ 30) (w : World) :
    Calls Tryd.prog 39 #[.int .i64 (n : Nat), .int .i64 (m : Nat)] w fun e w' => e = .returned (.string (binS n m)) ∧ Below w.heap.size w w' := by
  go_enter Tryd.func39, Tryd.ntmps39
  go_wp2
  go_loopw [0, 5, 6] (fun x s i wr => ∃ k : Nat, k ≤ m ∧ x = .int .i64 (n / 2 ^ k : Nat) ∧ s = .string (binS n k) ∧ i = .int .i64 k ∧ Below w.heap.size w wr) (fun _ _ i _ => m - (intOf i).toNat)
  case atStart => exact ⟨0, Nat.zero_le _, by simp, rfl, rfl, Below.refl _ _⟩
  case round =>
    obtain ⟨k, hk, rfl, rfl, rfl, hB⟩ := hrel
    have HB := Lib.hid hB
    have hbs := hB.size
    clear hB
    by_cases hk2 : k < m
    · have HS := Lib.hid (binS_cons n k)
      have HD : Hid (n / 2 ^ (k + 1) = n / 2 ^ k / 2) := by
        show _ = _
        rw [Nat.pow_succ, Nat.div_div_eq_div_mul]
      have hq : n / 2 ^ k ≤ 1000000 := Nat.le_trans (Nat.div_le_self _ _) hn
      have hsz := binS_size n k
      generalize binS n k = s at *
      generalize n / 2 ^ k = q at *
      obtain hv | hv : q % 2 = 0 ∨ q % 2 = 1 := by omega
      · rw [hv] at HS
        have hv2 : (q : Int).tmod 2 = 0 := by rw [Int.tmod_eq_emod_of_nonneg (by omega)]; omega
        have c1 : (convert 22 9 (.slice (some ⟨wr.heap.size, 0, none⟩) 1 1)).run Tryd.prog (wr.alloc (.cells #[.int .u8 48] 5 (0, 0))) = .ok (.string ⟨#[48]⟩) (wr.alloc (.cells #[.int .u8 48] 5 (0, 0))) := conv_one wr 48
        clear hv
        go_wp2
        go_roundw
        case rel => exact ⟨k + 1, by omega, by rw [HD.out]; go_num, by rw [HS.out]; rfl, by go_num, HB.out.alloc hbs _⟩
        case measure => simp [intOf]; omega
      · rw [hv] at HS
        have hv2 : (q : Int).tmod 2 = 1 := by rw [Int.tmod_eq_emod_of_nonneg (by omega)]; omega
        have c1 : (convert 22 9 (.slice (some ⟨wr.heap.size, 0, none⟩) 1 1)).run Tryd.prog (wr.alloc (.cells #[.int .u8 49] 5 (0, 0))) = .ok (.string ⟨#[49]⟩) (wr.alloc (.cells #[.int .u8 49] 5 (0, 0))) := conv_one wr 49
        clear hv
        go_wp2
        go_roundw
        case rel => exact ⟨k + 1, by omega, by rw [HD.out]; go_num, by rw [HS.out]; rfl, by go_num, HB.out.alloc hbs _⟩
        case measure => simp [intOf]; omega
    · have hkm : k = m := by omega
      subst hkm
      go_wp2
      go_ret
      exact ⟨rfl, HB.out⟩

set_option maxRecDepth 100000 in
set_option maxHeartbeats 1000000 in
theorem r8rows_any (w : World) :
    Calls Tryd.prog 50 #[] w fun e w' => e = .returned (.slice (some ⟨w.heap.size, 0, none⟩) 27 27) ∧ w' = w.alloc (.cells (strV rows8).toArray 9 (0, 0)) := by
  go_enter Tryd.func50, Tryd.ntmps50
  go_wp2_with (with_reducible refine stop_slice 56 27 _ rfl ?_; refine Hid.out ?_)
  refine Lib.hid ?_
  refine Great.wpList_buildSliceTo rfl 56 9 27 _ rfl _ rfl _ rfl Tryd.underlying56x (strV rows8).toArray (by kernel_rfl) ?_
  go_wp2
  go_ret
  exact ⟨rfl, rfl⟩

end Go.Proofs.YtejcgkplcbapfaaDoor
