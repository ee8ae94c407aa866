/- The walk of CosineTwice (praxinoscopelaw11). -/
import Derived.Test.YtpmdeoiajnfabaaCLns
namespace Go.Proofs.Ytpmdeoiajnfabaa
open Go.RowKit Go.Shelf
set_option linter.unusedVariables false

theorem inv_made {b : List Int} (hb : b.length = 64) (h : ∀ j, -2048 ≤ nthC b j ∧ nthC b j ≤ 2047) : invR b = (0, invL b) := invR_ok (checkR_made hb h)
/-- Inverse of a block of the call's own -/
theorem invC {w : World} {g : Nat} {b : List Int} (hN : NumsAt w g 3 b) (hb : b.length = 64) (h : ∀ j, -2048 ≤ nthC b j ∧ nthC b j ≤ 2047) :
    Calls Try.prog 12 #[.slice (some ⟨g, 0, none⟩) 64 64] w fun e w' => ∃ g' c, e = .returned (.tuple #[.slice (some ⟨g', 0, none⟩) 64 c, .int .i64 0]) ∧ w.heap.size ≤ g' ∧ g' < w'.heap.size ∧ (∀ k, k < 64 → w'.cell? ⟨g', k, none⟩ = some (.int .i64 (rndC (invS b k)))) ∧ Below w.heap.size w w' := by
  have hi := inv11_any (hN.rowV hb) (Nat.le_refl _) (by omega)
  rw [inv_made hb h] at hi
  refine Calls.mono hi ?_
  rintro e w' ⟨v, rfl, ⟨t, ho⟩, hb'⟩
  rw [invL_length] at ho
  obtain ⟨g', c, rfl, h1, h2, h3⟩ := own_cellsC ho (by omega)
  exact ⟨g', c, rfl, h1, h2, fun k hk => by rw [h3 k hk]; unfold invL; rw [ofC_get hk], hb'⟩
theorem belowC_drewN {m : Nat} {w w' : World} (h : Below m w w') (n : Nat) : Below m w (w'.drewN n) := ⟨h.os, h.tape, h.output, h.size, h.block⟩
theorem linesC_far (d : Bool) {b : List Int} (h : ∀ j, -2048 ≤ nthC b j ∧ nthC b j ≤ 2048) (j : Nat) : -1099511627776 ≤ nthC (linesC d b) j ∧ nthC (linesC d b) j ≤ 1099511627776 := by
  have := lines_in d (M := 2048) (by omega) h j
  omega
theorem cells_below {w w' : World} {m g : Nat} {f : Nat → Value} (hb : Below m w w') (hg : g < m) (h : ∀ k, k < 64 → w.cell? ⟨g, k, none⟩ = some (f k)) : ∀ k, k < 64 → w'.cell? ⟨g, k, none⟩ = some (f k) := fun k hk => (hb.cell (p := ⟨g, k, none⟩) hg).trans (h k hk)
theorem nums_cells {w : World} {g : Nat} {t : TypeId} {b : List Int} (h : NumsAt w g t b) (hb : b.length = 64) : ∀ k, k < 64 → w.cell? ⟨g, k, none⟩ = some (.int .i64 (nthC b k)) := fun k hk => h.cell (by omega)

set_option maxRecDepth 100000 in
set_option maxHeartbeats 4000000 in
theorem cosineTwice_walk {w : World} {a : Option Addr} {len cap : Nat} {xs : List Int} (hR : RowV w.heap.size w a len cap (intV xs)) :
    Calls Try.prog 6 #[.slice a len cap] w fun e w' => e = .returned (.bool true) ∧ Below w.heap.size w w' := by
  have HK := Lib.hid (known11_any w)
  by_cases hlen : 64 < len
  · have q1 : (64 : Int) < (len : Int) := by omega
    clear hR
    go_enter Try.func6, Try.ntmps6
    go_wp2_with fail
    refine HK.out.mono ?_
    rintro e w1 ⟨rfl, b1⟩
    go_wp2_with fail
    go_ret
    exact ⟨rfl, b1⟩
  · have q1 : ¬ (64 : Int) < (len : Int) := by omega
    have HRB := Lib.hid (fun w' (hb : Below w.heap.size w w') => hR.below hb)
    obtain ⟨B, hB⟩ : ∃ B, madeC xs = B := ⟨_, rfl⟩
    have hBl := madeC_length xs
    have hin := madeC_in xs
    rw [hB] at hBl hin
    have hin2 : ∀ j, -2048 ≤ nthC B j ∧ nthC B j ≤ 2048 := fun j => by have := hin j; omega
    have hin3 : ∀ j, -1099511627776 ≤ nthC B j ∧ nthC B j ≤ 1099511627776 := fun j => by have := hin j; omega
    have HIn := Lib.hid hin
    have HIn3 := Lib.hid hin3
    have HF1 := Lib.hid (fun d => linesC_far d hin2)
    have HT1 := Lib.hid (lines_two B)
    have HT2 := Lib.hid (lines_two' B)
    have HSb : Hid (∀ k, k < 64 → -549755813888 ≤ invS B k ∧ invS B k ≤ 549755813888) := fun k hk => invP_in (n := 64) (by omega) hin2 hk
    clear hR hin hin2 hin3
    go_enter Try.func6, Try.ntmps6
    go_wp2_with fail
    refine HK.out.mono ?_
    rintro e w1 ⟨rfl, b1⟩
    have B1 := Lib.hid b1
    have hs1 := b1.size
    clear b1 HK
    have HMd := Lib.hid (made11_any (HRB.out w1 B1.out) hs1 (by omega))
    rw [hB] at HMd
    clear hB
    go_wp2_with fail
    refine HMd.out.mono ?_
    rintro e w2 ⟨rfl, hN, b2⟩
    have HN2 := Lib.hid hN
    have hl2 := hN.lt
    have B2 := Lib.hid (B1.out.trans (b2.mono hs1))
    clear hN b2 HMd
    go_wp2_with fail
    refine (invC HN2.out hBl HIn.out).mono ?_
    rintro e w3 ⟨g3, c3, rfl, hg3, hl3, hc3, b3⟩
    have HC3 := Lib.hid hc3
    have HN3 := Lib.hid (HN2.out.below b3 hl2)
    have hs3 := b3.size
    have B3 := Lib.hid (B2.out.trans (b3.mono B2.out.size))
    clear hc3 b3
    go_wp2_with fail
    refine (lines11_any (HN3.out.rowV hBl) (Nat.le_refl _) HIn3.out false).mono ?_
    rintro e w4 ⟨rfl, hN, b4⟩
    have HNr4 := Lib.hid hN
    have hlr4 := hN.lt
    have HN4 := Lib.hid (HN3.out.below b4 (by omega))
    have HC4 := Lib.hid (cells_below b4 hl3 HC3.out)
    have hs4 := b4.size
    have B4 := Lib.hid (B3.out.trans (b4.mono B3.out.size))
    clear hN b4 HC3
    go_wp2_with fail
    refine (lines11_any (HN4.out.rowV hBl) (Nat.le_refl _) HIn3.out true).mono ?_
    rintro e w5 ⟨rfl, hN, b5⟩
    have HNc5 := Lib.hid hN
    have hlc5 := hN.lt
    have HNr5 := Lib.hid (HNr4.out.below b5 hlr4)
    have HC5 := Lib.hid (cells_below b5 (by omega) HC4.out)
    have hs5 := b5.size
    have B5 := Lib.hid (B4.out.trans (b5.mono B4.out.size))
    clear hN b5 HC4
    go_wp2_with fail
    refine (lines11_any (HNr5.out.rowV (lines_length _ _)) (Nat.le_refl _) (HF1.out false) true).mono ?_
    rintro e w6 ⟨rfl, hN, b6⟩
    rw [HT1.out] at hN
    have hlo6 := hN.lt
    have HO6 := Lib.hid (nums_cells hN (ofC_length _ _))
    have HNc6 := Lib.hid (HNc5.out.below b6 hlc5)
    have HC6 := Lib.hid (cells_below b6 (by omega) HC5.out)
    have hs6 := b6.size
    have B6 := Lib.hid (B5.out.trans (b6.mono B5.out.size))
    clear hN b6 HC5
    go_wp2_with fail
    refine (lines11_any (HNc6.out.rowV (lines_length _ _)) (Nat.le_refl _) (HF1.out true) false).mono ?_
    rintro e w7 ⟨rfl, hN, b7⟩
    rw [HT2.out] at hN
    have hlo7 := hN.lt
    have HO7 := Lib.hid (nums_cells hN (ofC_length _ _))
    have HC7 := Lib.hid (cells_below b7 (by omega) HC6.out)
    have HP7 := Lib.hid (cells_below b7 (by omega) HO6.out)
    have hs7 := b7.size
    have B7 := Lib.hid (B6.out.trans (b7.mono B6.out.size))
    clear hN b7 HC6 HO6
    go_wp2_with fail
    go_loopw [15] (fun i wr => ∃ k : Nat, i = .int .i64 k ∧ k ≤ 64 ∧ Below w7.heap.size w7 wr) (fun i _ => 64 - (intOf i).toNat)
    case atStart => exact ⟨0, rfl, by omega, Below.refl _ _⟩
    case round =>
      obtain ⟨k, rfl, hk, hbk⟩ := hrel
      have HBk := Lib.hid hbk
      clear hbk
      by_cases hk2 : k < 64
      · have z1 : (k : Int) < 64 := by omega
        have x1 := (HBk.out.cell (p := ⟨w5.heap.size, k, none⟩) (by simp; omega)).trans (HP7.out k hk2)
        have x2 := (HBk.out.cell (p := ⟨w6.heap.size, k, none⟩) (by simp; omega)).trans (HO7.out k hk2)
        have x3 := (HBk.out.cell (p := ⟨g3, k, none⟩) (by simp; omega)).trans (HC7.out k hk2)
        rw [ofC_get hk2] at x1 x2
        obtain ⟨s1, s2⟩ := HSb.out k hk2
        unfold rndC at x3
        generalize invS B k = s at *
        have e1 : (s != s) = false := by simp
        have e2 : ((s + 8388608) / 16777216 != (s + 8388608) / 16777216) = false := by simp
        clear HC7 HP7 HO7 HSb HF1 HT1 HT2 HNc5 HNr5 HNc6 HN2 HN3 HN4 HNr4 B1 B2 B3 B4 B5 B6
        go_wp2_with fail
        go_quiet (fail)
        have HB9 := Lib.hid (belowC_drewN HBk.out nq)
        generalize wr.drewN nq = w9 at *
        go_wp2_with fail
        go_roundw
        case rel => exact ⟨k + 1, by go_num, by omega, HB9.out⟩
        case measure => simp [intOf]; omega
      · obtain rfl : k = 64 := by omega
        go_wp2_with fail
        go_ret
        exact ⟨rfl, B7.out.trans (HBk.out.mono B7.out.size)⟩

end Go.Proofs.Ytpmdeoiajnfabaa
