/- The walk of QuantBlocks (praxinoscopelaw10). -/
import Derived.Test.YtfkjgafmaplggaaULaw
namespace Go.Proofs.Ytfkjgafmaplggaa
open Go.RowKit Go.Shelf
set_option linter.unusedVariables false

theorem interU_size (xs : List Int) (q : Int) : (interU xs q).2.length ≤ 64 := by
  rcases interU_cases xs q with e | e | ⟨h1, _, _, e⟩ <;> rw [e] <;> simp
  omega
theorem intraU_size (xs : List Int) (q c : Int) : (intraU xs q c).2.length ≤ 64 := by
  have := interU_size xs q
  unfold intraU
  split
  · simp
  · split
    · simp
    · simpa using this

set_option maxRecDepth 100000 in
set_option maxHeartbeats 4000000 in
theorem quantBlocks_walk {w : World} {a : Option Addr} {len cap : Nat} {xs : List Int} (hR : RowV w.heap.size w a len cap (intV xs)) (q c : Int) :
    Calls Try.prog 4 #[.slice a len cap, .int .i64 q, .int .i64 c] w fun e w' => e = .returned (.bool true) ∧ Below w.heap.size w w' := by
  have HAw := Lib.hid (fun W => awake10_any W)
  have hl : xs.length = len := by have := hR.1; simpa using this
  by_cases hlen : 80 < len
  · have q1 : (80 : Int) < (len : Int) := by omega
    clear hR
    go_enter Try.func4, Try.ntmps4
    go_wp2_with (go_at_call 16; refine (HAw.out _).mono ?_; rintro e w' ⟨rfl, hb⟩)
    go_ret
    exact ⟨rfl, hb⟩
  · have q1 : ¬ (80 : Int) < (len : Int) := by omega
    have HCo := Lib.hid (copyInts_any hR (by omega))
    have HRB := Lib.hid (fun w' (hb : Below w.heap.size w w') => hR.below hb)
    have hz1 := interU_size xs q
    have hz2 := intraU_size xs q c
    clear hR
    go_enter Try.func4, Try.ntmps4
    go_wp2_with fail
    refine HCo.out.mono ?_
    rintro e w1 ⟨v1, rfl, ho1, hb1⟩
    obtain ⟨a1, c1, rfl, hr1⟩ := rowV_own4 ho1
    simp only [List.length_map, hl] at hr1
    have HR1 := Lib.hid hr1
    have HB1 := Lib.hid hb1
    have hs1 := hb1.size
    clear hb1 ho1 hr1 HCo
    go_wp2_with fail
    refine (interU_any HR1.out (Nat.le_refl _) (by omega) q).mono ?_
    rintro e w2 ⟨v2, rfl, ho2, hb2⟩
    have HO2 := Lib.hid ho2
    have HB2 := Lib.hid hb2
    have hs2 := hb2.size
    have HB2w := Lib.hid (HB1.out.trans (hb2.mono hs1))
    clear hb2 ho2
    go_wp2_with fail
    refine (r10inter_any (HRB.out w2 HB2w.out) (by omega) (by omega) q).mono ?_
    rintro e w3 ⟨v3, rfl, ho3, hb3⟩
    have HO3 := Lib.hid ho3
    have HB3 := Lib.hid hb3
    have hs3 := hb3.size
    have HB13 := Lib.hid (HB2.out.trans (hb3.mono hs2))
    have HB3w := Lib.hid (HB2w.out.trans (hb3.mono (by omega)))
    clear hb3 ho3
    go_wp2_with fail
    refine (intraU_any (HR1.out.below HB13.out) (by omega) (by omega) q c).mono ?_
    rintro e w4 ⟨v4, rfl, ho4, hb4⟩
    have HO4 := Lib.hid ho4
    have HB4 := Lib.hid hb4
    have hs4 := hb4.size
    have HB4w := Lib.hid (HB3w.out.trans (hb4.mono (by omega)))
    clear hb4 ho4
    go_wp2_with fail
    refine (r10intra_any (HRB.out w4 HB4w.out) (by omega) (by omega) q c).mono ?_
    rintro e w5 ⟨v5, rfl, ho5, hb5⟩
    have HO5 := Lib.hid ho5
    have HB5 := Lib.hid hb5
    have hs5 := hb5.size
    clear hb5 ho5
    have B35 := HB4.out.trans (HB5.out.mono hs4)
    have B25 := HB3.out.trans (B35.mono hs3)
    have HSm1 := Lib.hid (sameInts_any (HO2.out.cellsAt.below B25) ((cellsAt_own HO3.out).below B35) (by omega) (by omega))
    have HB25 := Lib.hid B25
    have HB45 := Lib.hid HB5.out
    have HSm2 := Lib.hid (fun w' (hb : Below w5.heap.size w5 w') => sameInts_any ((HO4.out.cellsAt.below HB5.out).below hb) ((cellsAt_own HO5.out).below hb) (by omega) (by omega))
    clear B35 B25
    simp only [decide_true] at HSm1 HSm2
    obtain ⟨t2, ho2⟩ := HO2.out
    obtain ⟨t4, ho4⟩ := HO4.out
    have HP2 := Lib.hid ho2
    have HP4 := Lib.hid ho4
    clear ho2 ho4 HO2 HO3 HO4 HO5
    generalize (interU xs q).1 = e1 at *
    generalize (interU xs q).2 = b1 at *
    generalize (intraU xs q c).1 = e2 at *
    generalize (intraU xs q c).2 = b2 at *
    go_wp2_with fail
    refine HSm1.out.mono ?_
    rintro e w6 ⟨rfl, hb6⟩
    have HB6 := Lib.hid hb6
    clear hb6
    go_wp2_with fail
    refine (HSm2.out w6 HB6.out).mono ?_
    rintro e w7 ⟨rfl, hb7⟩
    have HB7 := Lib.hid hb7
    have hs6 := HB6.out.size
    have hs7 := HB7.out.size
    clear hb7
    have B57 := HB6.out.trans (HB7.out.mono hs6)
    have B47 := HB45.out.trans (B57.mono hs5)
    have B27 := HB25.out.trans (B57.mono (by omega))
    have HQ2 := Lib.hid (ownsRow_belowN HP2.out B27)
    have HQ4 := Lib.hid (ownsRow_belowN HP4.out B47)
    have hlt2 := fun k e => (HP2.out.lt k e)
    have hlt4 := fun k e => (HP4.out.lt k e)
    have HOv2 := Lib.hid (overZ_any HQ2.out (by omega))
    have HB17 := Lib.hid (HB2.out.trans (B27.mono hs2))
    have HLt2 := Lib.hid hlt2
    have HLt4 := Lib.hid hlt4
    clear B57 B47 B27 hlt2 hlt4
    go_wp2_with fail
    refine HOv2.out.mono ?_
    rintro e w8 ⟨rfl, hb8⟩
    have HQ4b := Lib.hid (ownsRow_bar HQ4.out hb8 (fun k e e' => by have h2 := HLt2.out k e'; have h4 := (HLt4.out k e).1; omega))
    have hb8b : Below w1.heap.size w7 w8 := hb8.below (by omega) (fun k hk e => by have := (HLt2.out k e).1; omega)
    have HB18 := Lib.hid (HB17.out.trans hb8b)
    have hs8 := hb8b.size
    clear hb8 hb8b
    have HOv4 := Lib.hid (overZ_any HQ4b.out (by omega))
    go_wp2_with fail
    refine HOv4.out.mono ?_
    rintro e w9 ⟨rfl, hb9⟩
    have hb9b : Below w1.heap.size w8 w9 := hb9.below (by omega) (fun k hk e => by have := (HLt4.out k e).1; omega)
    have HB19 := Lib.hid (HB18.out.trans hb9b)
    have hs9 := hb9b.size
    clear hb9 hb9b
    have HW9 := Lib.hid (HB1.out.trans (HB19.out.mono hs1))
    have HSi := Lib.hid (sameInts_any (HR1.out.below HB19.out).cellsAt (HRB.out w9 HW9.out).cellsAt (by omega) (by omega))
    simp only [decide_true] at HSi
    go_wp2_with fail
    refine HSi.out.mono ?_
    rintro e w10 ⟨rfl, hb10⟩
    have HW10 := Lib.hid (below_chain HW9.out (Nat.le_refl _) hb10)
    clear hb10
    go_wp2_with fail
    refine (HAw.out w10).mono ?_
    rintro e w11 ⟨rfl, hb11⟩
    have hW11 := below_chain HW10.out (Nat.le_refl _) hb11
    clear hb11
    go_wp2
    go_ret
    exact ⟨rfl, hW11⟩

end Go.Proofs.Ytfkjgafmaplggaa
