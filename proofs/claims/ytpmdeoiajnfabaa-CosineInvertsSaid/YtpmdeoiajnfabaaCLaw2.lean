/- The walks of CosineInverts and CosineLines (praxinoscopelaw11). -/
import Derived.Test.YtpmdeoiajnfabaaCLaw
namespace Go.Proofs.Ytpmdeoiajnfabaa
open Go.RowKit Go.Shelf
set_option linter.unusedVariables false

set_option maxRecDepth 100000 in
set_option maxHeartbeats 4000000 in
theorem cosineInverts_walk {w : World} {a : Option Addr} {len cap : Nat} {xs : List Int} (hR : RowV w.heap.size w a len cap (intV xs)) :
    Calls Try.prog 3 #[.slice a len cap] w fun e w' => e = .returned (.bool true) ∧ Below w.heap.size w w' := by
  have HAw := Lib.hid (fun W => awake11_any W)
  have hl : xs.length = len := by have := hR.1; simpa using this
  by_cases hlen : 80 < len
  · have q1 : (80 : Int) < (len : Int) := by omega
    clear hR
    go_enter Try.func3, Try.ntmps3
    go_wp2_with (go_at_call 10; refine (HAw.out _).mono ?_; rintro e w' ⟨rfl, hb⟩)
    go_ret
    exact ⟨rfl, hb⟩
  · have q1 : ¬ (80 : Int) < (len : Int) := by omega
    have HCo := Lib.hid (copyInts_any hR (by omega))
    have HRB := Lib.hid (fun w' (hb : Below w.heap.size w w') => hR.below hb)
    have hz1 := invR_size xs
    clear hR
    go_enter Try.func3, Try.ntmps3
    go_wp2_with fail
    refine HCo.out.mono ?_
    rintro e w1 ⟨v1, rfl, ho1, hb1⟩
    obtain ⟨a1, c1, rfl, hr1⟩ := rowV_own4 ho1
    simp only [List.length_map, hl] at hr1
    have HR1 := Lib.hid hr1
    have HB1 := Lib.hid hb1
    have hs1 := hb1.size
    clear hb1 ho1 hr1 HCo
    go_wp2_with fail
    refine (inv11_any HR1.out (Nat.le_refl _) (by omega)).mono ?_
    rintro e w2 ⟨v2, rfl, ho2, hb2⟩
    have HO2 := Lib.hid ho2
    have HB2 := Lib.hid hb2
    have hs2 := hb2.size
    have HB2w := Lib.hid (HB1.out.trans (hb2.mono hs1))
    clear hb2 ho2
    go_wp2_with fail
    refine (r11inv_any (HRB.out w2 HB2w.out) (by omega) (by omega)).mono ?_
    rintro e w3 ⟨v3, rfl, ho3, hb3⟩
    have HO3 := Lib.hid ho3
    have HB3 := Lib.hid hb3
    have hs3 := hb3.size
    have HB3w := Lib.hid (HB2w.out.trans (hb3.mono (by omega)))
    clear hb3 ho3
    have HSm1 := Lib.hid (sameInts_any (HO2.out.cellsAt.below HB3.out) (cellsAt_own HO3.out) (by omega) (by omega))
    simp only [decide_true] at HSm1
    obtain ⟨t2, ho2⟩ := HO2.out
    have HP2 := Lib.hid ho2
    clear ho2 HO2 HO3
    generalize (invR xs).1 = e1 at *
    generalize (invR xs).2 = b1 at *
    go_wp2_with fail
    refine HSm1.out.mono ?_
    rintro e w4 ⟨rfl, hb4⟩
    have HB4 := Lib.hid hb4
    have hs4 := hb4.size
    clear hb4
    have B24 := HB3.out.trans (HB4.out.mono hs3)
    have HQ2 := Lib.hid (ownsRow_belowN HP2.out B24)
    have HLt2 := Lib.hid (fun k e => (HP2.out.lt k e))
    have HOv2 := Lib.hid (overZ_any HQ2.out (by omega))
    have HB14 := Lib.hid (HB2.out.trans (B24.mono hs2))
    clear B24
    go_wp2_with fail
    refine HOv2.out.mono ?_
    rintro e w5 ⟨rfl, hb5⟩
    have hb5b : Below w1.heap.size w4 w5 := hb5.below (by omega) (fun k hk e => by have := (HLt2.out k e).1; omega)
    have HB15 := Lib.hid (HB14.out.trans hb5b)
    have hs5 := hb5b.size
    clear hb5 hb5b
    have HW5 := Lib.hid (HB1.out.trans (HB15.out.mono hs1))
    have HSi := Lib.hid (sameInts_any (HR1.out.below HB15.out).cellsAt (HRB.out w5 HW5.out).cellsAt (by omega) (by omega))
    simp only [decide_true] at HSi
    go_wp2_with fail
    refine HSi.out.mono ?_
    rintro e w6 ⟨rfl, hb6⟩
    have HW6 := Lib.hid (below_chain HW5.out (Nat.le_refl _) hb6)
    clear hb6
    go_wp2_with fail
    refine (HAw.out w6).mono ?_
    rintro e w7 ⟨rfl, hb7⟩
    have hW7 := below_chain HW6.out (Nat.le_refl _) hb7
    clear hb7
    go_wp2
    go_ret
    exact ⟨rfl, hW7⟩

set_option maxRecDepth 100000 in
set_option maxHeartbeats 4000000 in
theorem cosineLines_walk {w : World} {a : Option Addr} {len cap : Nat} {xs : List Int} (u x : Int) (hR : RowV w.heap.size w a len cap (intV xs)) :
    Calls Try.prog 4 #[.int .i64 u, .int .i64 x, .slice a len cap] w fun e w' => e = .returned (.bool true) ∧ Below w.heap.size w w' := by
  have HAw := Lib.hid (fun W => awake11_any W)
  have hl : xs.length = len := by have := hR.1; simpa using this
  by_cases hlen : 20 < len
  · have q1 : (20 : Int) < (len : Int) := by omega
    clear hR
    go_enter Try.func4, Try.ntmps4
    go_wp2_with (go_at_call 10; refine (HAw.out _).mono ?_; rintro e w' ⟨rfl, hb⟩)
    go_ret
    exact ⟨rfl, hb⟩
  · have q1 : ¬ (20 : Int) < (len : Int) := by omega
    have HCo := Lib.hid (copyInts_any hR (by omega))
    have HRB := Lib.hid (fun w' (hb : Below w.heap.size w w') => hR.below hb)
    have hz1 := lineR_size xs
    clear hR
    go_enter Try.func4, Try.ntmps4
    go_wp2_with fail
    refine HCo.out.mono ?_
    rintro e w1 ⟨v1, rfl, ho1, hb1⟩
    obtain ⟨a1, c1, rfl, hr1⟩ := rowV_own4 ho1
    simp only [List.length_map, hl] at hr1
    have HR1 := Lib.hid hr1
    have HB1 := Lib.hid hb1
    have hs1 := hb1.size
    clear hb1 ho1 hr1 HCo
    go_wp2_with fail
    refine (line11_any HR1.out (Nat.le_refl _) (by omega)).mono ?_
    rintro e w2 ⟨v2, rfl, ho2, hb2⟩
    have HO2 := Lib.hid ho2
    have HB2 := Lib.hid hb2
    have hs2 := hb2.size
    have HB2w := Lib.hid (HB1.out.trans (hb2.mono hs1))
    clear hb2 ho2
    go_wp2_with fail
    refine (r11line_any (HRB.out w2 HB2w.out) (by omega) (by omega)).mono ?_
    rintro e w3 ⟨v3, rfl, ho3, hb3⟩
    have HO3 := Lib.hid ho3
    have HB3 := Lib.hid hb3
    have hs3 := hb3.size
    have HB3w := Lib.hid (HB2w.out.trans (hb3.mono (by omega)))
    clear hb3 ho3
    have HB2k := HB3
    go_wp2_with fail
    refine (weight_any u x w3).mono ?_
    rintro e w31 ⟨rfl, hb31⟩
    have HB31 := Lib.hid hb31
    have hs31 := hb31.size
    clear hb31
    go_wp2_with fail
    refine (r11weight_any u x w31).mono ?_
    rintro e w32 ⟨rfl, hb32⟩
    have HB32 := Lib.hid (HB31.out.trans (hb32.mono hs31))
    have hs32 := HB32.out.size
    clear hb32 HB31
    have HSm1 := Lib.hid (sameInts_any ((HO2.out.cellsAt.below HB3.out).below HB32.out) ((cellsAt_own HO3.out).below HB32.out) (by omega) (by omega))
    simp only [decide_true] at HSm1
    obtain ⟨t2, ho2⟩ := HO2.out
    have HP2 := Lib.hid ho2
    clear ho2 HO2 HO3
    generalize (weightR u x).1 = g1 at *
    generalize (weightR u x).2 = g2 at *
    generalize (lineR xs).1 = e1 at *
    generalize (lineR xs).2 = b1 at *
    go_wp2_with fail
    refine HSm1.out.mono ?_
    rintro e w4 ⟨rfl, hb4⟩
    have HB4 := Lib.hid hb4
    have hs4 := hb4.size
    clear hb4
    have B24 := HB3.out.trans ((HB32.out.trans (HB4.out.mono hs32)).mono hs3)
    have HQ2 := Lib.hid (ownsRow_belowN HP2.out B24)
    have HLt2 := Lib.hid (fun k e => (HP2.out.lt k e))
    have HOv2 := Lib.hid (overZ_any HQ2.out (by omega))
    have HB14 := Lib.hid (HB2.out.trans (B24.mono hs2))
    clear B24
    go_wp2_with fail
    refine HOv2.out.mono ?_
    rintro e w5 ⟨rfl, hb5⟩
    have hb5b : Below w1.heap.size w4 w5 := hb5.below (by omega) (fun k hk e => by have := (HLt2.out k e).1; omega)
    have HB15 := Lib.hid (HB14.out.trans hb5b)
    have hs5 := hb5b.size
    clear hb5 hb5b
    have HW5 := Lib.hid (HB1.out.trans (HB15.out.mono hs1))
    have HSi := Lib.hid (sameInts_any (HR1.out.below HB15.out).cellsAt (HRB.out w5 HW5.out).cellsAt (by omega) (by omega))
    simp only [decide_true] at HSi
    go_wp2_with fail
    refine HSi.out.mono ?_
    rintro e w6 ⟨rfl, hb6⟩
    have HW6 := Lib.hid (below_chain HW5.out (Nat.le_refl _) hb6)
    clear hb6
    go_wp2_with fail
    refine (HAw.out w6).mono ?_
    rintro e w7 ⟨rfl, hb7⟩
    have hW7 := below_chain HW6.out (Nat.le_refl _) hb7
    clear hb7
    go_wp2
    go_ret
    exact ⟨rfl, hW7⟩

end Go.Proofs.Ytpmdeoiajnfabaa
