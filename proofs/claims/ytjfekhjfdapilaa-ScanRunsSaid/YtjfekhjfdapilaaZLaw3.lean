/- The walks of ScanSpreads, ScanRuns (praxinoscopelaw09). -/
import Derived.Test.YtjfekhjfdapilaaZLaw2
namespace Go.Proofs.Ytjfekhjfdapilaa
open Go.RowKit Go.Shelf
set_option linter.unusedVariables false

theorem overZ_any {w : World} {base n : Nat} {t : TypeId} {v : Value} {xs : List Value} (h : w.ownsRow base t 1 v n xs) (hl : n ≤ 1000000000) :
    Calls Try.prog 15 #[v] w fun e w' => e = .returned (.tuple #[]) ∧ Bar (fun k => v.ownBlock = some k) w w' := by
  rcases id h.2 with ⟨rfl, _⟩ | ⟨g, cap, cur, rfl, _⟩
  · refine (overInts_nil w).mono ?_
    rintro e w' ⟨rfl, rfl⟩
    exact ⟨rfl, Bar.refl _ _⟩
  · refine (overInts_some (cells0_own h) hl).mono ?_
    rintro e w' ⟨rfl, hb⟩
    exact ⟨rfl, ⟨hb.os, hb.tape, hb.output, hb.size, fun k hk hn => hb.block k hk (fun e => hn (by rw [e]; rfl))⟩⟩

set_option maxRecDepth 100000 in
set_option maxHeartbeats 4000000 in
theorem scanSpreads_walk {w : World} {a : Option Addr} {len cap : Nat} {ps : List (Int × Int)} (hR : RowP w.heap.size w a len cap ps) (first i : Int) :
    Calls Try.prog 3 #[.slice a len cap, .int .i64 first, .int .i64 i] w fun e w' => e = .returned (.bool true) ∧ Below w.heap.size w w' := by
  have HAw := Lib.hid (fun W => awake9_any W)
  have hl := hR.1
  by_cases hlen : 80 < len
  · have q1 : (80 : Int) < (len : Int) := by omega
    clear hR
    go_enter Try.func3, Try.ntmps3
    go_wp2_with (go_at_call 9; refine (HAw.out _).mono ?_; rintro e w' ⟨rfl, hb⟩)
    go_ret
    exact ⟨rfl, hb⟩
  · have q1 : ¬ (80 : Int) < (len : Int) := by omega
    have HSr := Lib.hid hR.src
    have HNc := Lib.hid hR.nocap
    have HRB := Lib.hid (fun w' (hb : Below w.heap.size w w') => hR.below hb)
    have hsl := sprR_len ps first
    clear hR
    go_enter Try.func3, Try.ntmps3
    go_wp2_with (first
      | (at_builtin; refine wpList_append_p rfl _ _ rfl w.heap.size _ 0 [] rfl (own_emptyP w) a len cap ps rfl (HSr.out.alloc _) HNc.out (by omega) (by simp) ?_; intro v1 w1 hap; obtain ⟨ho1, hb1⟩ := first_p hap; obtain ⟨a1, c1, rfl, hr1⟩ := rowP_own ho1; have HR1 := Lib.hid hr1; have HB1 := Lib.hid hb1; clear hap ho1 hb1 hr1; refine Hid.out ?_))
    refine Lib.hid ?_
    have hs1 := HB1.out.size
    go_wp2_with fail
    refine (spreadZ_any HR1.out (Nat.le_refl _) (by omega) first).mono ?_
    rintro e w2 ⟨v2, rfl, ho2, hb2⟩
    have HB2 := Lib.hid hb2
    have HO2 := Lib.hid ho2
    have hs2 := hb2.size
    have HB2w := Lib.hid (HB1.out.trans (hb2.mono hs1))
    clear hb2 ho2
    go_wp2_with fail
    refine (r9spread_any (HRB.out w2 HB2w.out) (by omega) (by omega) first).mono ?_
    rintro e w3 ⟨v3, rfl, ho3, hb3⟩
    have HB3 := Lib.hid hb3
    have HO3 := Lib.hid ho3
    have hs3 := hb3.size
    clear hb3 ho3
    go_wp2_with fail
    refine (placeZ_any i w3).mono ?_
    rintro e w4 ⟨rfl, hb4⟩
    have HB4 := Lib.hid hb4
    have hs4 := hb4.size
    clear hb4
    go_wp2_with fail
    refine (r9place_any i w4).mono ?_
    rintro e w5 ⟨rfl, hb5⟩
    have HB5 := Lib.hid hb5
    have hs5 := hb5.size
    clear hb5
    have B35 := HB4.out.trans (HB5.out.mono hs4)
    have B25 := HB3.out.trans (B35.mono hs3)
    have hc2 := HO2.out.cellsAt.below B25
    have hc3 := HO3.out.cellsAt.below B35
    have HSm := Lib.hid (sameInts_any hc2 hc3 (by omega) (by omega))
    have HB25 := Lib.hid B25
    clear B35 B25 hc2 hc3
    simp only [decide_true] at HSm
    generalize placeN i = pn at *
    generalize placeE i = pe at *
    generalize (sprR ps first).1 = er at *
    generalize (sprR ps first).2 = blk at *
    go_wp2_with (go_at_call 14; refine HSm.out.mono ?_; rintro e w6 ⟨rfl, hb6⟩; have HB6 := Lib.hid hb6; clear hb6; refine Hid.out ?_)
    refine Lib.hid ?_
    have hs6 := HB6.out.size
    have B26 := HB25.out.trans (HB6.out.mono (by omega))
    obtain ⟨t2, ho2⟩ := HO2.out
    have ho6 := ownsRow_belowN ho2 B26
    have hlt2 := fun k e => (ho2.lt k e)
    have HOv := Lib.hid (overZ_any ho6 (by omega))
    have HB26 := Lib.hid B26
    have HLt := Lib.hid hlt2
    clear B26 ho2 ho6 hlt2
    go_wp2_with fail
    refine HOv.out.mono ?_
    rintro e w7 ⟨rfl, hb7⟩
    have hb7b : Below w1.heap.size w6 w7 := hb7.below (by omega) (fun k hk e => by have := (HLt.out k e).1; omega)
    have HB17 := Lib.hid (HB2.out.trans ((HB26.out.mono hs2).trans hb7b))
    have hs7 := hb7b.size
    clear hb7 hb7b
    have HW7 := Lib.hid (HB1.out.trans (HB17.out.mono hs1))
    have HSp := Lib.hid (samePairs_any (HR1.out.below HB17.out).cellsP (HRB.out w7 HW7.out).cellsP (by omega) (by omega))
    simp only [decide_true] at HSp
    go_wp2_with fail
    refine HSp.out.mono ?_
    rintro e w8 ⟨rfl, hb8⟩
    have HW8 := Lib.hid (HW7.out.trans (hb8.mono (by omega)))
    clear hb8
    go_wp2_with fail
    refine (HAw.out w8).mono ?_
    rintro e w9 ⟨rfl, hb9⟩
    have hW9 := below_chain HW8.out (Nat.le_refl _) hb9
    clear hb9
    go_wp2
    go_ret
    exact ⟨rfl, hW9⟩

set_option maxRecDepth 100000 in
set_option maxHeartbeats 4000000 in
theorem scanRuns_walk {w : World} {a : Option Addr} {len cap : Nat} {xs : List Int} (hR : RowV w.heap.size w a len cap (intV xs)) (first : Int) :
    Calls Try.prog 4 #[.slice a len cap, .int .i64 first] w fun e w' => e = .returned (.bool true) ∧ Below w.heap.size w w' := by
  have HAw := Lib.hid (fun W => awake9_any W)
  have hl : xs.length = len := by have := hR.1; simpa using this
  by_cases hlen : 80 < len
  · have q1 : (80 : Int) < (len : Int) := by omega
    clear hR
    go_enter Try.func4, Try.ntmps4
    go_wp2_with (go_at_call 9; refine (HAw.out _).mono ?_; rintro e w' ⟨rfl, hb⟩)
    go_ret
    exact ⟨rfl, hb⟩
  · have q1 : ¬ (80 : Int) < (len : Int) := by omega
    have HCo := Lib.hid (copyInts_any hR (by omega))
    have HRB := Lib.hid (fun w' (hb : Below w.heap.size w w') => hR.below hb)
    have hsl := runsR_len xs first
    clear hR
    go_enter Try.func4, Try.ntmps4
    go_wp2_with fail
    refine HCo.out.mono ?_
    rintro e w1 ⟨v1, rfl, ho1, hb1⟩
    obtain ⟨a1, c1, rfl, hr1⟩ := rowV_own4 ho1
    simp only [List.length_map, hl] at hr1
    have HR1 := Lib.hid hr1
    have HB1 := Lib.hid hb1
    have hs1 := hb1.size
    clear hb1 ho1 hr1 HCo
    go_wp2_with fail
    refine (runsZ_any HR1.out (Nat.le_refl _) (by omega) first).mono ?_
    rintro e w2 ⟨v2, rfl, ho2, hb2⟩
    have HB2 := Lib.hid hb2
    have HO2 := Lib.hid ho2
    have hs2 := hb2.size
    have HB2w := Lib.hid (HB1.out.trans (hb2.mono hs1))
    clear hb2 ho2
    go_wp2_with fail
    refine (r9runs_any (HRB.out w2 HB2w.out) (by omega) (by omega) first).mono ?_
    rintro e w3 ⟨v3, rfl, ho3, hb3⟩
    have HB3 := Lib.hid hb3
    have hs3 := hb3.size
    have HSm := Lib.hid (samePairs_any ((cellsP_own HO2.out).below hb3) (cellsP_own ho3) (by omega) (by omega))
    clear hb3 ho3 HO2
    simp only [decide_true] at HSm
    generalize (runsR xs first).1 = er at *
    generalize (runsR xs first).2 = out at *
    go_wp2_with fail
    refine HSm.out.mono ?_
    rintro e w4 ⟨rfl, hb4⟩
    have HB14 := Lib.hid (HB2.out.trans ((HB3.out.trans (hb4.mono hs3)).mono hs2))
    have HW4 := Lib.hid (HB1.out.trans (HB14.out.mono hs1))
    clear hb4 HSm
    have HSi := Lib.hid (sameInts_any (HR1.out.below HB14.out).cellsAt (HRB.out w4 HW4.out).cellsAt (by omega) (by omega))
    simp only [decide_true] at HSi
    go_wp2_with fail
    refine HSi.out.mono ?_
    rintro e w5 ⟨rfl, hb5⟩
    have HW5 := Lib.hid (below_chain HW4.out (Nat.le_refl _) hb5)
    clear hb5
    go_wp2_with fail
    refine (HAw.out w5).mono ?_
    rintro e w6 ⟨rfl, hb6⟩
    have hW6 := below_chain HW5.out (Nat.le_refl _) hb6
    clear hb6
    go_wp2
    go_ret
    exact ⟨rfl, hW6⟩

end Go.Proofs.Ytjfekhjfdapilaa
