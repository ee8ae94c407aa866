/- The walk of ScanBack (praxinoscopelaw09). -/
import Derived.Test.YtjfekhjfdapilaaZLaw2
namespace Go.Proofs.Ytjfekhjfdapilaa
open Go.RowKit Go.Shelf
set_option linter.unusedVariables false

/-- a block by numbers, from a first place to a place -/
def fillN (xs : List Int) (first k : Nat) : List Int := (List.range 64).map fun i => if first ≤ i ∧ i < k then (xs[i]?.getD 0) % 255 - 127 else 0
theorem fillN_length (xs : List Int) (first k : Nat) : (fillN xs first k).length = 64 := by simp [fillN]
theorem fillN_start (xs : List Int) (first : Nat) : fillN xs first first = zeros64 := by
  unfold fillN zeros64
  apply List.ext_getElem?
  intro j
  rw [List.getElem?_map, List.getElem?_replicate]
  by_cases hj : j < 64
  · rw [List.getElem?_range hj, if_pos hj, Option.map_some, if_neg (by omega)]
  · rw [List.getElem?_eq_none (by simp; omega), if_neg hj]
    rfl
theorem fillN_set (xs : List Int) {first j : Nat} (h1 : first ≤ j) (h2 : j < 64) : (fillN xs first j).set j ((xs[j]?.getD 0) % 255 - 127) = fillN xs first (j + 1) := by
  apply List.ext_getElem?
  intro i
  rw [List.getElem?_set]
  have hl := fillN_length xs first j
  by_cases e : j = i
  · subst e
    rw [if_pos rfl, if_pos (by omega)]
    unfold fillN
    rw [List.getElem?_map, List.getElem?_range h2, Option.map_some, if_pos (by omega)]
  · rw [if_neg e]
    unfold fillN
    rw [List.getElem?_map, List.getElem?_map]
    by_cases hi : i < 64
    · rw [List.getElem?_range hi, Option.map_some, Option.map_some]
      by_cases h3 : first ≤ i ∧ i < j
      · rw [if_pos h3, if_pos (by omega)]
      · rw [if_neg h3, if_neg (by omega)]
    · rw [List.getElem?_eq_none (by simp; omega)]
      rfl
theorem fillN_in (xs : List Int) (first k : Nat) : (fillN xs first k).all inLv = true := by
  rw [List.all_eq_true]
  intro x hx
  unfold fillN at hx
  rw [List.mem_map] at hx
  obtain ⟨i, _, rfl⟩ := hx
  split
  · have h1 := Int.emod_nonneg (xs[i]?.getD 0) (b := 255) (by omega)
    have h2 := Int.emod_lt_of_pos (xs[i]?.getD 0) (b := 255) (by omega)
    simp [inLv]
    omega
  · rfl
theorem fillN_first (xs : List Int) {first k : Nat} (h : first = 1) : (fillN xs first k)[0]?.getD 0 = 0 := by
  subst h
  unfold fillN
  rw [List.getElem?_map, List.getElem?_range (by omega), Option.map_some, if_neg (by omega)]
  rfl

set_option maxRecDepth 100000 in
set_option maxHeartbeats 4000000 in
theorem scanBack_far {w : World} {a1 a2 : Option Addr} {len1 cap1 len2 cap2 : Nat} (second : Bool) (h : 70 < len1 ∨ 64 < len2) :
    Calls Try.prog 7 #[.slice a1 len1 cap1, .slice a2 len2 cap2, .bool second] w fun e w' => e = .returned (.bool true) ∧ Below w.heap.size w w' := by
  have HKn := Lib.hid (known9_any w)
  by_cases h1 : 70 < len1
  · have q1 : (70 : Int) < (len1 : Int) := by omega
    clear h
    go_enter Try.func7, Try.ntmps7
    go_wp2_with (go_at_call 5; refine HKn.out.mono ?_; rintro e w' ⟨rfl, hb⟩)
    go_ret
    exact ⟨rfl, hb⟩
  · have q1 : ¬ (70 : Int) < (len1 : Int) := by omega
    have q2 : (64 : Int) < (len2 : Int) := by omega
    clear h
    go_enter Try.func7, Try.ntmps7
    go_wp2_with (go_at_call 5; refine HKn.out.mono ?_; rintro e w' ⟨rfl, hb⟩)
    go_ret
    exact ⟨rfl, hb⟩

set_option maxRecDepth 100000 in
set_option maxHeartbeats 4000000 in
theorem scanBack_zero {w : World} {a1 a2 : Option Addr} {len1 cap1 len2 cap2 : Nat} {ps : List (Int × Int)} {xs : List Int} (hR : RowP w.heap.size w a1 len1 cap1 ps) (hX : RowV w.heap.size w a2 len2 cap2 (intV xs)) (hl1 : len1 ≤ 70) (hl2 : len2 ≤ 64) :
    Calls Try.prog 7 #[.slice a1 len1 cap1, .slice a2 len2 cap2, .bool false] w fun e w' => e = .returned (.bool true) ∧ Below w.heap.size w w' := by
  have HKn := Lib.hid (known9_any w)
  have hl := hR.1
  have hx : xs.length = len2 := by have := hX.1; simpa using this
  have q1 : ¬ (70 : Int) < (len1 : Int) := by omega
  have q2 : ¬ (64 : Int) < (len2 : Int) := by omega
  have HRB := Lib.hid (fun w' (hb : Below w.heap.size w w') => hR.below hb)
  have HXB := Lib.hid (fun w' (hb : Below w.heap.size w w') => hX.below hb)
  have hsl := sprR_len ps 0
  have HRun := Lib.hid (fun h => runs_of_spread (ps := ps) (first := 0) (by omega) h)
  have HLen := Lib.hid (fun h => spr_length ps 0 zeros64 rfl h)
  have HSR := Lib.hid (show sprR ps 0 = spr ps 0 zeros64 from rfl)
  have HPk := Lib.hid (fun x W => pick_any x 255 W (by omega) (by omega))
  have hmk := made64
  clear hR hX
  go_enter Try.func7, Try.ntmps7
  go_wp2_with fail
  refine HKn.out.mono ?_
  rintro e w1 ⟨rfl, hb1⟩
  have HB1 := Lib.hid hb1
  have hs1 := hb1.size
  clear hb1 HKn
  go_wp2_with fail
  refine (spreadZ_any (HRB.out w1 HB1.out) hs1 (by omega) 0).mono ?_
  rintro e w2 ⟨v2, rfl, ho2, hb2⟩
  have HO2 := Lib.hid ho2
  have HB2 := Lib.hid (HB1.out.trans (hb2.mono hs1))
  have hs2 := hb2.size
  clear hb2 ho2
  have key : ∀ (w3 : World), Below w.heap.size w w3 → ∃ q : Unit, True := fun _ _ => ⟨(), trivial⟩
  clear key
  by_cases he : (sprR ps 0).1 = 0
  · have hr := HRun.out he
    rw [show ((0 : Nat) : Int) = 0 from rfl] at hr
    obtain ⟨t2, ho2⟩ := HO2.out
    obtain ⟨b2, c2, rfl, hv2⟩ := rowV_own4 ho2
    rw [he]
    have HR9 := Lib.hid (runs9_lit hv2 (Nat.le_refl _) (by omega) 0 (HRB.out w2 HB2.out).cellsP (by omega) 0 hr)
    clear hr he ho2 hv2 HRun HLen HSR HO2
    generalize (sprR ps 0).2 = blk at *
    go_wp2_with fail
    refine HR9.out.mono ?_
    rintro e w3 ⟨rfl, hb3⟩
    have HB3 := Lib.hid (below_chain HB2.out (Nat.le_refl _) hb3)
    clear hb3 HR9 HB2 hs2
    have hs3 := HB3.out.size
    go_wp2_with fail
    have HN0 := Lib.hid (numsAt_new w3 3 zeros64)
    have HB4 := Lib.hid (ints64_new w3 3 zeros64)
    generalize w3.alloc (.cells (numsA zeros64) 3 (0, 0)) = w4 at *
    clear hmk
    generalize w3.heap.size = g at *
    go_loopw [12] (fun i wr => ∃ j : Nat, i = .int .i64 j ∧ 0 ≤ j ∧ j ≤ 64 ∧ NumsAt wr g 3 (fillN xs 0 j) ∧ Below g w3 wr) (fun i _ => 64 - (intOf i).toNat)
    case atStart => exact ⟨0, rfl, Nat.le_refl _, by omega, by rw [fillN_start]; exact HN0.out, HB4.out⟩
    case round =>
      obtain ⟨j, rfl, hj0, hj, hN, hB⟩ := hrel
      have HN := Lib.hid hN
      have HB := Lib.hid hB
      clear hN hB
      by_cases hj2 : j < len2
      · have HXr := Lib.hid (HXB.out wr (HB3.out.trans (HB.out.mono hs3)))
        obtain ⟨b', off, rfl, hlt, hc⟩ := HXr.out.cells (by omega)
        have x1 := hc j _ (intV_get (show j < xs.length by omega))
        have r1 : (j : Int) < (len2 : Int) := by omega
        have r2 : (0 : Int) ≤ (j : Int) := by omega
        have r3 : (j : Int) < 64 := by omega
        have HSt := Lib.hid (fillN_set xs hj0 (show j < 64 by omega))
        have h1 := Int.emod_nonneg (xs[j]?.getD 0) (b := 255) (by omega)
        have h2 := Int.emod_lt_of_pos (xs[j]?.getD 0) (b := 255) (by omega)
        have c2 := HN.out.cell (k := j) (by rw [fillN_length]; omega)
        have f2 := HN.out.frozen j
        generalize xs[j]?.getD 0 = x at *
        generalize hy : x % 255 = y at *
        have HPx := Lib.hid (fun W => HPk.out x W)
        rw [hy] at HPx
        clear hc hy
        go_wp2_with (go_at_call 24; refine (HPx.out _).mono ?_; rintro e w' ⟨rfl, rfl⟩)
        go_roundw
        case rel => exact ⟨j + 1, by go_num, by omega, by omega, by rw [← HSt.out]; exact HN.out.set j _, HB.out.setCell (p := ⟨g, j, none⟩) (Nat.le_refl _) _⟩
        case measure => simp [intOf]; omega
      · have r1 : ¬ (j : Int) < (len2 : Int) := by omega
        have h64 := fillN_length xs 0 j
        obtain ⟨p1, p2⟩ := spread_of_runs (c := fillN xs 0 j) (first := 0) (by omega) h64 (fillN_in xs 0 j) (fun h => fillN_first xs h)
        have hrl := runsR_len (fillN xs 0 j) 0
        rw [show ((0 : Nat) : Int) = 0 from rfl] at p1 p2
        generalize fillN xs 0 j = C at *
        have HB5 := Lib.hid (HB3.out.trans (HB.out.mono hs3))
        have hs5 := HB5.out.size
        have HRs := Lib.hid (runsZ_any (HN.out.rowV h64) (Nat.le_refl _) (by omega) 0)
        unfold RunsOut at HRs
        rw [p1] at HRs
        have HP2 := Lib.hid p2
        have HCa := Lib.hid (fun w' (hb : Below wr.heap.size wr w') => (HN.out.cellsAt h64).below hb)
        clear p1 p2 HB
        generalize (runsR C 0).2 = out at *
        go_wp2_with fail
        refine HRs.out.mono ?_
        rintro e w6 ⟨v6, rfl, ho6, hb6⟩
        obtain ⟨b6, c6, rfl, hr6⟩ := rowP_own ho6
        have HSp := Lib.hid (spreads9_lit hr6 (Nat.le_refl _) (by omega) 0 (HCa.out w6 hb6) (by omega) 0 HP2.out)
        have HB6 := Lib.hid (below_chain HB5.out (Nat.le_refl _) hb6)
        clear ho6 hb6 hr6 HRs
        go_wp2_with fail
        refine HSp.out.mono ?_
        rintro e w7 ⟨rfl, hb7⟩
        have hW7 := below_chain HB6.out (Nat.le_refl _) hb7
        clear hb7
        go_wp2
        go_ret
        exact ⟨rfl, hW7⟩
  · have he2 : ((sprR ps 0).1 == 0) = false := by simpa using he
    have HB3 := HB2
    have hs3 := HB3.out.size
    clear he HRun HLen HSR HO2 HB2 hs2
    generalize (sprR ps 0).1 = er at *
    generalize (sprR ps 0).2 = blk at *
    have hw3 : w2 = w2 := rfl
    revert HB3 hs3
    generalize w2 = w3
    intro HB3 hs3
    go_wp2_with fail
    have HN0 := Lib.hid (numsAt_new w3 3 zeros64)
    have HB4 := Lib.hid (ints64_new w3 3 zeros64)
    generalize w3.alloc (.cells (numsA zeros64) 3 (0, 0)) = w4 at *
    clear hmk
    generalize w3.heap.size = g at *
    go_loopw [12] (fun i wr => ∃ j : Nat, i = .int .i64 j ∧ 0 ≤ j ∧ j ≤ 64 ∧ NumsAt wr g 3 (fillN xs 0 j) ∧ Below g w3 wr) (fun i _ => 64 - (intOf i).toNat)
    case atStart => exact ⟨0, rfl, Nat.le_refl _, by omega, by rw [fillN_start]; exact HN0.out, HB4.out⟩
    case round =>
      obtain ⟨j, rfl, hj0, hj, hN, hB⟩ := hrel
      have HN := Lib.hid hN
      have HB := Lib.hid hB
      clear hN hB
      by_cases hj2 : j < len2
      · have HXr := Lib.hid (HXB.out wr (HB3.out.trans (HB.out.mono hs3)))
        obtain ⟨b', off, rfl, hlt, hc⟩ := HXr.out.cells (by omega)
        have x1 := hc j _ (intV_get (show j < xs.length by omega))
        have r1 : (j : Int) < (len2 : Int) := by omega
        have r2 : (0 : Int) ≤ (j : Int) := by omega
        have r3 : (j : Int) < 64 := by omega
        have HSt := Lib.hid (fillN_set xs hj0 (show j < 64 by omega))
        have h1 := Int.emod_nonneg (xs[j]?.getD 0) (b := 255) (by omega)
        have h2 := Int.emod_lt_of_pos (xs[j]?.getD 0) (b := 255) (by omega)
        have c2 := HN.out.cell (k := j) (by rw [fillN_length]; omega)
        have f2 := HN.out.frozen j
        generalize xs[j]?.getD 0 = x at *
        generalize hy : x % 255 = y at *
        have HPx := Lib.hid (fun W => HPk.out x W)
        rw [hy] at HPx
        clear hc hy
        go_wp2_with (go_at_call 24; refine (HPx.out _).mono ?_; rintro e w' ⟨rfl, rfl⟩)
        go_roundw
        case rel => exact ⟨j + 1, by go_num, by omega, by omega, by rw [← HSt.out]; exact HN.out.set j _, HB.out.setCell (p := ⟨g, j, none⟩) (Nat.le_refl _) _⟩
        case measure => simp [intOf]; omega
      · have r1 : ¬ (j : Int) < (len2 : Int) := by omega
        have h64 := fillN_length xs 0 j
        obtain ⟨p1, p2⟩ := spread_of_runs (c := fillN xs 0 j) (first := 0) (by omega) h64 (fillN_in xs 0 j) (fun h => fillN_first xs h)
        have hrl := runsR_len (fillN xs 0 j) 0
        rw [show ((0 : Nat) : Int) = 0 from rfl] at p1 p2
        generalize fillN xs 0 j = C at *
        have HB5 := Lib.hid (HB3.out.trans (HB.out.mono hs3))
        have hs5 := HB5.out.size
        have HRs := Lib.hid (runsZ_any (HN.out.rowV h64) (Nat.le_refl _) (by omega) 0)
        unfold RunsOut at HRs
        rw [p1] at HRs
        have HP2 := Lib.hid p2
        have HCa := Lib.hid (fun w' (hb : Below wr.heap.size wr w') => (HN.out.cellsAt h64).below hb)
        clear p1 p2 HB
        generalize (runsR C 0).2 = out at *
        go_wp2_with fail
        refine HRs.out.mono ?_
        rintro e w6 ⟨v6, rfl, ho6, hb6⟩
        obtain ⟨b6, c6, rfl, hr6⟩ := rowP_own ho6
        have HSp := Lib.hid (spreads9_lit hr6 (Nat.le_refl _) (by omega) 0 (HCa.out w6 hb6) (by omega) 0 HP2.out)
        have HB6 := Lib.hid (below_chain HB5.out (Nat.le_refl _) hb6)
        clear ho6 hb6 hr6 HRs
        go_wp2_with fail
        refine HSp.out.mono ?_
        rintro e w7 ⟨rfl, hb7⟩
        have hW7 := below_chain HB6.out (Nat.le_refl _) hb7
        clear hb7
        go_wp2
        go_ret
        exact ⟨rfl, hW7⟩

set_option maxRecDepth 100000 in
set_option maxHeartbeats 4000000 in
theorem scanBack_one {w : World} {a1 a2 : Option Addr} {len1 cap1 len2 cap2 : Nat} {ps : List (Int × Int)} {xs : List Int} (hR : RowP w.heap.size w a1 len1 cap1 ps) (hX : RowV w.heap.size w a2 len2 cap2 (intV xs)) (hl1 : len1 ≤ 70) (hl2 : len2 ≤ 64) :
    Calls Try.prog 7 #[.slice a1 len1 cap1, .slice a2 len2 cap2, .bool true] w fun e w' => e = .returned (.bool true) ∧ Below w.heap.size w w' := by
  have HKn := Lib.hid (known9_any w)
  have hl := hR.1
  have hx : xs.length = len2 := by have := hX.1; simpa using this
  have q1 : ¬ (70 : Int) < (len1 : Int) := by omega
  have q2 : ¬ (64 : Int) < (len2 : Int) := by omega
  have HRB := Lib.hid (fun w' (hb : Below w.heap.size w w') => hR.below hb)
  have HXB := Lib.hid (fun w' (hb : Below w.heap.size w w') => hX.below hb)
  have hsl := sprR_len ps 1
  have HRun := Lib.hid (fun h => runs_of_spread (ps := ps) (first := 1) (by omega) h)
  have HLen := Lib.hid (fun h => spr_length ps 1 zeros64 rfl h)
  have HSR := Lib.hid (show sprR ps 1 = spr ps 1 zeros64 from rfl)
  have HPk := Lib.hid (fun x W => pick_any x 255 W (by omega) (by omega))
  have hmk := made64
  clear hR hX
  go_enter Try.func7, Try.ntmps7
  go_wp2_with fail
  refine HKn.out.mono ?_
  rintro e w1 ⟨rfl, hb1⟩
  have HB1 := Lib.hid hb1
  have hs1 := hb1.size
  clear hb1 HKn
  go_wp2_with fail
  refine (spreadZ_any (HRB.out w1 HB1.out) hs1 (by omega) 1).mono ?_
  rintro e w2 ⟨v2, rfl, ho2, hb2⟩
  have HO2 := Lib.hid ho2
  have HB2 := Lib.hid (HB1.out.trans (hb2.mono hs1))
  have hs2 := hb2.size
  clear hb2 ho2
  have key : ∀ (w3 : World), Below w.heap.size w w3 → ∃ q : Unit, True := fun _ _ => ⟨(), trivial⟩
  clear key
  by_cases he : (sprR ps 1).1 = 0
  · have hr := HRun.out he
    rw [show ((1 : Nat) : Int) = 1 from rfl] at hr
    obtain ⟨t2, ho2⟩ := HO2.out
    obtain ⟨b2, c2, rfl, hv2⟩ := rowV_own4 ho2
    rw [he]
    have HR9 := Lib.hid (runs9_lit hv2 (Nat.le_refl _) (by omega) 1 (HRB.out w2 HB2.out).cellsP (by omega) 0 hr)
    clear hr he ho2 hv2 HRun HLen HSR HO2
    generalize (sprR ps 1).2 = blk at *
    go_wp2_with fail
    refine HR9.out.mono ?_
    rintro e w3 ⟨rfl, hb3⟩
    have HB3 := Lib.hid (below_chain HB2.out (Nat.le_refl _) hb3)
    clear hb3 HR9 HB2 hs2
    have hs3 := HB3.out.size
    go_wp2_with fail
    have HN0 := Lib.hid (numsAt_new w3 3 zeros64)
    have HB4 := Lib.hid (ints64_new w3 3 zeros64)
    generalize w3.alloc (.cells (numsA zeros64) 3 (0, 0)) = w4 at *
    clear hmk
    generalize w3.heap.size = g at *
    go_loopw [12] (fun i wr => ∃ j : Nat, i = .int .i64 j ∧ 1 ≤ j ∧ j ≤ 64 ∧ NumsAt wr g 3 (fillN xs 1 j) ∧ Below g w3 wr) (fun i _ => 64 - (intOf i).toNat)
    case atStart => exact ⟨1, rfl, Nat.le_refl _, by omega, by rw [fillN_start]; exact HN0.out, HB4.out⟩
    case round =>
      obtain ⟨j, rfl, hj0, hj, hN, hB⟩ := hrel
      have HN := Lib.hid hN
      have HB := Lib.hid hB
      clear hN hB
      by_cases hj2 : j < len2
      · have HXr := Lib.hid (HXB.out wr (HB3.out.trans (HB.out.mono hs3)))
        obtain ⟨b', off, rfl, hlt, hc⟩ := HXr.out.cells (by omega)
        have x1 := hc j _ (intV_get (show j < xs.length by omega))
        have r1 : (j : Int) < (len2 : Int) := by omega
        have r2 : (0 : Int) ≤ (j : Int) := by omega
        have r3 : (j : Int) < 64 := by omega
        have HSt := Lib.hid (fillN_set xs hj0 (show j < 64 by omega))
        have h1 := Int.emod_nonneg (xs[j]?.getD 0) (b := 255) (by omega)
        have h2 := Int.emod_lt_of_pos (xs[j]?.getD 0) (b := 255) (by omega)
        have c2 := HN.out.cell (k := j) (by rw [fillN_length]; omega)
        have f2 := HN.out.frozen j
        generalize xs[j]?.getD 0 = x at *
        generalize hy : x % 255 = y at *
        have HPx := Lib.hid (fun W => HPk.out x W)
        rw [hy] at HPx
        clear hc hy
        go_wp2_with (go_at_call 24; refine (HPx.out _).mono ?_; rintro e w' ⟨rfl, rfl⟩)
        go_roundw
        case rel => exact ⟨j + 1, by go_num, by omega, by omega, by rw [← HSt.out]; exact HN.out.set j _, HB.out.setCell (p := ⟨g, j, none⟩) (Nat.le_refl _) _⟩
        case measure => simp [intOf]; omega
      · have r1 : ¬ (j : Int) < (len2 : Int) := by omega
        have h64 := fillN_length xs 1 j
        obtain ⟨p1, p2⟩ := spread_of_runs (c := fillN xs 1 j) (first := 1) (by omega) h64 (fillN_in xs 1 j) (fun h => fillN_first xs h)
        have hrl := runsR_len (fillN xs 1 j) 1
        rw [show ((1 : Nat) : Int) = 1 from rfl] at p1 p2
        generalize fillN xs 1 j = C at *
        have HB5 := Lib.hid (HB3.out.trans (HB.out.mono hs3))
        have hs5 := HB5.out.size
        have HRs := Lib.hid (runsZ_any (HN.out.rowV h64) (Nat.le_refl _) (by omega) 1)
        unfold RunsOut at HRs
        rw [p1] at HRs
        have HP2 := Lib.hid p2
        have HCa := Lib.hid (fun w' (hb : Below wr.heap.size wr w') => (HN.out.cellsAt h64).below hb)
        clear p1 p2 HB
        generalize (runsR C 1).2 = out at *
        go_wp2_with fail
        refine HRs.out.mono ?_
        rintro e w6 ⟨v6, rfl, ho6, hb6⟩
        obtain ⟨b6, c6, rfl, hr6⟩ := rowP_own ho6
        have HSp := Lib.hid (spreads9_lit hr6 (Nat.le_refl _) (by omega) 1 (HCa.out w6 hb6) (by omega) 0 HP2.out)
        have HB6 := Lib.hid (below_chain HB5.out (Nat.le_refl _) hb6)
        clear ho6 hb6 hr6 HRs
        go_wp2_with fail
        refine HSp.out.mono ?_
        rintro e w7 ⟨rfl, hb7⟩
        have hW7 := below_chain HB6.out (Nat.le_refl _) hb7
        clear hb7
        go_wp2
        go_ret
        exact ⟨rfl, hW7⟩
  · have he2 : ((sprR ps 1).1 == 0) = false := by simpa using he
    have HB3 := HB2
    have hs3 := HB3.out.size
    clear he HRun HLen HSR HO2 HB2 hs2
    generalize (sprR ps 1).1 = er at *
    generalize (sprR ps 1).2 = blk at *
    have hw3 : w2 = w2 := rfl
    revert HB3 hs3
    generalize w2 = w3
    intro HB3 hs3
    go_wp2_with fail
    have HN0 := Lib.hid (numsAt_new w3 3 zeros64)
    have HB4 := Lib.hid (ints64_new w3 3 zeros64)
    generalize w3.alloc (.cells (numsA zeros64) 3 (0, 0)) = w4 at *
    clear hmk
    generalize w3.heap.size = g at *
    go_loopw [12] (fun i wr => ∃ j : Nat, i = .int .i64 j ∧ 1 ≤ j ∧ j ≤ 64 ∧ NumsAt wr g 3 (fillN xs 1 j) ∧ Below g w3 wr) (fun i _ => 64 - (intOf i).toNat)
    case atStart => exact ⟨1, rfl, Nat.le_refl _, by omega, by rw [fillN_start]; exact HN0.out, HB4.out⟩
    case round =>
      obtain ⟨j, rfl, hj0, hj, hN, hB⟩ := hrel
      have HN := Lib.hid hN
      have HB := Lib.hid hB
      clear hN hB
      by_cases hj2 : j < len2
      · have HXr := Lib.hid (HXB.out wr (HB3.out.trans (HB.out.mono hs3)))
        obtain ⟨b', off, rfl, hlt, hc⟩ := HXr.out.cells (by omega)
        have x1 := hc j _ (intV_get (show j < xs.length by omega))
        have r1 : (j : Int) < (len2 : Int) := by omega
        have r2 : (0 : Int) ≤ (j : Int) := by omega
        have r3 : (j : Int) < 64 := by omega
        have HSt := Lib.hid (fillN_set xs hj0 (show j < 64 by omega))
        have h1 := Int.emod_nonneg (xs[j]?.getD 0) (b := 255) (by omega)
        have h2 := Int.emod_lt_of_pos (xs[j]?.getD 0) (b := 255) (by omega)
        have c2 := HN.out.cell (k := j) (by rw [fillN_length]; omega)
        have f2 := HN.out.frozen j
        generalize xs[j]?.getD 0 = x at *
        generalize hy : x % 255 = y at *
        have HPx := Lib.hid (fun W => HPk.out x W)
        rw [hy] at HPx
        clear hc hy
        go_wp2_with (go_at_call 24; refine (HPx.out _).mono ?_; rintro e w' ⟨rfl, rfl⟩)
        go_roundw
        case rel => exact ⟨j + 1, by go_num, by omega, by omega, by rw [← HSt.out]; exact HN.out.set j _, HB.out.setCell (p := ⟨g, j, none⟩) (Nat.le_refl _) _⟩
        case measure => simp [intOf]; omega
      · have r1 : ¬ (j : Int) < (len2 : Int) := by omega
        have h64 := fillN_length xs 1 j
        obtain ⟨p1, p2⟩ := spread_of_runs (c := fillN xs 1 j) (first := 1) (by omega) h64 (fillN_in xs 1 j) (fun h => fillN_first xs h)
        have hrl := runsR_len (fillN xs 1 j) 1
        rw [show ((1 : Nat) : Int) = 1 from rfl] at p1 p2
        generalize fillN xs 1 j = C at *
        have HB5 := Lib.hid (HB3.out.trans (HB.out.mono hs3))
        have hs5 := HB5.out.size
        have HRs := Lib.hid (runsZ_any (HN.out.rowV h64) (Nat.le_refl _) (by omega) 1)
        unfold RunsOut at HRs
        rw [p1] at HRs
        have HP2 := Lib.hid p2
        have HCa := Lib.hid (fun w' (hb : Below wr.heap.size wr w') => (HN.out.cellsAt h64).below hb)
        clear p1 p2 HB
        generalize (runsR C 1).2 = out at *
        go_wp2_with fail
        refine HRs.out.mono ?_
        rintro e w6 ⟨v6, rfl, ho6, hb6⟩
        obtain ⟨b6, c6, rfl, hr6⟩ := rowP_own ho6
        have HSp := Lib.hid (spreads9_lit hr6 (Nat.le_refl _) (by omega) 1 (HCa.out w6 hb6) (by omega) 0 HP2.out)
        have HB6 := Lib.hid (below_chain HB5.out (Nat.le_refl _) hb6)
        clear ho6 hb6 hr6 HRs
        go_wp2_with fail
        refine HSp.out.mono ?_
        rintro e w7 ⟨rfl, hb7⟩
        have hW7 := below_chain HB6.out (Nat.le_refl _) hb7
        clear hb7
        go_wp2
        go_ret
        exact ⟨rfl, hW7⟩


theorem scanBack_walk {w : World} {a1 a2 : Option Addr} {len1 cap1 len2 cap2 : Nat} {ps : List (Int × Int)} {xs : List Int} (second : Bool) (hR : RowP w.heap.size w a1 len1 cap1 ps) (hX : RowV w.heap.size w a2 len2 cap2 (intV xs)) :
    Calls Try.prog 7 #[.slice a1 len1 cap1, .slice a2 len2 cap2, .bool second] w fun e w' => e = .returned (.bool true) ∧ Below w.heap.size w w' := by
  by_cases h : 70 < len1 ∨ 64 < len2
  · exact scanBack_far second h
  · cases second with
    | false => exact scanBack_zero hR hX (by omega) (by omega)
    | true => exact scanBack_one hR hX (by omega) (by omega)

end Go.Proofs.Ytjfekhjfdapilaa
