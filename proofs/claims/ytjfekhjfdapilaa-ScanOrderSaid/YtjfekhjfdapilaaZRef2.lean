/- The reference's scan (praxinoscoperef09): Runs. -/
import Derived.Test.YtjfekhjfdapilaaZRef
namespace Go.Proofs.Ytjfekhjfdapilaa
open Go.RowKit Go.Shelf
set_option linter.unusedVariables false

set_option maxRecDepth 100000 in
set_option maxHeartbeats 4000000 in
theorem r9runs_any {n₀ : Nat} {w : World} {av : Option Addr} {len cap : Nat} {xs : List Int} (hR : RowV n₀ w av len cap (intV xs)) (hn : n₀ ≤ w.heap.size) (hlen : len ≤ 1000000) (first : Int) :
    Calls Try.prog 19 #[.slice av len cap, .int .i64 first] w fun e w' => RunsOut w w' e (runsR xs first) := by
  have hxl : xs.length = len := by have := hR.1; simpa using this
  obtain ⟨i0, hi, hz0, hz1, hz2⟩ := info_parts Try.info39z
  by_cases h : first = 0 ∨ first = 1
  · have hk2 : first = 0 ∨ first = 1 := h
    by_cases hl : len = 64
    · subst hl
      obtain ⟨b, off, rfl, hb, hc⟩ := hR.cells (by omega)
      have hb2 : b < w.heap.size := by omega
      have hc0 := hc 0 _ (intV_get (show 0 < xs.length by omega))
      rw [Nat.add_zero] at hc0
      have HC := Lib.hid hc
      have HO := Lib.hid (r9order_any w)
      by_cases h0 : first = 1 ∧ xs[0]?.getD 0 ≠ 0
      · have hr : runsR xs first = (2, []) := by unfold runsR; rw [if_pos h, if_pos (.inr h0)]
        rw [hr]
        obtain ⟨rfl, h1⟩ := h0
        have e1 : (xs[0]?.getD 0 != 0) = true := by simpa using h1
        clear hr h1 h hR hc hk2
        generalize xs[0]?.getD 0 = x0 at *
        go_enter Try.func19, Try.ntmps19
        go_wp2
        go_ret2
        exact runsOut_nil _ _
      · obtain ⟨k, rfl⟩ : ∃ k : Nat, first = k := ⟨first.toNat, by omega⟩
        have hk : k ≤ 1 := by omega
        have hz : k = 1 → xs[0]?.getD 0 = 0 := fun e => by
          false_or_by_contra
          exact h0 ⟨by omega, by assumption⟩
        have hrr : runsR xs k = if xs.all inLv = false then (10, []) else (0, (runsL xs (0, []) (orderL.drop k)).2) := by
          unfold runsR
          rw [if_pos h, if_neg (by rintro (e | e); exact e hxl; exact h0 e), Int.toNat_natCast]
        obtain ⟨R, hRe⟩ : ∃ R, runsR xs k = R := ⟨_, rfl⟩
        rw [hRe]
        rw [hrr] at hRe
        obtain ⟨c0, hc0'⟩ : ∃ c0, xs[0]?.getD 0 = c0 := ⟨_, rfl⟩
        rw [hc0'] at hc0 hz h0
        have hk3 : ((k : Int) != 0) = false ∧ ((k : Int) == 1) = false ∨ ((k : Int) != 0) = true ∧ ((k : Int) != 1) = false ∧ ((k : Int) == 1) = true ∧ (c0 != 0) = false := by
          by_cases e : k = 0
          · subst e; exact .inl ⟨rfl, rfl⟩
          · obtain rfl : k = 1 := by omega
            exact .inr ⟨rfl, rfl, rfl, by simpa using hz rfl⟩
        have hfin : ∃ RR, (runsL xs (0, []) (orderL.drop k)).2 = RR := ⟨_, rfl⟩
        obtain ⟨RR, hRR⟩ := hfin
        rw [hRR] at hRe
        have HRR := Lib.hid hRR
        have HAll : Hid ((∀ m, m < xs.length → inLv (xs[m]?.getD 0) = true) → R = (0, RR)) := fun h => by rw [← hRe, (all_in xs).2 h]; rfl
        have HNot : Hid (∀ j, j < xs.length → inLv (xs[j]?.getD 0) = false → R = (10, [])) := fun j hj h => by rw [← hRe, not_all_in hj h]; rfl
        clear hRe hrr hR hc h hz h0 hc0' hk2 hRR
        go_enter Try.func19, Try.ntmps19
        rcases hk3 with ⟨k0, k1⟩ | ⟨k0, k1, k4, k5⟩
        · go_wp2_with fail
          clear hc0
          go_loop [6] (fun i => ∃ j : Nat, i = .int .i64 j ∧ j ≤ 64 ∧ ∀ m, m < j → inLv (xs[m]?.getD 0) = true) (fun i => 64 - (intOf i).toNat)
          case atStart => exact ⟨0, rfl, by omega, fun m hm => by omega⟩
          case round =>
            obtain ⟨j, rfl, hj, hno⟩ := hrel
            have HNo := Lib.hid hno
            clear hno
            by_cases hj2 : j < 64
            · have x1 := HC.out j _ (intV_get (show j < xs.length by omega))
              have hA := HNot.out j (by omega)
              have q1 : (j : Int) < 64 := by omega
              have q2 : (0 : Int) ≤ (j : Int) := by omega
              have HSt : Hid (inLv (xs[j]?.getD 0) = true → ∀ m, m < j + 1 → inLv (xs[m]?.getD 0) = true) := by
                show inLv (xs[j]?.getD 0) = true → ∀ m, m < j + 1 → inLv (xs[m]?.getD 0) = true
                intro h m hm
                by_cases e : m = j
                · rw [e]; exact h
                · exact HNo.out m (by omega)
              generalize xs[j]?.getD 0 = x at *
              by_cases l1 : x < -127
              · have HA := Lib.hid (hA (by simp [inLv]; omega))
                clear hA HSt
                go_wp2
                go_ret2
                rw [HA.out]
                exact runsOut_nil _ _
              · by_cases l2 : 127 < x
                · have HA := Lib.hid (hA (by simp [inLv]; omega))
                  clear hA HSt
                  go_wp2
                  go_ret2
                  rw [HA.out]
                  exact runsOut_nil _ _
                · have HS2 := Lib.hid (HSt.out (by simp [inLv]; omega))
                  clear hA HSt
                  go_wp2
                  go_round
                  case rel => exact ⟨j + 1, by go_num, by omega, HS2.out⟩
                  case measure => simp [intOf]; omega
            · obtain rfl : j = 64 := by omega
              have HA := Lib.hid (HAll.out (fun m hm => HNo.out m (by omega)))
              have HB1 := Lib.hid (ints64_new w 3 orderI)
              have HT1 := Lib.hid (numsAt_new w 3 orderI)
              have hsz1 : (w.alloc (.cells (numsA orderI) 3 (0, 0))).heap.size = w.heap.size + 1 := by simp
              clear HNot HAll
              go_wp2_with (go_at_call 27; refine HO.out.mono ?_; rintro e w' ⟨rfl, rfl⟩)
              generalize w.alloc (.cells (numsA orderI) 3 (0, 0)) = w1 at *
              go_loopw [7, 8, 10] (fun lv run i wr => ∃ (j : Nat) (rn : Int) (out : List (Int × Int)), i = .int .i64 j ∧ j ≤ 64 ∧ run = .int .i64 rn ∧ 0 ≤ rn ∧ rn ≤ j ∧ out.length ≤ j ∧ (runsL xs (rn, out) (orderL.drop j)).2 = RR ∧ wr.ownsRow w1.heap.size 39 2 lv out.length (cellsQ out) ∧ Below w1.heap.size w1 wr) (fun _ _ i _ => 64 - (intOf i).toNat)
              case atStart => exact ⟨k, 0, [], rfl, by omega, rfl, by omega, by omega, by simp, HRR.out, World.ownsRow_nil _ _ _ _, Below.refl _ _⟩
              case round =>
                obtain ⟨j, rn, out, rfl, hj, rfl, r0, r1, ho, hrest, hown, hB⟩ := hrel
                have HOwn := Lib.hid hown
                have HB := Lib.hid hB
                have hbs := hB.size
                clear hown hB
                by_cases hj2 : j < 64
                · rw [orderL_drop hj2, runsL_cons] at hrest
                  have c1 := (HT1.out.below HB.out (by omega)).cell (k := j) (by rw [orderI_length]; exact hj2)
                  rw [orderI_get hj2] at c1
                  have hp := ordAt_lt j
                  have p0 : (0 : Int) ≤ ((ordAt j : Nat) : Int) := by omega
                  have p1 : ((ordAt j : Nat) : Int) < 64 := by omega
                  have q1 : (j : Int) < 64 := by omega
                  have q2 : (0 : Int) ≤ (j : Int) := by omega
                  have x0 := HC.out (ordAt j) _ (intV_get (show ordAt j < xs.length by omega))
                  have x1 := ((HB1.out.trans (HB.out.mono (by omega))).cell (p := ⟨b, off + ordAt j, none⟩) hb2).trans x0
                  unfold stepR at hrest
                  have HRest := Lib.hid hrest
                  clear x0 hrest
                  generalize xs[ordAt j]?.getD 0 = x at *
                  generalize ordAt j = oj at *
                  by_cases hx : x = 0
                  · subst hx
                    rw [if_pos rfl] at HRest
                    go_wp2
                    go_roundw
                    case rel => exact ⟨j + 1, rn + 1, out, by go_num, by omega, by go_num, by omega, by omega, by omega, HRest.out, HOwn.out, HB.out⟩
                    case measure => simp [intOf]; omega
                  · rw [if_neg hx] at HRest
                    have e0 : (x == 0) = false := by simpa using hx
                    clear hx
                    go_wp2_with (at_builtin; refine wpList_append_p rfl _ _ rfl w1.heap.size _ out.length out rfl (ownsRow_belowN HOwn.out ((Below.refl _ wr).alloc (Nat.le_refl _) _)) (some ⟨wr.heap.size, 0, none⟩) 1 1 [(rn, x)] rfl (srcP_one wr rn x) (fun e => nomatch e) (by omega) (by simp; omega) ?_; intro v2 w2 hap; have HA2 := Lib.hid hap; clear hap)
                    have hl2 : (out ++ [(rn, x)]).length = out.length + 1 := by simp
                    go_roundw
                    case rel =>
                      refine ⟨j + 1, 0, out ++ [(rn, x)], by go_num, by omega, rfl, by omega, by omega, by omega, HRest.out, ?_, ?_⟩
                      · rw [hl2]; exact HA2.out.1
                      · exact (HB.out.alloc hbs _).grown HA2.out.2.1 (by simp; omega) (fun k' e => (HOwn.out.lt k' e).1)
                    case measure => simp [intOf]; omega
                · obtain rfl : j = 64 := by omega
                  have hout : out = RR := by rw [← hrest]; rfl
                  subst hout
                  clear hrest
                  go_wp2
                  go_ret2
                  rw [HA.out]
                  exact ⟨_, rfl, ownsRow_baseN HOwn.out (by omega), HB1.out.trans (HB.out.mono (by omega))⟩
        · go_wp2_with fail
          clear hc0
          go_loop [6] (fun i => ∃ j : Nat, i = .int .i64 j ∧ j ≤ 64 ∧ ∀ m, m < j → inLv (xs[m]?.getD 0) = true) (fun i => 64 - (intOf i).toNat)
          case atStart => exact ⟨0, rfl, by omega, fun m hm => by omega⟩
          case round =>
            obtain ⟨j, rfl, hj, hno⟩ := hrel
            have HNo := Lib.hid hno
            clear hno
            by_cases hj2 : j < 64
            · have x1 := HC.out j _ (intV_get (show j < xs.length by omega))
              have hA := HNot.out j (by omega)
              have q1 : (j : Int) < 64 := by omega
              have q2 : (0 : Int) ≤ (j : Int) := by omega
              have HSt : Hid (inLv (xs[j]?.getD 0) = true → ∀ m, m < j + 1 → inLv (xs[m]?.getD 0) = true) := by
                show inLv (xs[j]?.getD 0) = true → ∀ m, m < j + 1 → inLv (xs[m]?.getD 0) = true
                intro h m hm
                by_cases e : m = j
                · rw [e]; exact h
                · exact HNo.out m (by omega)
              generalize xs[j]?.getD 0 = x at *
              by_cases l1 : x < -127
              · have HA := Lib.hid (hA (by simp [inLv]; omega))
                clear hA HSt
                go_wp2
                go_ret2
                rw [HA.out]
                exact runsOut_nil _ _
              · by_cases l2 : 127 < x
                · have HA := Lib.hid (hA (by simp [inLv]; omega))
                  clear hA HSt
                  go_wp2
                  go_ret2
                  rw [HA.out]
                  exact runsOut_nil _ _
                · have HS2 := Lib.hid (HSt.out (by simp [inLv]; omega))
                  clear hA HSt
                  go_wp2
                  go_round
                  case rel => exact ⟨j + 1, by go_num, by omega, HS2.out⟩
                  case measure => simp [intOf]; omega
            · obtain rfl : j = 64 := by omega
              have HA := Lib.hid (HAll.out (fun m hm => HNo.out m (by omega)))
              have HB1 := Lib.hid (ints64_new w 3 orderI)
              have HT1 := Lib.hid (numsAt_new w 3 orderI)
              have hsz1 : (w.alloc (.cells (numsA orderI) 3 (0, 0))).heap.size = w.heap.size + 1 := by simp
              clear HNot HAll
              go_wp2_with (go_at_call 27; refine HO.out.mono ?_; rintro e w' ⟨rfl, rfl⟩)
              generalize w.alloc (.cells (numsA orderI) 3 (0, 0)) = w1 at *
              go_loopw [7, 8, 10] (fun lv run i wr => ∃ (j : Nat) (rn : Int) (out : List (Int × Int)), i = .int .i64 j ∧ j ≤ 64 ∧ run = .int .i64 rn ∧ 0 ≤ rn ∧ rn ≤ j ∧ out.length ≤ j ∧ (runsL xs (rn, out) (orderL.drop j)).2 = RR ∧ wr.ownsRow w1.heap.size 39 2 lv out.length (cellsQ out) ∧ Below w1.heap.size w1 wr) (fun _ _ i _ => 64 - (intOf i).toNat)
              case atStart => exact ⟨k, 0, [], rfl, by omega, rfl, by omega, by omega, by simp, HRR.out, World.ownsRow_nil _ _ _ _, Below.refl _ _⟩
              case round =>
                obtain ⟨j, rn, out, rfl, hj, rfl, r0, r1, ho, hrest, hown, hB⟩ := hrel
                have HOwn := Lib.hid hown
                have HB := Lib.hid hB
                have hbs := hB.size
                clear hown hB
                by_cases hj2 : j < 64
                · rw [orderL_drop hj2, runsL_cons] at hrest
                  have c1 := (HT1.out.below HB.out (by omega)).cell (k := j) (by rw [orderI_length]; exact hj2)
                  rw [orderI_get hj2] at c1
                  have hp := ordAt_lt j
                  have p0 : (0 : Int) ≤ ((ordAt j : Nat) : Int) := by omega
                  have p1 : ((ordAt j : Nat) : Int) < 64 := by omega
                  have q1 : (j : Int) < 64 := by omega
                  have q2 : (0 : Int) ≤ (j : Int) := by omega
                  have x0 := HC.out (ordAt j) _ (intV_get (show ordAt j < xs.length by omega))
                  have x1 := ((HB1.out.trans (HB.out.mono (by omega))).cell (p := ⟨b, off + ordAt j, none⟩) hb2).trans x0
                  unfold stepR at hrest
                  have HRest := Lib.hid hrest
                  clear x0 hrest
                  generalize xs[ordAt j]?.getD 0 = x at *
                  generalize ordAt j = oj at *
                  by_cases hx : x = 0
                  · subst hx
                    rw [if_pos rfl] at HRest
                    go_wp2
                    go_roundw
                    case rel => exact ⟨j + 1, rn + 1, out, by go_num, by omega, by go_num, by omega, by omega, by omega, HRest.out, HOwn.out, HB.out⟩
                    case measure => simp [intOf]; omega
                  · rw [if_neg hx] at HRest
                    have e0 : (x == 0) = false := by simpa using hx
                    clear hx
                    go_wp2_with (at_builtin; refine wpList_append_p rfl _ _ rfl w1.heap.size _ out.length out rfl (ownsRow_belowN HOwn.out ((Below.refl _ wr).alloc (Nat.le_refl _) _)) (some ⟨wr.heap.size, 0, none⟩) 1 1 [(rn, x)] rfl (srcP_one wr rn x) (fun e => nomatch e) (by omega) (by simp; omega) ?_; intro v2 w2 hap; have HA2 := Lib.hid hap; clear hap)
                    have hl2 : (out ++ [(rn, x)]).length = out.length + 1 := by simp
                    go_roundw
                    case rel =>
                      refine ⟨j + 1, 0, out ++ [(rn, x)], by go_num, by omega, rfl, by omega, by omega, by omega, HRest.out, ?_, ?_⟩
                      · rw [hl2]; exact HA2.out.1
                      · exact (HB.out.alloc hbs _).grown HA2.out.2.1 (by simp; omega) (fun k' e => (HOwn.out.lt k' e).1)
                    case measure => simp [intOf]; omega
                · obtain rfl : j = 64 := by omega
                  have hout : out = RR := by rw [← hrest]; rfl
                  subst hout
                  clear hrest
                  go_wp2
                  go_ret2
                  rw [HA.out]
                  exact ⟨_, rfl, ownsRow_baseN HOwn.out (by omega), HB1.out.trans (HB.out.mono (by omega))⟩
    · have hr : runsR xs first = (2, []) := by unfold runsR; rw [if_pos h, if_pos (.inl (by omega))]
      rw [hr]
      have e1 : ((len : Int) != 64) = true := by rw [bne_iff_ne]; omega
      have hk3 : (first != 0) = false ∨ (first != 0) = true ∧ (first != 1) = false := by
        rcases h with rfl | rfl
        · exact .inl rfl
        · exact .inr ⟨rfl, rfl⟩
      clear hr h hR hk2
      go_enter Try.func19, Try.ntmps19
      rcases hk3 with k0 | ⟨k0, k1⟩
      · go_wp2
        go_ret2
        exact runsOut_nil _ _
      · go_wp2
        go_ret2
        exact runsOut_nil _ _
  · have hr : runsR xs first = (3, []) := by unfold runsR; rw [if_neg h]
    rw [hr]
    have e0 : (first != 0) = true := by rw [bne_iff_ne]; omega
    have e1 : (first != 1) = true := by rw [bne_iff_ne]; omega
    clear hr h hR
    go_enter Try.func19, Try.ntmps19
    go_wp2
    go_ret2
    exact runsOut_nil _ _

end Go.Proofs.Ytjfekhjfdapilaa
