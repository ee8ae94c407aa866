/- The walk of QuantSlots (praxinoscopelaw10). -/
import Derived.Test.YtfkjgafmaplggaaULaw2
namespace Go.Proofs.Ytfkjgafmaplggaa
open Go.RowKit Go.Shelf Go.Sort
set_option linter.unusedVariables false

/-- so many of one level, and noughts -/
def fillO (o : Int) (k : Nat) : List Int := List.replicate k o ++ List.replicate (64 - k) 0
theorem fillO_length (o : Int) {k : Nat} (hk : k ≤ 64) : (fillO o k).length = 64 := by simp [fillO]; omega
theorem fillO_zero (o : Int) : fillO o 0 = zeros64 := by simp [fillO, zeros64]
theorem fillO_step (o : Int) {k : Nat} (hk : k < 64) : (fillO o k).set k o = fillO o (k + 1) := by
  unfold fillO
  rw [show 64 - k = (64 - (k + 1)) + 1 by omega, List.replicate_succ, List.set_append_right _ _ (by simp), List.length_replicate, Nat.sub_self, List.set_cons_zero, List.replicate_succ', List.append_assoc]
  rfl
/-- one level everywhere, but at a place -/
def slotL (o : Int) (p : Nat) (l : Int) : List Int := (fillO o 64).set p l
theorem slotL_length (o : Int) (p : Nat) (l : Int) : (slotL o p l).length = 64 := by simp [slotL, fillO]
theorem slotL_all {o l : Int} (p : Nat) (ho : okLU o = true) (hl : okLU l = true) : (slotL o p l).all okLU = true := by
  rw [List.all_eq_true]
  intro x hx
  unfold slotL at hx
  rcases List.mem_or_eq_of_mem_set hx with h | h
  · unfold fillO at h
    simp at h
    rw [h]
    exact ho
  · rw [h]
    exact hl
theorem map_get (xs : List Int) (q : Int) {k : Nat} (hk : k < xs.length) : (xs.map fun l => worthU l q)[k]?.getD 0 = worthU (xs[k]?.getD 0) q := by simp [hk]
theorem set_getU (xs : List Int) (d : Int) {k : Nat} (hk : 0 < k) : (xs.set 0 d)[k]?.getD 0 = xs[k]?.getD 0 := by rw [List.getElem?_set, if_neg (by omega)]
theorem set_getU0 (xs : List Int) (d : Int) (h : 0 < xs.length) : (xs.set 0 d)[0]?.getD 0 = d := by rw [List.getElem?_set, if_pos rfl, if_pos h]; rfl
theorem dcU_of {c : Int} (h1 : 1 ≤ c) (h2 : c ≤ 254) (h3 : c ≠ 128) : dcU c = (8 * c, 0) := by unfold dcU; rw [if_neg (by omega), if_neg (by omega), if_neg (by omega)]
/-- the cells of numbers that a call owns -/
theorem ownI_cells {w : World} {base : Nat} {v : Value} {xs : List Int} (h : OwnI w base v xs) (hl : xs.length = 64) : ∃ g cap, v = .slice (some ⟨g, 0, none⟩) 64 cap ∧ base ≤ g ∧ ∀ k, k < 64 → w.cell? ⟨g, k, none⟩ = some (.int .i64 (xs[k]?.getD 0)) := by
  obtain ⟨t, h⟩ := h
  rw [hl] at h
  obtain ⟨g, cap, e, hb, _, _, _⟩ := own_put h (k := 0) (by omega) 0
  refine ⟨g, cap, e, hb, fun k hk => ?_⟩
  obtain ⟨g', cap', e', _, hc, _, _⟩ := own_put h hk 0
  rw [e] at e'
  cases e'
  exact hc

set_option maxRecDepth 100000 in
set_option maxHeartbeats 8000000 in
theorem quantSlots_core (a0 a1 a2 a3 a4 l o q q0 c : Int) (p : Nat) (w : World) (hp : p < 64)
    (HP1 : Hid (∀ W, Calls Try.prog 28 #[.int .i64 a0, .int .i64 64] W fun e w' => e = .returned (.int .i64 (p : Int)) ∧ W = w'))
    (HO1 : Hid (∀ W, Calls Try.prog 27 #[.int .i64 a1, .int .i64 a3] W fun e w' => e = .returned (.tuple #[.int .i64 l, .int .i64 q]) ∧ W = w'))
    (HO2 : Hid (∀ W, Calls Try.prog 27 #[.int .i64 a2, .int .i64 0] W fun e w' => e = .returned (.tuple #[.int .i64 o, .int .i64 q0]) ∧ W = w'))
    (HP2 : Hid (∀ W, Calls Try.prog 28 #[.int .i64 a4, .int .i64 254] W fun e w' => e = .returned (.int .i64 c) ∧ W = w'))
    (hl : okLU l = true) (ho : okLU o = true) (hq : okQU q = true) (h1 : 0 ≤ c) (h2 : c ≤ 253) :
    Calls Try.prog 9 #[.int .i64 a0, .int .i64 a1, .int .i64 a2, .int .i64 a3, .int .i64 a4] w fun e w' => e = .returned (.bool true) ∧ Below w.heap.size w w' := by
  have HAw := Lib.hid (awake10_any w)
  by_cases hc : c = 127
  · subst hc
    go_enter Try.func9, Try.ntmps9
    go_wp2_with fail
    refine HAw.out.mono ?_
    rintro e w1 ⟨rfl, b1'⟩
    have B1 := Lib.hid b1'
    clear b1'
    go_wp2_with fail
    refine (HP1.out _).mono ?_
    rintro e w' ⟨rfl, rfl⟩
    go_wp2_with fail
    refine (HO1.out _).mono ?_
    rintro e w' ⟨rfl, rfl⟩
    go_wp2_with fail
    refine (HO2.out _).mono ?_
    rintro e w' ⟨rfl, rfl⟩
    go_wp2_with fail
    refine (HP2.out _).mono ?_
    rintro e w' ⟨rfl, rfl⟩
    go_wp2_with fail
    go_ret
    exact ⟨rfl, B1.out⟩
  · have e128 : (1 + c == 128) = false := by rw [beq_eq_false_iff_ne]; omega
    have hmk := made64
    have HSt := Lib.hid (fun k hk => @fillO_step o k hk)
    have HFl := Lib.hid (fun k hk => @fillO_length o k hk)
    have HZ := Lib.hid (fillO_zero o)
    have hL := slotL_length o p l
    have hA := slotL_all p ho hl
    have hdc := dcU_of (c := 1 + c) (by omega) (by omega) (by omega)
    have HI := Lib.hid (interU_ok hL hA hq)
    have HD := Lib.hid (intraU_ok (c := 1 + c) (show (interU (slotL o p l) q).1 = 0 by rw [HI.out]) (by rw [hdc]))
    have HVs := Lib.hid (fun k (hk : k < 64) (W : World) => values10_lit ((slotL o p l)[k]?.getD 0) q (worthU ((slotL o p l)[k]?.getD 0) q) (by rw [valueU_ok ((allU_iff _).1 hA k (by omega)) hq]; simp) W)
    have HS := Lib.hid (show (fillO o 64).set p l = slotL o p l from rfl)
    have HMg := Lib.hid (fun k hk => @map_get (slotL o p l) q k hk)
    have hml : ((slotL o p l).map fun l => worthU l q).length = 64 := by rw [List.length_map]; exact hL
    have HLv := Lib.hid (fun k (hk : k < 64) => (okLU_iff _).1 ((allU_iff _).1 hA k (by omega)))
    have HWi := Lib.hid (fun l => worthU_in l q)
    clear hA hl ho hq hc
    rw [HI.out, hdc] at HD
    clear hdc
    generalize slotL o p l = L at *
    go_enter Try.func9, Try.ntmps9
    go_wp2_with fail
    refine HAw.out.mono ?_
    rintro e w1 ⟨rfl, b1'⟩
    have B1 := Lib.hid b1'
    clear b1'
    go_wp2_with fail
    refine (HP1.out _).mono ?_
    rintro e w' ⟨rfl, rfl⟩
    go_wp2_with fail
    refine (HO1.out _).mono ?_
    rintro e w' ⟨rfl, rfl⟩
    go_wp2_with fail
    refine (HO2.out _).mono ?_
    rintro e w' ⟨rfl, rfl⟩
    go_wp2_with fail
    refine (HP2.out _).mono ?_
    rintro e w' ⟨rfl, rfl⟩
    go_wp2_with fail
    have HN0 := Lib.hid (numsAt_new w1 3 zeros64)
    have HB0 := Lib.hid (ints64_new w1 3 zeros64)
    generalize w1.alloc (.cells (numsA zeros64) 3 (0, 0)) = w2 at *
    clear hmk
    have hs0 := B1.out.size
    generalize hg : w1.heap.size = g at *
    go_loopw [13] (fun i wr => ∃ k : Nat, i = .int .i64 k ∧ k ≤ 64 ∧ NumsAt wr g 3 (fillO o k) ∧ Below g w1 wr) (fun i _ => 64 - (intOf i).toNat)
    case atStart => exact ⟨0, rfl, by omega, by rw [HZ.out]; exact HN0.out, HB0.out⟩
    case round =>
      obtain ⟨k, rfl, hk, hN, hB⟩ := hrel
      have HN := Lib.hid hN
      have HB := Lib.hid hB
      clear hN hB
      by_cases hk2 : k < 64
      · have z1 : (k : Int) < 64 := by omega
        have c2 := HN.out.cell (k := k) (by rw [HFl.out k hk]; omega)
        have f2 := HN.out.frozen k
        have HS2 := Lib.hid (HSt.out k hk2)
        go_wp2_with fail
        go_roundw
        case rel => exact ⟨k + 1, by go_num, by omega, by rw [← HS2.out]; exact HN.out.set k o, HB.out.setCell (p := ⟨g, k, none⟩) (Nat.le_refl _) (.int .i64 o)⟩
        case measure => simp [intOf]; omega
      · obtain rfl : k = 64 := by omega
        have c2 := HN.out.cell (k := p) (by rw [HFl.out 64 (by omega)]; omega)
        have f2 := HN.out.frozen p
        have z1 : (p : Int) < 64 := by omega
        have HNs := Lib.hid (show NumsAt (wr.setCell ⟨g, p, none⟩ (.int .i64 l)) g 3 L by rw [← HS.out]; exact HN.out.set p l)
        have HBs := Lib.hid (HB.out.setCell (p := ⟨g, p, none⟩) (Nat.le_refl _) (.int .i64 l))
        go_wp2_with fail
        have hs1 := HBs.out.size
        generalize wr.setCell ⟨g, p, none⟩ (.int .i64 l) = w3 at *
        clear c2 f2
        refine (interU_any (HNs.out.rowV hL) (Nat.le_refl _) (by omega) q).mono ?_
        rintro e w4 ⟨v4, rfl, ho4, hb4⟩
        rw [HI.out] at ho4 ⊢
        have HO4 := Lib.hid ho4
        have HB4 := Lib.hid hb4
        have hs4 := hb4.size
        clear hb4 ho4
        have HN4 := Lib.hid (HNs.out.below HB4.out HNs.out.lt)
        go_wp2_with fail
        refine (intraU_any (HN4.out.rowV hL) (Nat.le_refl _) (by omega) q (1 + c)).mono ?_
        rintro e w5 ⟨v5, rfl, ho5, hb5⟩
        rw [HD.out] at ho5 ⊢
        have HB5 := Lib.hid hb5
        have hs5 := hb5.size
        obtain ⟨ga, ca, rfl, hga, hca⟩ := ownI_cells HO4.out hml
        obtain ⟨gb, cb, rfl, hgb, hcb⟩ := ownI_cells ho5 (by simp only; rw [List.length_set]; exact hml)
        have HCa := Lib.hid (fun k hk => (HB5.out.cell (p := ⟨ga, k, none⟩) (block_lt_of_cell (hca k hk))).trans (hca k hk))
        have HCb := Lib.hid hcb
        have HN5 := Lib.hid (HN4.out.below hb5 HN4.out.lt)
        have HB35 := Lib.hid (HBs.out.trans ((HB4.out.trans (hb5.mono hs4)).mono (by omega)))
        clear hb5 ho5 hca hcb HO4
        go_wp2_with fail
        clear z1
        go_loopw [18] (fun i wq => ∃ k : Nat, i = .int .i64 k ∧ k ≤ 64 ∧ Below w5.heap.size w5 wq) (fun i _ => 64 - (intOf i).toNat)
        case atStart => exact ⟨0, rfl, by omega, Below.refl _ _⟩
        case round =>
          obtain ⟨k, rfl, hk, hB⟩ := hrel
          have HB := Lib.hid hB
          clear hB
          by_cases hk2 : k < 64
          · have z1 : (k : Int) < 64 := by omega
            have k0 := cell_regrown ((HB.out.cell (p := ⟨g, k, none⟩) HN5.out.lt).trans (HN5.out.cell (k := k) (by omega)))
            have k1 := cell_regrown ((HB.out.cell (p := ⟨ga, k, none⟩) (block_lt_of_cell (HCa.out k hk2))).trans (HCa.out k hk2))
            have k2 := cell_regrown ((HB.out.cell (p := ⟨gb, k, none⟩) (block_lt_of_cell (HCb.out k hk2))).trans (HCb.out k hk2))
            rw [HMg.out k (by omega)] at k1
            have C1 : ∀ d os, Calls Try.prog 24 #[.int .i64 (L[k]?.getD 0), .int .i64 q, .int .i64 (worthU (L[k]?.getD 0) q)] (grow (redrawn wr d) os) fun e w'' => e = .returned (.bool true) ∧ ∃ p : Regrown, w'' = grow (redrawn wr p.d) p.os := fun d os => Calls.regrown_of (HVs.out k hk2 _)
            by_cases hk0 : k = 0
            · subst hk0
              generalize L[0]?.getD 0 = xl at *
              generalize worthU xl q = xw at *
              go_wp2_with fail
              refine wp_region_quiet_below (by kernel_rfl) (by kernel_rfl) ?_
              iterate 12 quiet_step ((go_at_call 24; exact C1 _ _))
              iterate 14 (with_reducible refine wpQuiet_step (fun K hK => ?_); go_simp; with_reducible refine hK _ ?_; clear hK K)
              refine wpQuiet_nil ?_
              rintro _ ⟨⟨dq, osq⟩, rfl⟩
              go_wp2_with fail
              go_roundw
              case rel => exact ⟨0 + 1, by go_num, by omega, HB.out.trans ((below_regrown wr dq osq).mono HB.out.size)⟩
              case measure => simp [intOf]
            · have z4 : 0 < k := by omega
              have z2 : (0 : Int) < (k : Int) := by omega
              have z3 : decide ((0 : Int) < (k : Int)) = true := decide_eq_true z2
              rw [set_getU _ _ (by omega), HMg.out k (by omega)] at k2
              generalize L[k]?.getD 0 = xl at *
              generalize worthU xl q = xw at *
              go_wp2_with fail
              refine wp_region_quiet_below (by kernel_rfl) (by kernel_rfl) ?_
              iterate 12 quiet_step ((go_at_call 24; exact C1 _ _))
              iterate 14 (with_reducible refine wpQuiet_step (fun K hK => ?_); go_simp; with_reducible refine hK _ ?_; clear hK K)
              refine wpQuiet_nil ?_
              rintro _ ⟨⟨dq, osq⟩, rfl⟩
              go_wp2_with fail
              go_roundw
              case rel => exact ⟨k + 1, by go_num, by omega, HB.out.trans ((below_regrown wr dq osq).mono HB.out.size)⟩
              case measure => simp [intOf]; omega
          · obtain rfl : k = 64 := by omega
            have x0 := (HB.out.cell (p := ⟨gb, 0, none⟩) (block_lt_of_cell (HCb.out 0 (by omega)))).trans (HCb.out 0 (by omega))
            rw [set_getU0 _ _ (by omega)] at x0
            go_wp2_with fail
            go_ret
            exact ⟨rfl, B1.out.trans ((HB35.out.trans (HB.out.mono (by omega))).mono (by omega))⟩


set_option maxHeartbeats 1000000 in
theorem quantSlots_walk (a0 a1 a2 a3 a4 : Int) (w : World) : Calls Try.prog 9 #[.int .i64 a0, .int .i64 a1, .int .i64 a2, .int .i64 a3, .int .i64 a4] w fun e w' => e = .returned (.bool true) ∧ Below w.heap.size w w' := by
  have h64 : 0 ≤ a0 % 64 ∧ a0 % 64 < 64 := by omega
  obtain ⟨p, hp⟩ : ∃ p : Nat, a0 % 64 = p := ⟨(a0 % 64).toNat, by omega⟩
  have hP : ∀ W, Calls Try.prog 28 #[.int .i64 a0, .int .i64 64] W fun e w' => e = .returned (.int .i64 (p : Int)) ∧ W = w' := fun W => by
    have := pick_any a0 64 W (by omega) (by omega)
    rwa [hp] at this
  exact quantSlots_core a0 a1 a2 a3 a4 (ofL a1) (ofL a2) (ofQ a3) (ofQ 0) (a4 % 254) p w (by omega) (Lib.hid hP) (Lib.hid (fun W => of10_any a1 a3 W)) (Lib.hid (fun W => of10_any a2 0 W)) (Lib.hid (fun W => pick_any a4 254 W (by omega) (by omega)))
    (ofL_ok a1) (ofL_ok a2) (ofQ_ok a3) (by omega) (by omega)

end Go.Proofs.Ytfkjgafmaplggaa
