/- The walk of CoeffList (praxinoscopelaw08). -/
import Derived.Test.YtejcgkplcbapfaaDoorEList0
import Derived.Deep.RegionHeld3
namespace Go.Proofs.YtejcgkplcbapfaaDoor
open Go.RowKit Go.Shelf
set_option linter.unusedVariables false

set_option maxRecDepth 100000 in
set_option maxHeartbeats 8000000 in
theorem coeffList_first (I : CoeffI) {w : World} {a1 a2 : Option Addr} {len1 cap1 len2 cap2 : Nat} {xs ys : List Int} (hR1 : RowV w.heap.size w a1 len1 cap1 (intV xs)) (hR2 : RowV w.heap.size w a2 len2 cap2 (intV ys)) (hT : Lay8 w) :
    Calls Tryd.prog 8 #[.slice a1 len1 cap1, .slice a2 len2 cap2, .bool true] w fun e w' => e = .returned (.bool true) ∧ Below w.heap.size w w' := by
  have e1 : xs.length = len1 := by have := hR1.1; simpa using this
  have e2 : ys.length = len2 := by have := hR2.1; simpa using this
  obtain ⟨i2, hi2, hz20, hz21, hz22⟩ := info_parts Tryd.info26e
  have HT := Lib.hid (fun w' (hb : Below w.heap.size w w') => hT.below hb)
  have HK := Lib.hid (awake8_any I w hT)
  have HR1 := Lib.hid hR1
  have HR2 := Lib.hid hR2
  have hn1 := hR1.2.1
  have hn2 := hR2.2.1
  clear hR1 hR2 hT
  go_enter Tryd.func8, Tryd.ntmps8
  go_wp2_with fail
  refine HK.out.mono ?_
  rintro e w1 ⟨rfl, b1⟩
  have HB1 := Lib.hid b1
  clear b1 HK
  by_cases hlong : 40 < len1
  · go_wp2
    go_ret
    exact ⟨rfl, HB1.out⟩
  have hl40 : len1 ≤ 40 := by omega
  clear hlong
  go_wp2_with fail
  go_loopw [8, 9, 10] (fun v s i wr => ∃ t : Nat, i = .int .i64 t ∧ t ≤ len1 ∧ t ≤ len2 ∧ s = .string (ptxt8 true xs ys t) ∧ wr.ownsRow w.heap.size 26 2 v t (pcells8 xs ys t) ∧ Below w.heap.size w wr) (fun _ _ i _ => len1 - (intOf i).toNat)
  case atStart => exact ⟨0, rfl, by omega, by omega, rfl, World.ownsRow_nil _ _ _ _, HB1.out⟩
  case round =>
    obtain ⟨t, rfl, ht1, ht2, rfl, ho, hb⟩ := hrel
    have HO := Lib.hid ho
    have HB := Lib.hid hb
    have hbs := hb.size
    have hts := ptxt8_size true xs ys t
    clear ho hb
    by_cases h1 : t < len1
    · by_cases h2 : t < len2
      · obtain ⟨g1, o1, rfl, hg1, hc1⟩ := HR1.out.cells (by omega)
        obtain ⟨g2, o2, rfl, hg2, hc2⟩ := HR2.out.cells (by omega)
        have x1 := (HB.out.cell (p := ⟨g1, o1 + t, none⟩) hg1).trans (hc1 t _ (intV_get8 (by omega)))
        have x2 := (HB.out.cell (p := ⟨g2, o2 + t, none⟩) hg2).trans (hc2 t _ (intV_get8 (by omega)))
        have HOf := Lib.hid (fun W => of8_any (xs[t]?.getD 0) (ys[t]?.getD 0) W)
        have HC1 := Lib.hid hc1
        have HC2 := Lib.hid hc2
        have hp := isP_by (xs[t]?.getD 0) (ys[t]?.getD 0)
        have hTx := rfl_txt true xs ys t
        have hCe := rfl_cells xs ys t
        obtain ⟨l1, l2, l3⟩ := lvE_in (ys[t]?.getD 0)
        obtain ⟨q1, q2⟩ := pcode8_size true xs ys t
        have hbt := putP_bits (true && decide (t = 0)) (prun8 xs t) (plev8 ys t)
        have hon := putP_one9 (true && decide (t = 0)) (prun8 xs t) (plev8 ys t)
        rw [show putP (true && decide (t = 0)) (prun8 xs t) (plev8 ys t) = pcode8 true xs ys t from rfl] at hbt hon
        have HP := Lib.hid (fun w hT => I.put (prun8 xs t) (plev8 ys t) (true && decide (t = 0)) w hT (by show -9223372036854775808 ≤ lvE _; omega) (by show lvE _ ≤ _; omega))
        rw [show putS8 (true && decide (t = 0)) (prun8 xs t) (plev8 ys t) = pcode8 true xs ys t by unfold putS8; rw [if_pos (show isP (prun8 xs t) (plev8 ys t) = true from hp)]; rfl, show putE8 (prun8 xs t) (plev8 ys t) = 0 by unfold putE8; rw [if_pos (show isP (prun8 xs t) (plev8 ys t) = true from hp)]] at HP
        rw [show xs[t]?.getD 0 % 64 = prun8 xs t from rfl, show lvE (ys[t]?.getD 0) = plev8 ys t from rfl] at HOf
        have HBt := Lib.hid hbt
        have HOn := Lib.hid hon
        have HTx := Lib.hid hTx
        have HCe := Lib.hid hCe
        generalize prun8 xs t = R at *
        generalize plev8 ys t = L at *
        generalize pcode8 true xs ys t = c at *
        generalize ptxt8 true xs ys t = T at *
        generalize pcells8 xs ys t = C at *
        generalize xs[t]?.getD 0 = X at *
        generalize ys[t]?.getD 0 = Y at *
        clear hc1 hc2 hp hbt hon hTx hCe l1 l2 l3
        have H0 : Hid (ListS wr wr.drew g1 g2 (o1 + t) (o2 + t) X Y) := ⟨below_undrew (Below.refl _ wr.drew), x1, x2⟩
        have HKeep : ∀ {wx wy : World}, ListS wr wx g1 g2 (o1 + t) (o2 + t) X Y → Below wr.heap.size wx wy → ListS wr wy g1 g2 (o1 + t) (o2 + t) X Y := fun {wx wy} h hb => by
          have hsz := h.1.size
          exact ⟨h.1.trans hb, (hb.cell (p := ⟨g1, o1 + t, none⟩) (by simp; omega)).trans h.2.1, (hb.cell (p := ⟨g2, o2 + t, none⟩) (by simp; omega)).trans h.2.2⟩
        have HKA : Hid (∀ W o, ListS wr W g1 g2 (o1 + t) (o2 + t) X Y → ListS wr (W.alloc o) g1 g2 (o1 + t) (o2 + t) X Y) := fun W o h => HKeep h ((Below.refl _ W).alloc h.1.size o)
        have H0a : Hid (ListS wr (wr.alloc (.cells #[.int .i64 0, .int .i64 0] 26 (0, 0))).drew g1 g2 (o1 + t) (o2 + t) X Y) := HKeep (HKA.out wr _ ⟨Below.refl _ _, x1, x2⟩) (below_undrew (Below.refl _ _))
        have HKB : Hid (∀ W v v', ListS wr W g1 g2 (o1 + t) (o2 + t) X Y → ListS wr ((W.setCell ⟨wr.heap.size, 0, none⟩ v).setCell ⟨wr.heap.size, 1, none⟩ v') g1 g2 (o1 + t) (o2 + t) X Y) := fun W v v' h => HKeep h (((Below.refl _ W).setCell (p := ⟨wr.heap.size, 0, none⟩) (Nat.le_refl _) _).setCell (p := ⟨wr.heap.size, 1, none⟩) (Nat.le_refl _) _)
        have HO1 : Hid (∀ W, ListS wr W g1 g2 (o1 + t) (o2 + t) X Y → Calls Tryd.prog 24 #[.int .i64 X, .int .i64 Y] W fun e W' => e = .returned (pairV R L) ∧ ListS wr W' g1 g2 (o1 + t) (o2 + t) X Y) := fun W h => (HOf.out W).mono (by
          rintro e W' ⟨rfl, hb⟩
          exact ⟨rfl, HKeep h (hb.mono h.1.size)⟩)
        have HO2 : Hid (Calls Tryd.prog 24 #[.int .i64 X, .int .i64 Y] (wr.alloc (.cells #[.int .i64 0, .int .i64 0] 26 (0, 0))).drew fun e W' => e = .returned (pairV R L) ∧ ListS wr W' g1 g2 (o1 + t) (o2 + t) X Y ∧ W'.cell? ⟨wr.heap.size, 0, none⟩ = some (.int .i64 0) ∧ W'.cell? ⟨wr.heap.size, 1, none⟩ = some (.int .i64 0) ∧ W'.frozen? ⟨wr.heap.size, 0, none⟩ = false ∧ W'.frozen? ⟨wr.heap.size, 1, none⟩ = false ∧ wr.heap.size < W'.heap.size) := (HOf.out _).mono (by
          rintro e W' ⟨rfl, hb⟩
          have hs : (wr.alloc (.cells #[.int .i64 0, .int .i64 0] 26 (0, 0))).drew.heap.size = wr.heap.size + 1 := by simp
          have hh := (hb.block wr.heap.size (by omega)).trans (World.alloc_heap_new wr (.cells #[.int .i64 0, .int .i64 0] 26 (0, 0)))
          obtain ⟨c0, c1, f0, f1⟩ := pair_cells hh
          exact ⟨rfl, HKeep H0a.out (hb.mono (by omega)), c0, c1, f0, f1, by have := hb.size; omega⟩)
        clear HKeep HOf
        go_wp2_with fail
        go_region_held3 (fun w' => ListS wr w' g1 g2 (o1 + t) (o2 + t) X Y)
          (first | exact H0.out | exact H0a.out | assumption | exact hSl | exact HKA.out _ _ (by assumption) | exact HKB.out _ _ _ (by assumption) | exact HKA.out _ _ hSl)
          (first
           | (go_at_call 24; refine HO2.out.mono ?_; rintro e wl ⟨rfl, hSl, hn0, hn1, hf0, hf1, hlt⟩)
           | (go_at_call 24; refine (HO1.out _ (by assumption)).mono ?_; rintro e wl ⟨rfl, hSl⟩))
        · have b5 : Below wr.heap.size wr (wl.alloc (.cells #[.int .i64 R, .int .i64 L] 26 (0, 0))) := hSl.1.alloc hSl.1.size _
          obtain ⟨y0, y1⟩ := two_cells wl (.int .i64 R) (.int .i64 L) 26
          have hs5 : wl.heap.size < (wl.alloc (.cells #[.int .i64 R, .int .i64 L] 26 (0, 0))).heap.size := by simp
          clear hSl HO1 HO2 HKA HKB H0 H0a
          generalize wl.alloc (.cells #[.int .i64 R, .int .i64 L] 26 (0, 0)) = w5 at *
          generalize wl.heap.size = g5 at *
          have eF : (true && decide (t = 0)) = ((t : Int) == 0) := by rw [Bool.true_and, Bool.eq_iff_iff, decide_eq_true_iff, beq_iff_eq]; omega
          rw [eF] at HP
          generalize eF0 : ((t : Int) == 0) = F0 at *
          clear eF
          have B5 := Lib.hid (HB.out.trans (b5.mono hbs))
          have HO5 := Lib.hid (ownsRow_below2 HO.out b5)
          go_wp2_with fail
          refine (HP.out w5 (HT.out _ B5.out)).mono ?_
          rintro e w6 ⟨rfl, b6⟩
          have x5 := (b6.cell (p := ⟨g5, 0, none⟩) hs5).trans y0
          have x6 := (b6.cell (p := ⟨g5, 1, none⟩) hs5).trans y1
          have hs6 : g5 < w6.heap.size := by have := b6.size; omega
          have B6 := Lib.hid (below_chain B5.out (Nat.le_refl _) b6)
          have HO6 := Lib.hid (ownsRow_below2 HO5.out b6)
          have hb6 := B6.out.size
          clear b5 b6 y0 y1 hs5 HP HO HO5 B5 HB hbs x1 x2
          go_wp2_with fail
          refine (code8_true c ((allB_iff _).1 HBt.out) q1 HOn.out 20 (by omega) (by omega) w6).mono ?_
          rintro e w' ⟨rfl, rfl⟩
          have hsum : T.size + c.size ≤ 1000 := by omega
          go_wp2_with (at_builtin; go_loud (refine wpList_append_where _ rfl _ _ 45 rfl w.heap.size 26 i2 (.agg #[.int .i64 0, .int .i64 0]) 2 16 Tryd.underlying45e hi2 hz20 hz21 hz22 rfl (by decide) _ t _ rfl (HO6.out.alloc _) ⟨w6.heap.size, 0, none⟩ 1 1 [.int .i64 R, .int .i64 L] rfl rfl (src_two _ _ _ _) two_one (by unfold maxLen; omega) (by omega) (by simp; omega) ?_); intro v7 w7 hown7 hgrow7 hloc7; have HO7 := Lib.hid hown7; have HG7 := Lib.hid hgrow7; clear hown7 hgrow7 hloc7)
          go_roundw
          case rel =>
            refine ⟨t + 1, by go_num, by omega, by omega, by rw [HTx.out], by rw [HCe.out]; exact HO7.out, ?_⟩
            exact (B6.out.alloc hb6 _).grown HG7.out (by simp; omega) (fun j e => (HO6.out.lt j e).1)
          case measure => simp [intOf]; omega
        · have b5 : Below wr.heap.size wr ((wl.setCell ⟨wr.heap.size, 0, none⟩ (.int .i64 R)).setCell ⟨wr.heap.size, 1, none⟩ (.int .i64 L)) := (hSl.1.setCell (p := ⟨wr.heap.size, 0, none⟩) (Nat.le_refl _) _).setCell (p := ⟨wr.heap.size, 1, none⟩) (Nat.le_refl _) _
          obtain ⟨y0, y1, hs5'⟩ := set_two (c := .int .i64 R) (d := .int .i64 L) hn0 hn1
          have hs5 : wr.heap.size < ((wl.setCell ⟨wr.heap.size, 0, none⟩ (.int .i64 R)).setCell ⟨wr.heap.size, 1, none⟩ (.int .i64 L)).heap.size := by omega
          clear hSl HO1 HO2 HKA HKB H0 H0a hn0 hn1 hf0 hf1 hs5' hlt
          generalize (wl.setCell ⟨wr.heap.size, 0, none⟩ (.int .i64 R)).setCell ⟨wr.heap.size, 1, none⟩ (.int .i64 L) = w5 at *
          obtain ⟨g5, hg5⟩ : ∃ g5, g5 = wr.heap.size := ⟨_, rfl⟩
          rw [← hg5] at y0 y1 hs5 ⊢
          clear hg5
          have eF : (true && decide (t = 0)) = ((t : Int) == 0) := by rw [Bool.true_and, Bool.eq_iff_iff, decide_eq_true_iff, beq_iff_eq]; omega
          rw [eF] at HP
          generalize eF0 : ((t : Int) == 0) = F0 at *
          clear eF
          have B5 := Lib.hid (HB.out.trans (b5.mono hbs))
          have HO5 := Lib.hid (ownsRow_below2 HO.out b5)
          go_wp2_with fail
          refine (HP.out w5 (HT.out _ B5.out)).mono ?_
          rintro e w6 ⟨rfl, b6⟩
          have x5 := (b6.cell (p := ⟨g5, 0, none⟩) hs5).trans y0
          have x6 := (b6.cell (p := ⟨g5, 1, none⟩) hs5).trans y1
          have hs6 : g5 < w6.heap.size := by have := b6.size; omega
          have B6 := Lib.hid (below_chain B5.out (Nat.le_refl _) b6)
          have HO6 := Lib.hid (ownsRow_below2 HO5.out b6)
          have hb6 := B6.out.size
          clear b5 b6 y0 y1 hs5 HP HO HO5 B5 HB hbs x1 x2
          go_wp2_with fail
          refine (code8_true c ((allB_iff _).1 HBt.out) q1 HOn.out 20 (by omega) (by omega) w6).mono ?_
          rintro e w' ⟨rfl, rfl⟩
          have hsum : T.size + c.size ≤ 1000 := by omega
          go_wp2_with (at_builtin; go_loud (refine wpList_append_where _ rfl _ _ 45 rfl w.heap.size 26 i2 (.agg #[.int .i64 0, .int .i64 0]) 2 16 Tryd.underlying45e hi2 hz20 hz21 hz22 rfl (by decide) _ t _ rfl (HO6.out.alloc _) ⟨w6.heap.size, 0, none⟩ 1 1 [.int .i64 R, .int .i64 L] rfl rfl (src_two _ _ _ _) two_one (by unfold maxLen; omega) (by omega) (by simp; omega) ?_); intro v7 w7 hown7 hgrow7 hloc7; have HO7 := Lib.hid hown7; have HG7 := Lib.hid hgrow7; clear hown7 hgrow7 hloc7)
          go_roundw
          case rel =>
            refine ⟨t + 1, by go_num, by omega, by omega, by rw [HTx.out], by rw [HCe.out]; exact HO7.out, ?_⟩
            exact (B6.out.alloc hb6 _).grown HG7.out (by simp; omega) (fun j e => (HO6.out.lt j e).1)
          case measure => simp [intOf]; omega
      · have htE : t = len2 := by omega
        clear htE
        obtain ⟨av, cv, rfl⟩ := row_form2 HO.out
        by_cases ht0 : t = 0
        · subst ht0
          go_wp2
          go_ret
          exact ⟨rfl, HB.out⟩
        have ht0' : ((t : Int) == 0) = false := by rw [beq_eq_false_iff_ne]; omega
        have hA : AllBits (ptxt8 true xs ys t ++ ⟨#[49, 48]⟩) := (allB_iff _).1 (allBits_append (ptxt8_bits true xs ys t) (by decide +kernel))
        have hz : (ptxt8 true xs ys t ++ (⟨#[49, 48]⟩ : ByteArray)).size = (ptxt8 true xs ys t).size + 2 := by rw [ByteArray.size_append]; rfl
        have HY := Lib.hid (bytes8_any (w := wr) (n₀ := wr.heap.size) (a := none) (len := 0) (cap := 0) (ys := []) ⟨rfl, Nat.le_refl _, by omega, .inl rfl⟩ (Nat.le_refl _) (by omega) (ptxt8 true xs ys t ++ ⟨#[49, 48]⟩) hA _ rfl (by omega))
        have hsum : (ptxt8 true xs ys t).size + 2 ≤ 1000 := by omega
        clear hA
        go_wp2_with fail
        refine HY.out.mono ?_
        rintro e w8 ⟨zs, v8, rfl, hzl, ho8, hd8, b8⟩
        have hS8 : Stands zs 0 (ptxt8 true xs ys t ++ end8) := stands_of (by show (ptxt8 true xs ys t ++ (⟨#[49, 48]⟩ : ByteArray)).size ≤ _; omega) hd8
        have hBy := byt_own (n₀ := w8.heap.size) ho8 (by omega) (Nat.le_refl _)
        have B8 := Lib.hid (HB.out.trans (b8.mono hbs))
        have HO8 := Lib.hid (ownsRow_below2 HO.out b8)
        have HG : Hid (∀ W, Below w8.heap.size w8 W → ∀ k, k < t → Calls Tryd.prog 11 #[v8, .int .i64 ((ptxt8 true xs ys k).size : Nat), .bool (true && decide (k = 0))] W fun e W' => e = .returned (gotV ⟨prun8 xs k, plev8 ys k, false, (pcode8 true xs ys k).size, 0⟩) ∧ Below W.heap.size W W') := fun W hb k hk => by
          have hkz := ptxt8_size true xs ys k
          have h := I.get (hBy.below hb) hb.size (by omega) (HT.out _ (B8.out.trans (hb.mono B8.out.size))) ((ptxt8 true xs ys k).size : Nat) (true && decide (k = 0)) (by omega)
          have hq := got_put (first := true && decide (k = 0)) (r := prun8 xs k) (l := plev8 ys k) (isP_by _ _) (stands_code hS8 hk)
          rw [hq] at h
          exact h
        have HGe : Hid (∀ W, Below w8.heap.size w8 W → Calls Tryd.prog 11 #[v8, .int .i64 ((ptxt8 true xs ys t).size : Nat), .bool false] W fun e W' => e = .returned (gotV ⟨0, 0, true, 2, 0⟩) ∧ Below W.heap.size W W') := fun W hb => by
          have h := I.get (hBy.below hb) hb.size (by omega) (HT.out _ (B8.out.trans (hb.mono B8.out.size))) ((ptxt8 true xs ys t).size : Nat) false (by omega)
          rw [got_end (stands_end hS8)] at h
          exact h
        clear hzl ho8 hd8 b8 hS8 hBy HY HO
        go_wp2_with fail
        go_loopw [15, 16] (fun x i wr' => ∃ k : Nat, i = .int .i64 k ∧ k ≤ t ∧ x = .int .i64 ((ptxt8 true xs ys k).size : Nat) ∧ Below w8.heap.size w8 wr') (fun _ i _ => t - (intOf i).toNat)
        case atStart => exact ⟨0, rfl, Nat.zero_le _, rfl, Below.refl _ _⟩
        case round =>
          obtain ⟨k, rfl, hk, rfl, hB9⟩ := hrel
          have hkz := ptxt8_size true xs ys k
          have HB9 := Lib.hid hB9
          by_cases hk2 : k < t
          · obtain ⟨gl, rfl, hgl, z0, z1⟩ := row_cells8 (ownsRow_below2 HO8.out hB9) hk2
            have HQ := Lib.hid (HG.out _ hB9 k hk2)
            have HSz := Lib.hid (show (ptxt8 true xs ys (k + 1)).size = (ptxt8 true xs ys k).size + (pcode8 true xs ys k).size by rw [rfl_txt, ByteArray.size_append])
            obtain ⟨n1, n2⟩ := pcode8_size true xs ys k
            have eF : (true && decide (k = 0)) = ((k : Int) == 0) := by rw [Bool.true_and, Bool.eq_iff_iff, decide_eq_true_iff, beq_iff_eq]; omega
            rw [eF] at HQ
            generalize eF0 : ((k : Int) == 0) = F0 at *
            clear eF
            generalize prun8 xs k = R at *
            generalize plev8 ys k = L at *
            generalize (pcode8 true xs ys k).size = n at *
            generalize (ptxt8 true xs ys k).size = A at *
            have heq := fun W => run_pair_neq R L R L W
            simp only [beq_self_eq_true, Bool.and_self, Bool.not_true] at heq
            have i1 : (0 : Int) ≤ (k : Int) := by omega
            have i2 : (k : Int) < (t : Int) := by omega
            have i3 : ¬ ((n : Int) < 1) := by omega
            have i4 : (A : Int) + (n : Int) ≤ 1000 := by omega
            clear hB9
            go_wp2_with fail
            refine HQ.out.mono ?_
            rintro e w9 ⟨rfl, b9⟩
            have b9' := b9.alloc (o := .cells #[.int .i64 R, .int .i64 L] 26 (0, 0)) b9.size
            obtain ⟨y0, y1⟩ := two_cells w9 (.int .i64 R) (.int .i64 L) 26
            have u0 := (b9'.cell (p := ⟨gl, k * 2, none⟩) hgl).trans z0
            have u1 := (b9'.cell (p := ⟨gl, k * 2 + 1, none⟩) hgl).trans z1
            have B10 := Lib.hid (below_chain HB9.out (Nat.le_refl _) b9')
            clear b9 b9' z0 z1 HQ
            go_wp2
            generalize w9.alloc (.cells #[.int .i64 R, .int .i64 L] 26 (0, 0)) = w10 at *
            go_quiet (fail)
            go_wp2
            go_roundw
            case rel => exact ⟨k + 1, by go_num, by omega, by rw [HSz.out]; go_num, B10.out.trans (below_drewN _ _ _)⟩
            case measure => simp [intOf]; omega
          · obtain rfl : k = t := by omega
            have HQ := Lib.hid (HGe.out _ hB9)
            have i4 : ((ptxt8 true xs ys k).size : Int) + 2 ≤ 1000 := by omega
            clear hB9
            go_wp2_with fail
            refine HQ.out.mono ?_
            rintro e w9 ⟨rfl, b9⟩
            have b9' := b9.alloc (o := .cells #[.int .i64 0, .int .i64 0] 26 (0, 0)) b9.size
            have B10 := Lib.hid (below_chain B8.out (Nat.le_refl _) (below_chain HB9.out (Nat.le_refl _) b9'))
            clear b9 b9'
            go_wp2
            go_ret
            exact ⟨rfl, B10.out⟩
    · have htE : t = len1 := by omega
      clear htE
      obtain ⟨av, cv, rfl⟩ := row_form2 HO.out
      by_cases ht0 : t = 0
      · subst ht0
        go_wp2
        go_ret
        exact ⟨rfl, HB.out⟩
      have ht0' : ((t : Int) == 0) = false := by rw [beq_eq_false_iff_ne]; omega
      have hA : AllBits (ptxt8 true xs ys t ++ ⟨#[49, 48]⟩) := (allB_iff _).1 (allBits_append (ptxt8_bits true xs ys t) (by decide +kernel))
      have hz : (ptxt8 true xs ys t ++ (⟨#[49, 48]⟩ : ByteArray)).size = (ptxt8 true xs ys t).size + 2 := by rw [ByteArray.size_append]; rfl
      have HY := Lib.hid (bytes8_any (w := wr) (n₀ := wr.heap.size) (a := none) (len := 0) (cap := 0) (ys := []) ⟨rfl, Nat.le_refl _, by omega, .inl rfl⟩ (Nat.le_refl _) (by omega) (ptxt8 true xs ys t ++ ⟨#[49, 48]⟩) hA _ rfl (by omega))
      have hsum : (ptxt8 true xs ys t).size + 2 ≤ 1000 := by omega
      clear hA
      go_wp2_with fail
      refine HY.out.mono ?_
      rintro e w8 ⟨zs, v8, rfl, hzl, ho8, hd8, b8⟩
      have hS8 : Stands zs 0 (ptxt8 true xs ys t ++ end8) := stands_of (by show (ptxt8 true xs ys t ++ (⟨#[49, 48]⟩ : ByteArray)).size ≤ _; omega) hd8
      have hBy := byt_own (n₀ := w8.heap.size) ho8 (by omega) (Nat.le_refl _)
      have B8 := Lib.hid (HB.out.trans (b8.mono hbs))
      have HO8 := Lib.hid (ownsRow_below2 HO.out b8)
      have HG : Hid (∀ W, Below w8.heap.size w8 W → ∀ k, k < t → Calls Tryd.prog 11 #[v8, .int .i64 ((ptxt8 true xs ys k).size : Nat), .bool (true && decide (k = 0))] W fun e W' => e = .returned (gotV ⟨prun8 xs k, plev8 ys k, false, (pcode8 true xs ys k).size, 0⟩) ∧ Below W.heap.size W W') := fun W hb k hk => by
        have hkz := ptxt8_size true xs ys k
        have h := I.get (hBy.below hb) hb.size (by omega) (HT.out _ (B8.out.trans (hb.mono B8.out.size))) ((ptxt8 true xs ys k).size : Nat) (true && decide (k = 0)) (by omega)
        have hq := got_put (first := true && decide (k = 0)) (r := prun8 xs k) (l := plev8 ys k) (isP_by _ _) (stands_code hS8 hk)
        rw [hq] at h
        exact h
      have HGe : Hid (∀ W, Below w8.heap.size w8 W → Calls Tryd.prog 11 #[v8, .int .i64 ((ptxt8 true xs ys t).size : Nat), .bool false] W fun e W' => e = .returned (gotV ⟨0, 0, true, 2, 0⟩) ∧ Below W.heap.size W W') := fun W hb => by
        have h := I.get (hBy.below hb) hb.size (by omega) (HT.out _ (B8.out.trans (hb.mono B8.out.size))) ((ptxt8 true xs ys t).size : Nat) false (by omega)
        rw [got_end (stands_end hS8)] at h
        exact h
      clear hzl ho8 hd8 b8 hS8 hBy HY HO
      go_wp2_with fail
      go_loopw [15, 16] (fun x i wr' => ∃ k : Nat, i = .int .i64 k ∧ k ≤ t ∧ x = .int .i64 ((ptxt8 true xs ys k).size : Nat) ∧ Below w8.heap.size w8 wr') (fun _ i _ => t - (intOf i).toNat)
      case atStart => exact ⟨0, rfl, Nat.zero_le _, rfl, Below.refl _ _⟩
      case round =>
        obtain ⟨k, rfl, hk, rfl, hB9⟩ := hrel
        have hkz := ptxt8_size true xs ys k
        have HB9 := Lib.hid hB9
        by_cases hk2 : k < t
        · obtain ⟨gl, rfl, hgl, z0, z1⟩ := row_cells8 (ownsRow_below2 HO8.out hB9) hk2
          have HQ := Lib.hid (HG.out _ hB9 k hk2)
          have HSz := Lib.hid (show (ptxt8 true xs ys (k + 1)).size = (ptxt8 true xs ys k).size + (pcode8 true xs ys k).size by rw [rfl_txt, ByteArray.size_append])
          obtain ⟨n1, n2⟩ := pcode8_size true xs ys k
          have eF : (true && decide (k = 0)) = ((k : Int) == 0) := by rw [Bool.true_and, Bool.eq_iff_iff, decide_eq_true_iff, beq_iff_eq]; omega
          rw [eF] at HQ
          generalize eF0 : ((k : Int) == 0) = F0 at *
          clear eF
          generalize prun8 xs k = R at *
          generalize plev8 ys k = L at *
          generalize (pcode8 true xs ys k).size = n at *
          generalize (ptxt8 true xs ys k).size = A at *
          have heq := fun W => run_pair_neq R L R L W
          simp only [beq_self_eq_true, Bool.and_self, Bool.not_true] at heq
          have i1 : (0 : Int) ≤ (k : Int) := by omega
          have i2 : (k : Int) < (t : Int) := by omega
          have i3 : ¬ ((n : Int) < 1) := by omega
          have i4 : (A : Int) + (n : Int) ≤ 1000 := by omega
          clear hB9
          go_wp2_with fail
          refine HQ.out.mono ?_
          rintro e w9 ⟨rfl, b9⟩
          have b9' := b9.alloc (o := .cells #[.int .i64 R, .int .i64 L] 26 (0, 0)) b9.size
          obtain ⟨y0, y1⟩ := two_cells w9 (.int .i64 R) (.int .i64 L) 26
          have u0 := (b9'.cell (p := ⟨gl, k * 2, none⟩) hgl).trans z0
          have u1 := (b9'.cell (p := ⟨gl, k * 2 + 1, none⟩) hgl).trans z1
          have B10 := Lib.hid (below_chain HB9.out (Nat.le_refl _) b9')
          clear b9 b9' z0 z1 HQ
          go_wp2
          generalize w9.alloc (.cells #[.int .i64 R, .int .i64 L] 26 (0, 0)) = w10 at *
          go_quiet (fail)
          go_wp2
          go_roundw
          case rel => exact ⟨k + 1, by go_num, by omega, by rw [HSz.out]; go_num, B10.out.trans (below_drewN _ _ _)⟩
          case measure => simp [intOf]; omega
        · obtain rfl : k = t := by omega
          have HQ := Lib.hid (HGe.out _ hB9)
          have i4 : ((ptxt8 true xs ys k).size : Int) + 2 ≤ 1000 := by omega
          clear hB9
          go_wp2_with fail
          refine HQ.out.mono ?_
          rintro e w9 ⟨rfl, b9⟩
          have b9' := b9.alloc (o := .cells #[.int .i64 0, .int .i64 0] 26 (0, 0)) b9.size
          have B10 := Lib.hid (below_chain B8.out (Nat.le_refl _) (below_chain HB9.out (Nat.le_refl _) b9'))
          clear b9 b9'
          go_wp2
          go_ret
          exact ⟨rfl, B10.out⟩

set_option maxRecDepth 100000 in
set_option maxHeartbeats 8000000 in
theorem coeffList_later (I : CoeffI) {w : World} {a1 a2 : Option Addr} {len1 cap1 len2 cap2 : Nat} {xs ys : List Int} (hR1 : RowV w.heap.size w a1 len1 cap1 (intV xs)) (hR2 : RowV w.heap.size w a2 len2 cap2 (intV ys)) (hT : Lay8 w) :
    Calls Tryd.prog 8 #[.slice a1 len1 cap1, .slice a2 len2 cap2, .bool false] w fun e w' => e = .returned (.bool true) ∧ Below w.heap.size w w' := by
  have e1 : xs.length = len1 := by have := hR1.1; simpa using this
  have e2 : ys.length = len2 := by have := hR2.1; simpa using this
  obtain ⟨i2, hi2, hz20, hz21, hz22⟩ := info_parts Tryd.info26e
  have HT := Lib.hid (fun w' (hb : Below w.heap.size w w') => hT.below hb)
  have HK := Lib.hid (awake8_any I w hT)
  have HR1 := Lib.hid hR1
  have HR2 := Lib.hid hR2
  have hn1 := hR1.2.1
  have hn2 := hR2.2.1
  clear hR1 hR2 hT
  go_enter Tryd.func8, Tryd.ntmps8
  go_wp2_with fail
  refine HK.out.mono ?_
  rintro e w1 ⟨rfl, b1⟩
  have HB1 := Lib.hid b1
  clear b1 HK
  by_cases hlong : 40 < len1
  · go_wp2
    go_ret
    exact ⟨rfl, HB1.out⟩
  have hl40 : len1 ≤ 40 := by omega
  clear hlong
  go_wp2_with fail
  go_loopw [8, 9, 10] (fun v s i wr => ∃ t : Nat, i = .int .i64 t ∧ t ≤ len1 ∧ t ≤ len2 ∧ s = .string (ptxt8 false xs ys t) ∧ wr.ownsRow w.heap.size 26 2 v t (pcells8 xs ys t) ∧ Below w.heap.size w wr) (fun _ _ i _ => len1 - (intOf i).toNat)
  case atStart => exact ⟨0, rfl, by omega, by omega, rfl, World.ownsRow_nil _ _ _ _, HB1.out⟩
  case round =>
    obtain ⟨t, rfl, ht1, ht2, rfl, ho, hb⟩ := hrel
    have HO := Lib.hid ho
    have HB := Lib.hid hb
    have hbs := hb.size
    have hts := ptxt8_size false xs ys t
    clear ho hb
    by_cases h1 : t < len1
    · by_cases h2 : t < len2
      · obtain ⟨g1, o1, rfl, hg1, hc1⟩ := HR1.out.cells (by omega)
        obtain ⟨g2, o2, rfl, hg2, hc2⟩ := HR2.out.cells (by omega)
        have x1 := (HB.out.cell (p := ⟨g1, o1 + t, none⟩) hg1).trans (hc1 t _ (intV_get8 (by omega)))
        have x2 := (HB.out.cell (p := ⟨g2, o2 + t, none⟩) hg2).trans (hc2 t _ (intV_get8 (by omega)))
        have HOf := Lib.hid (fun W => of8_any (xs[t]?.getD 0) (ys[t]?.getD 0) W)
        have HC1 := Lib.hid hc1
        have HC2 := Lib.hid hc2
        have hp := isP_by (xs[t]?.getD 0) (ys[t]?.getD 0)
        have hTx := rfl_txt false xs ys t
        have hCe := rfl_cells xs ys t
        obtain ⟨l1, l2, l3⟩ := lvE_in (ys[t]?.getD 0)
        obtain ⟨q1, q2⟩ := pcode8_size false xs ys t
        have hbt := putP_bits (false && decide (t = 0)) (prun8 xs t) (plev8 ys t)
        have hon := putP_one9 (false && decide (t = 0)) (prun8 xs t) (plev8 ys t)
        rw [show putP (false && decide (t = 0)) (prun8 xs t) (plev8 ys t) = pcode8 false xs ys t from rfl] at hbt hon
        have HP := Lib.hid (fun w hT => I.put (prun8 xs t) (plev8 ys t) (false && decide (t = 0)) w hT (by show -9223372036854775808 ≤ lvE _; omega) (by show lvE _ ≤ _; omega))
        rw [show putS8 (false && decide (t = 0)) (prun8 xs t) (plev8 ys t) = pcode8 false xs ys t by unfold putS8; rw [if_pos (show isP (prun8 xs t) (plev8 ys t) = true from hp)]; rfl, show putE8 (prun8 xs t) (plev8 ys t) = 0 by unfold putE8; rw [if_pos (show isP (prun8 xs t) (plev8 ys t) = true from hp)]] at HP
        rw [show xs[t]?.getD 0 % 64 = prun8 xs t from rfl, show lvE (ys[t]?.getD 0) = plev8 ys t from rfl] at HOf
        have HBt := Lib.hid hbt
        have HOn := Lib.hid hon
        have HTx := Lib.hid hTx
        have HCe := Lib.hid hCe
        generalize prun8 xs t = R at *
        generalize plev8 ys t = L at *
        generalize pcode8 false xs ys t = c at *
        generalize ptxt8 false xs ys t = T at *
        generalize pcells8 xs ys t = C at *
        generalize xs[t]?.getD 0 = X at *
        generalize ys[t]?.getD 0 = Y at *
        clear hc1 hc2 hp hbt hon hTx hCe l1 l2 l3
        have H0 : Hid (ListS wr wr.drew g1 g2 (o1 + t) (o2 + t) X Y) := ⟨below_undrew (Below.refl _ wr.drew), x1, x2⟩
        have HKeep : ∀ {wx wy : World}, ListS wr wx g1 g2 (o1 + t) (o2 + t) X Y → Below wr.heap.size wx wy → ListS wr wy g1 g2 (o1 + t) (o2 + t) X Y := fun {wx wy} h hb => by
          have hsz := h.1.size
          exact ⟨h.1.trans hb, (hb.cell (p := ⟨g1, o1 + t, none⟩) (by simp; omega)).trans h.2.1, (hb.cell (p := ⟨g2, o2 + t, none⟩) (by simp; omega)).trans h.2.2⟩
        have HKA : Hid (∀ W o, ListS wr W g1 g2 (o1 + t) (o2 + t) X Y → ListS wr (W.alloc o) g1 g2 (o1 + t) (o2 + t) X Y) := fun W o h => HKeep h ((Below.refl _ W).alloc h.1.size o)
        have H0a : Hid (ListS wr (wr.alloc (.cells #[.int .i64 0, .int .i64 0] 26 (0, 0))).drew g1 g2 (o1 + t) (o2 + t) X Y) := HKeep (HKA.out wr _ ⟨Below.refl _ _, x1, x2⟩) (below_undrew (Below.refl _ _))
        have HKB : Hid (∀ W v v', ListS wr W g1 g2 (o1 + t) (o2 + t) X Y → ListS wr ((W.setCell ⟨wr.heap.size, 0, none⟩ v).setCell ⟨wr.heap.size, 1, none⟩ v') g1 g2 (o1 + t) (o2 + t) X Y) := fun W v v' h => HKeep h (((Below.refl _ W).setCell (p := ⟨wr.heap.size, 0, none⟩) (Nat.le_refl _) _).setCell (p := ⟨wr.heap.size, 1, none⟩) (Nat.le_refl _) _)
        have HO1 : Hid (∀ W, ListS wr W g1 g2 (o1 + t) (o2 + t) X Y → Calls Tryd.prog 24 #[.int .i64 X, .int .i64 Y] W fun e W' => e = .returned (pairV R L) ∧ ListS wr W' g1 g2 (o1 + t) (o2 + t) X Y) := fun W h => (HOf.out W).mono (by
          rintro e W' ⟨rfl, hb⟩
          exact ⟨rfl, HKeep h (hb.mono h.1.size)⟩)
        have HO2 : Hid (Calls Tryd.prog 24 #[.int .i64 X, .int .i64 Y] (wr.alloc (.cells #[.int .i64 0, .int .i64 0] 26 (0, 0))).drew fun e W' => e = .returned (pairV R L) ∧ ListS wr W' g1 g2 (o1 + t) (o2 + t) X Y ∧ W'.cell? ⟨wr.heap.size, 0, none⟩ = some (.int .i64 0) ∧ W'.cell? ⟨wr.heap.size, 1, none⟩ = some (.int .i64 0) ∧ W'.frozen? ⟨wr.heap.size, 0, none⟩ = false ∧ W'.frozen? ⟨wr.heap.size, 1, none⟩ = false ∧ wr.heap.size < W'.heap.size) := (HOf.out _).mono (by
          rintro e W' ⟨rfl, hb⟩
          have hs : (wr.alloc (.cells #[.int .i64 0, .int .i64 0] 26 (0, 0))).drew.heap.size = wr.heap.size + 1 := by simp
          have hh := (hb.block wr.heap.size (by omega)).trans (World.alloc_heap_new wr (.cells #[.int .i64 0, .int .i64 0] 26 (0, 0)))
          obtain ⟨c0, c1, f0, f1⟩ := pair_cells hh
          exact ⟨rfl, HKeep H0a.out (hb.mono (by omega)), c0, c1, f0, f1, by have := hb.size; omega⟩)
        clear HKeep HOf
        go_wp2_with fail
        go_region_held3 (fun w' => ListS wr w' g1 g2 (o1 + t) (o2 + t) X Y)
          (first | exact H0.out | exact H0a.out | assumption | exact hSl | exact HKA.out _ _ (by assumption) | exact HKB.out _ _ _ (by assumption) | exact HKA.out _ _ hSl)
          (first
           | (go_at_call 24; refine HO2.out.mono ?_; rintro e wl ⟨rfl, hSl, hn0, hn1, hf0, hf1, hlt⟩)
           | (go_at_call 24; refine (HO1.out _ (by assumption)).mono ?_; rintro e wl ⟨rfl, hSl⟩))
        · have b5 : Below wr.heap.size wr (wl.alloc (.cells #[.int .i64 R, .int .i64 L] 26 (0, 0))) := hSl.1.alloc hSl.1.size _
          obtain ⟨y0, y1⟩ := two_cells wl (.int .i64 R) (.int .i64 L) 26
          have hs5 : wl.heap.size < (wl.alloc (.cells #[.int .i64 R, .int .i64 L] 26 (0, 0))).heap.size := by simp
          clear hSl HO1 HO2 HKA HKB H0 H0a
          generalize wl.alloc (.cells #[.int .i64 R, .int .i64 L] 26 (0, 0)) = w5 at *
          generalize wl.heap.size = g5 at *
          rw [show (false && decide (t = 0)) = false from rfl] at HP
          have B5 := Lib.hid (HB.out.trans (b5.mono hbs))
          have HO5 := Lib.hid (ownsRow_below2 HO.out b5)
          go_wp2_with fail
          refine (HP.out w5 (HT.out _ B5.out)).mono ?_
          rintro e w6 ⟨rfl, b6⟩
          have x5 := (b6.cell (p := ⟨g5, 0, none⟩) hs5).trans y0
          have x6 := (b6.cell (p := ⟨g5, 1, none⟩) hs5).trans y1
          have hs6 : g5 < w6.heap.size := by have := b6.size; omega
          have B6 := Lib.hid (below_chain B5.out (Nat.le_refl _) b6)
          have HO6 := Lib.hid (ownsRow_below2 HO5.out b6)
          have hb6 := B6.out.size
          clear b5 b6 y0 y1 hs5 HP HO HO5 B5 HB hbs x1 x2
          go_wp2_with fail
          refine (code8_true c ((allB_iff _).1 HBt.out) q1 HOn.out 20 (by omega) (by omega) w6).mono ?_
          rintro e w' ⟨rfl, rfl⟩
          have hsum : T.size + c.size ≤ 1000 := by omega
          go_wp2_with (at_builtin; go_loud (refine wpList_append_where _ rfl _ _ 45 rfl w.heap.size 26 i2 (.agg #[.int .i64 0, .int .i64 0]) 2 16 Tryd.underlying45e hi2 hz20 hz21 hz22 rfl (by decide) _ t _ rfl (HO6.out.alloc _) ⟨w6.heap.size, 0, none⟩ 1 1 [.int .i64 R, .int .i64 L] rfl rfl (src_two _ _ _ _) two_one (by unfold maxLen; omega) (by omega) (by simp; omega) ?_); intro v7 w7 hown7 hgrow7 hloc7; have HO7 := Lib.hid hown7; have HG7 := Lib.hid hgrow7; clear hown7 hgrow7 hloc7)
          go_roundw
          case rel =>
            refine ⟨t + 1, by go_num, by omega, by omega, by rw [HTx.out], by rw [HCe.out]; exact HO7.out, ?_⟩
            exact (B6.out.alloc hb6 _).grown HG7.out (by simp; omega) (fun j e => (HO6.out.lt j e).1)
          case measure => simp [intOf]; omega
        · have b5 : Below wr.heap.size wr ((wl.setCell ⟨wr.heap.size, 0, none⟩ (.int .i64 R)).setCell ⟨wr.heap.size, 1, none⟩ (.int .i64 L)) := (hSl.1.setCell (p := ⟨wr.heap.size, 0, none⟩) (Nat.le_refl _) _).setCell (p := ⟨wr.heap.size, 1, none⟩) (Nat.le_refl _) _
          obtain ⟨y0, y1, hs5'⟩ := set_two (c := .int .i64 R) (d := .int .i64 L) hn0 hn1
          have hs5 : wr.heap.size < ((wl.setCell ⟨wr.heap.size, 0, none⟩ (.int .i64 R)).setCell ⟨wr.heap.size, 1, none⟩ (.int .i64 L)).heap.size := by omega
          clear hSl HO1 HO2 HKA HKB H0 H0a hn0 hn1 hf0 hf1 hs5' hlt
          generalize (wl.setCell ⟨wr.heap.size, 0, none⟩ (.int .i64 R)).setCell ⟨wr.heap.size, 1, none⟩ (.int .i64 L) = w5 at *
          obtain ⟨g5, hg5⟩ : ∃ g5, g5 = wr.heap.size := ⟨_, rfl⟩
          rw [← hg5] at y0 y1 hs5 ⊢
          clear hg5
          rw [show (false && decide (t = 0)) = false from rfl] at HP
          have B5 := Lib.hid (HB.out.trans (b5.mono hbs))
          have HO5 := Lib.hid (ownsRow_below2 HO.out b5)
          go_wp2_with fail
          refine (HP.out w5 (HT.out _ B5.out)).mono ?_
          rintro e w6 ⟨rfl, b6⟩
          have x5 := (b6.cell (p := ⟨g5, 0, none⟩) hs5).trans y0
          have x6 := (b6.cell (p := ⟨g5, 1, none⟩) hs5).trans y1
          have hs6 : g5 < w6.heap.size := by have := b6.size; omega
          have B6 := Lib.hid (below_chain B5.out (Nat.le_refl _) b6)
          have HO6 := Lib.hid (ownsRow_below2 HO5.out b6)
          have hb6 := B6.out.size
          clear b5 b6 y0 y1 hs5 HP HO HO5 B5 HB hbs x1 x2
          go_wp2_with fail
          refine (code8_true c ((allB_iff _).1 HBt.out) q1 HOn.out 20 (by omega) (by omega) w6).mono ?_
          rintro e w' ⟨rfl, rfl⟩
          have hsum : T.size + c.size ≤ 1000 := by omega
          go_wp2_with (at_builtin; go_loud (refine wpList_append_where _ rfl _ _ 45 rfl w.heap.size 26 i2 (.agg #[.int .i64 0, .int .i64 0]) 2 16 Tryd.underlying45e hi2 hz20 hz21 hz22 rfl (by decide) _ t _ rfl (HO6.out.alloc _) ⟨w6.heap.size, 0, none⟩ 1 1 [.int .i64 R, .int .i64 L] rfl rfl (src_two _ _ _ _) two_one (by unfold maxLen; omega) (by omega) (by simp; omega) ?_); intro v7 w7 hown7 hgrow7 hloc7; have HO7 := Lib.hid hown7; have HG7 := Lib.hid hgrow7; clear hown7 hgrow7 hloc7)
          go_roundw
          case rel =>
            refine ⟨t + 1, by go_num, by omega, by omega, by rw [HTx.out], by rw [HCe.out]; exact HO7.out, ?_⟩
            exact (B6.out.alloc hb6 _).grown HG7.out (by simp; omega) (fun j e => (HO6.out.lt j e).1)
          case measure => simp [intOf]; omega
      · have htE : t = len2 := by omega
        clear htE
        obtain ⟨av, cv, rfl⟩ := row_form2 HO.out
        have hA : AllBits (ptxt8 false xs ys t ++ ⟨#[49, 48]⟩) := (allB_iff _).1 (allBits_append (ptxt8_bits false xs ys t) (by decide +kernel))
        have hz : (ptxt8 false xs ys t ++ (⟨#[49, 48]⟩ : ByteArray)).size = (ptxt8 false xs ys t).size + 2 := by rw [ByteArray.size_append]; rfl
        have HY := Lib.hid (bytes8_any (w := wr) (n₀ := wr.heap.size) (a := none) (len := 0) (cap := 0) (ys := []) ⟨rfl, Nat.le_refl _, by omega, .inl rfl⟩ (Nat.le_refl _) (by omega) (ptxt8 false xs ys t ++ ⟨#[49, 48]⟩) hA _ rfl (by omega))
        have hsum : (ptxt8 false xs ys t).size + 2 ≤ 1000 := by omega
        clear hA
        go_wp2_with fail
        refine HY.out.mono ?_
        rintro e w8 ⟨zs, v8, rfl, hzl, ho8, hd8, b8⟩
        have hS8 : Stands zs 0 (ptxt8 false xs ys t ++ end8) := stands_of (by show (ptxt8 false xs ys t ++ (⟨#[49, 48]⟩ : ByteArray)).size ≤ _; omega) hd8
        have hBy := byt_own (n₀ := w8.heap.size) ho8 (by omega) (Nat.le_refl _)
        have B8 := Lib.hid (HB.out.trans (b8.mono hbs))
        have HO8 := Lib.hid (ownsRow_below2 HO.out b8)
        have HG : Hid (∀ W, Below w8.heap.size w8 W → ∀ k, k < t → Calls Tryd.prog 11 #[v8, .int .i64 ((ptxt8 false xs ys k).size : Nat), .bool (false && decide (k = 0))] W fun e W' => e = .returned (gotV ⟨prun8 xs k, plev8 ys k, false, (pcode8 false xs ys k).size, 0⟩) ∧ Below W.heap.size W W') := fun W hb k hk => by
          have hkz := ptxt8_size false xs ys k
          have h := I.get (hBy.below hb) hb.size (by omega) (HT.out _ (B8.out.trans (hb.mono B8.out.size))) ((ptxt8 false xs ys k).size : Nat) (false && decide (k = 0)) (by omega)
          have hq := got_put (first := false && decide (k = 0)) (r := prun8 xs k) (l := plev8 ys k) (isP_by _ _) (stands_code hS8 hk)
          rw [hq] at h
          exact h
        have HGe : Hid (∀ W, Below w8.heap.size w8 W → Calls Tryd.prog 11 #[v8, .int .i64 ((ptxt8 false xs ys t).size : Nat), .bool false] W fun e W' => e = .returned (gotV ⟨0, 0, true, 2, 0⟩) ∧ Below W.heap.size W W') := fun W hb => by
          have h := I.get (hBy.below hb) hb.size (by omega) (HT.out _ (B8.out.trans (hb.mono B8.out.size))) ((ptxt8 false xs ys t).size : Nat) false (by omega)
          rw [got_end (stands_end hS8)] at h
          exact h
        clear hzl ho8 hd8 b8 hS8 hBy HY HO
        go_wp2_with fail
        go_loopw [15, 16] (fun x i wr' => ∃ k : Nat, i = .int .i64 k ∧ k ≤ t ∧ x = .int .i64 ((ptxt8 false xs ys k).size : Nat) ∧ Below w8.heap.size w8 wr') (fun _ i _ => t - (intOf i).toNat)
        case atStart => exact ⟨0, rfl, Nat.zero_le _, rfl, Below.refl _ _⟩
        case round =>
          obtain ⟨k, rfl, hk, rfl, hB9⟩ := hrel
          have hkz := ptxt8_size false xs ys k
          have HB9 := Lib.hid hB9
          by_cases hk2 : k < t
          · obtain ⟨gl, rfl, hgl, z0, z1⟩ := row_cells8 (ownsRow_below2 HO8.out hB9) hk2
            have HQ := Lib.hid (HG.out _ hB9 k hk2)
            have HSz := Lib.hid (show (ptxt8 false xs ys (k + 1)).size = (ptxt8 false xs ys k).size + (pcode8 false xs ys k).size by rw [rfl_txt, ByteArray.size_append])
            obtain ⟨n1, n2⟩ := pcode8_size false xs ys k
            rw [show (false && decide (k = 0)) = false from rfl] at HQ
            generalize prun8 xs k = R at *
            generalize plev8 ys k = L at *
            generalize (pcode8 false xs ys k).size = n at *
            generalize (ptxt8 false xs ys k).size = A at *
            have heq := fun W => run_pair_neq R L R L W
            simp only [beq_self_eq_true, Bool.and_self, Bool.not_true] at heq
            have i1 : (0 : Int) ≤ (k : Int) := by omega
            have i2 : (k : Int) < (t : Int) := by omega
            have i3 : ¬ ((n : Int) < 1) := by omega
            have i4 : (A : Int) + (n : Int) ≤ 1000 := by omega
            clear hB9
            go_wp2_with fail
            refine HQ.out.mono ?_
            rintro e w9 ⟨rfl, b9⟩
            have b9' := b9.alloc (o := .cells #[.int .i64 R, .int .i64 L] 26 (0, 0)) b9.size
            obtain ⟨y0, y1⟩ := two_cells w9 (.int .i64 R) (.int .i64 L) 26
            have u0 := (b9'.cell (p := ⟨gl, k * 2, none⟩) hgl).trans z0
            have u1 := (b9'.cell (p := ⟨gl, k * 2 + 1, none⟩) hgl).trans z1
            have B10 := Lib.hid (below_chain HB9.out (Nat.le_refl _) b9')
            clear b9 b9' z0 z1 HQ
            go_wp2
            generalize w9.alloc (.cells #[.int .i64 R, .int .i64 L] 26 (0, 0)) = w10 at *
            go_quiet (fail)
            go_wp2
            go_roundw
            case rel => exact ⟨k + 1, by go_num, by omega, by rw [HSz.out]; go_num, B10.out.trans (below_drewN _ _ _)⟩
            case measure => simp [intOf]; omega
          · obtain rfl : k = t := by omega
            have HQ := Lib.hid (HGe.out _ hB9)
            have i4 : ((ptxt8 false xs ys k).size : Int) + 2 ≤ 1000 := by omega
            clear hB9
            go_wp2_with fail
            refine HQ.out.mono ?_
            rintro e w9 ⟨rfl, b9⟩
            have b9' := b9.alloc (o := .cells #[.int .i64 0, .int .i64 0] 26 (0, 0)) b9.size
            have B10 := Lib.hid (below_chain B8.out (Nat.le_refl _) (below_chain HB9.out (Nat.le_refl _) b9'))
            clear b9 b9'
            go_wp2
            go_ret
            exact ⟨rfl, B10.out⟩
    · have htE : t = len1 := by omega
      clear htE
      obtain ⟨av, cv, rfl⟩ := row_form2 HO.out
      have hA : AllBits (ptxt8 false xs ys t ++ ⟨#[49, 48]⟩) := (allB_iff _).1 (allBits_append (ptxt8_bits false xs ys t) (by decide +kernel))
      have hz : (ptxt8 false xs ys t ++ (⟨#[49, 48]⟩ : ByteArray)).size = (ptxt8 false xs ys t).size + 2 := by rw [ByteArray.size_append]; rfl
      have HY := Lib.hid (bytes8_any (w := wr) (n₀ := wr.heap.size) (a := none) (len := 0) (cap := 0) (ys := []) ⟨rfl, Nat.le_refl _, by omega, .inl rfl⟩ (Nat.le_refl _) (by omega) (ptxt8 false xs ys t ++ ⟨#[49, 48]⟩) hA _ rfl (by omega))
      have hsum : (ptxt8 false xs ys t).size + 2 ≤ 1000 := by omega
      clear hA
      go_wp2_with fail
      refine HY.out.mono ?_
      rintro e w8 ⟨zs, v8, rfl, hzl, ho8, hd8, b8⟩
      have hS8 : Stands zs 0 (ptxt8 false xs ys t ++ end8) := stands_of (by show (ptxt8 false xs ys t ++ (⟨#[49, 48]⟩ : ByteArray)).size ≤ _; omega) hd8
      have hBy := byt_own (n₀ := w8.heap.size) ho8 (by omega) (Nat.le_refl _)
      have B8 := Lib.hid (HB.out.trans (b8.mono hbs))
      have HO8 := Lib.hid (ownsRow_below2 HO.out b8)
      have HG : Hid (∀ W, Below w8.heap.size w8 W → ∀ k, k < t → Calls Tryd.prog 11 #[v8, .int .i64 ((ptxt8 false xs ys k).size : Nat), .bool (false && decide (k = 0))] W fun e W' => e = .returned (gotV ⟨prun8 xs k, plev8 ys k, false, (pcode8 false xs ys k).size, 0⟩) ∧ Below W.heap.size W W') := fun W hb k hk => by
        have hkz := ptxt8_size false xs ys k
        have h := I.get (hBy.below hb) hb.size (by omega) (HT.out _ (B8.out.trans (hb.mono B8.out.size))) ((ptxt8 false xs ys k).size : Nat) (false && decide (k = 0)) (by omega)
        have hq := got_put (first := false && decide (k = 0)) (r := prun8 xs k) (l := plev8 ys k) (isP_by _ _) (stands_code hS8 hk)
        rw [hq] at h
        exact h
      have HGe : Hid (∀ W, Below w8.heap.size w8 W → Calls Tryd.prog 11 #[v8, .int .i64 ((ptxt8 false xs ys t).size : Nat), .bool false] W fun e W' => e = .returned (gotV ⟨0, 0, true, 2, 0⟩) ∧ Below W.heap.size W W') := fun W hb => by
        have h := I.get (hBy.below hb) hb.size (by omega) (HT.out _ (B8.out.trans (hb.mono B8.out.size))) ((ptxt8 false xs ys t).size : Nat) false (by omega)
        rw [got_end (stands_end hS8)] at h
        exact h
      clear hzl ho8 hd8 b8 hS8 hBy HY HO
      go_wp2_with fail
      go_loopw [15, 16] (fun x i wr' => ∃ k : Nat, i = .int .i64 k ∧ k ≤ t ∧ x = .int .i64 ((ptxt8 false xs ys k).size : Nat) ∧ Below w8.heap.size w8 wr') (fun _ i _ => t - (intOf i).toNat)
      case atStart => exact ⟨0, rfl, Nat.zero_le _, rfl, Below.refl _ _⟩
      case round =>
        obtain ⟨k, rfl, hk, rfl, hB9⟩ := hrel
        have hkz := ptxt8_size false xs ys k
        have HB9 := Lib.hid hB9
        by_cases hk2 : k < t
        · obtain ⟨gl, rfl, hgl, z0, z1⟩ := row_cells8 (ownsRow_below2 HO8.out hB9) hk2
          have HQ := Lib.hid (HG.out _ hB9 k hk2)
          have HSz := Lib.hid (show (ptxt8 false xs ys (k + 1)).size = (ptxt8 false xs ys k).size + (pcode8 false xs ys k).size by rw [rfl_txt, ByteArray.size_append])
          obtain ⟨n1, n2⟩ := pcode8_size false xs ys k
          rw [show (false && decide (k = 0)) = false from rfl] at HQ
          generalize prun8 xs k = R at *
          generalize plev8 ys k = L at *
          generalize (pcode8 false xs ys k).size = n at *
          generalize (ptxt8 false xs ys k).size = A at *
          have heq := fun W => run_pair_neq R L R L W
          simp only [beq_self_eq_true, Bool.and_self, Bool.not_true] at heq
          have i1 : (0 : Int) ≤ (k : Int) := by omega
          have i2 : (k : Int) < (t : Int) := by omega
          have i3 : ¬ ((n : Int) < 1) := by omega
          have i4 : (A : Int) + (n : Int) ≤ 1000 := by omega
          clear hB9
          go_wp2_with fail
          refine HQ.out.mono ?_
          rintro e w9 ⟨rfl, b9⟩
          have b9' := b9.alloc (o := .cells #[.int .i64 R, .int .i64 L] 26 (0, 0)) b9.size
          obtain ⟨y0, y1⟩ := two_cells w9 (.int .i64 R) (.int .i64 L) 26
          have u0 := (b9'.cell (p := ⟨gl, k * 2, none⟩) hgl).trans z0
          have u1 := (b9'.cell (p := ⟨gl, k * 2 + 1, none⟩) hgl).trans z1
          have B10 := Lib.hid (below_chain HB9.out (Nat.le_refl _) b9')
          clear b9 b9' z0 z1 HQ
          go_wp2
          generalize w9.alloc (.cells #[.int .i64 R, .int .i64 L] 26 (0, 0)) = w10 at *
          go_quiet (fail)
          go_wp2
          go_roundw
          case rel => exact ⟨k + 1, by go_num, by omega, by rw [HSz.out]; go_num, B10.out.trans (below_drewN _ _ _)⟩
          case measure => simp [intOf]; omega
        · obtain rfl : k = t := by omega
          have HQ := Lib.hid (HGe.out _ hB9)
          have i4 : ((ptxt8 false xs ys k).size : Int) + 2 ≤ 1000 := by omega
          clear hB9
          go_wp2_with fail
          refine HQ.out.mono ?_
          rintro e w9 ⟨rfl, b9⟩
          have b9' := b9.alloc (o := .cells #[.int .i64 0, .int .i64 0] 26 (0, 0)) b9.size
          have B10 := Lib.hid (below_chain B8.out (Nat.le_refl _) (below_chain HB9.out (Nat.le_refl _) b9'))
          clear b9 b9'
          go_wp2
          go_ret
          exact ⟨rfl, B10.out⟩

theorem coeffList_walk (I : CoeffI) {w : World} {a1 a2 : Option Addr} {len1 cap1 len2 cap2 : Nat} {xs ys : List Int} (first : Bool) (hR1 : RowV w.heap.size w a1 len1 cap1 (intV xs)) (hR2 : RowV w.heap.size w a2 len2 cap2 (intV ys)) (hT : Lay8 w) :
    Calls Tryd.prog 8 #[.slice a1 len1 cap1, .slice a2 len2 cap2, .bool first] w fun e w' => e = .returned (.bool true) ∧ Below w.heap.size w w' := by
  cases first with
  | true => exact coeffList_first I hR1 hR2 hT
  | false => exact coeffList_later I hR1 hR2 hT

end Go.Proofs.YtejcgkplcbapfaaDoor
