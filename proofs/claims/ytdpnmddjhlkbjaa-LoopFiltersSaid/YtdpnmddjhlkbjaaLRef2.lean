/- loop: the reference's Filter (praxinoscoperef15). -/
import Derived.Test.YtdpnmddjhlkbjaaLRef
import Derived.Test.YtdpnmddjhlkbjaaBytR
namespace Go.Proofs.Ytdpnmddjhlkbjaa
open Go.RowKit Go.Shelf Go.Sort
set_option linter.unusedVariables false

theorem a64_zero15 : (Try.prog.info? 48).map (·.zero) = some (some (.agg (numsA zeros64))) := by kernel_rfl

set_option maxRecDepth 100000 in
set_option maxHeartbeats 4000000 in
theorem rfilter15_any {n₀ : Nat} {w : World} {sv : Value} {zs : List UInt8} (hB : Byt n₀ w sv zs) (hn : n₀ ≤ w.heap.size) :
    Calls Try.prog 12 #[sv] w fun e w' => ∃ v, e = .returned (.tuple #[v, .int .i64 (fbE zs.length)]) ∧ w'.ownsRow w.heap.size 5 1 v (fbL zs).length (u8s (fbL zs)) ∧ Below w.heap.size w w' := by
  obtain ⟨av, cap, rfl, hlen, hcell⟩ := hB
  by_cases h64 : zs.length = 64
  · have hE : fbE zs.length = 0 := if_pos h64
    have hL : fbL zs = (List.range 64).map (fbB zs) := if_pos h64
    rw [hE, hL, List.length_map, List.length_range]
    rcases hcell with e | ⟨b, off, rfl, hbl, hc⟩
    · rw [e] at h64; cases h64
    have HX := Lib.hid (fun W' (h : Below w.heap.size w W') j (hj : j < 64) => (h.cell (p := ⟨b, off + j, none⟩) (by simp; omega)).trans (hc j (by omega)))
    have HIn := Lib.hid (bN_in zs)
    have HF := Lib.hid (show ∀ j, j < 64 → ((fbB zs j).toNat : Int) = (lnL true (nthC (ofC 64 (lnL false (bN zs)))) j + 8) / 16 from fun j hj => by rw [fbB_val hj, ln_twice _ hj])
    generalize fbB zs = FB at *
    rw [h64]
    clear hc hlen hE hL h64
    obtain ⟨i2, hi2', hz20, hz21, hz22⟩ := info_parts Try.info3y
    go_enter Try.func12, Try.ntmps12
    go_wp2_with (with_reducible refine wpList_allocZ rfl 48 (numsA zeros64) rfl a64_zero15 ?_)
    have HM0 := Lib.hid (numsAt_new w 48 zeros64)
    have HB0 := Lib.hid (ints64_new w 48 zeros64)
    generalize w.alloc (.cells (numsA zeros64) 48) = w1 at *
    have HLn : Hid (∀ f, f < 8 → sfE (ofC 8 fun t => bN zs (8 * f + t)) = 0 ∧ (sfL (ofC 8 fun t => bN zs (8 * f + t))).length = 8 ∧ ∀ k, k < 8 → nthC (sfL (ofC 8 fun t => bN zs (8 * f + t))) k = lnL false (bN zs) (8 * f + k)) := fun f hf => soft_line false (b := bN zs) (fun k => by have := bN_in zs k; omega) hf
    go_loopw [5] (fun i wr => ∃ y : Nat, i = .int .i64 y ∧ y ≤ 8 ∧ NumsAt wr w.heap.size 48 (fillG false (lnL false (bN zs)) y 0) ∧ Below w.heap.size w wr) (fun i _ => 8 - (intOf i).toNat)
    case atStart => exact ⟨0, rfl, by omega, by rw [fillG_zero]; exact HM0.out, HB0.out⟩
    case round =>
      obtain ⟨y, rfl, hy, hN, hB⟩ := hrel
      have HM := Lib.hid hN
      have HB := Lib.hid hB
      have hs := hB.size
      have hsM := hN.lt
      clear hN hB
      by_cases hy2 : y < 8
      · have z1 : (y : Int) < 8 := by omega
        have z0 : (0 : Int) ≤ y := by omega
        rename World => wa
        go_wp2_with fail
        go_loopw [6, 7] (fun v k wr => ∃ j : Nat, k = .int .i64 j ∧ j ≤ 8 ∧ wr.ownsRow wa.heap.size 3 1 v j (intV (ofC j fun u => bN zs (8 * y + u))) ∧ Below wa.heap.size wa wr) (fun _ k _ => 8 - (intOf k).toNat)
        case atStart => exact ⟨0, rfl, by omega, World.ownsRow_nil _ _ _ _, Below.refl _ _⟩
        case round =>
          obtain ⟨j, rfl, hj, hO, hBw⟩ := hrel
          have HO := Lib.hid hO
          have HBw := Lib.hid hBw
          have HB2 := Lib.hid (HB.out.trans (hBw.mono hs))
          have hs2 := hBw.size
          clear hO hBw
          by_cases hj2 : j < 8
          · have z2 : (j : Int) < 8 := by omega
            have z3 : (0 : Int) ≤ j := by omega
            have x1 := HX.out wr HB2.out (8 * y + j) (by omega)
            have HSn := Lib.hid (show intV (ofC j fun u => bN zs (8 * y + u)) ++ [.int .i64 (((zs[8 * y + j]?.getD 0).toNat : Nat) : Int)] = intV (ofC (j + 1) fun u => bN zs (8 * y + u)) from ofC_snocL j fun u => bN zs (8 * y + u))
            generalize zs[8 * y + j]?.getD 0 = z at *
            have hz8 := z.toNat_lt
            have hz9 : ((z.toNat : Nat) : Int) < 256 := by omega
            have hz7 : (0 : Int) ≤ ((z.toNat : Nat) : Int) := by omega
            go_wp2_with (at_builtin; go_loud (refine wpList_append_v rfl _ _ 23 3 i2 (.int .i64 0) 8 rfl Try.underlying23y hi2' hz20 hz21 hz22 rfl wa.heap.size _ j _ rfl (HO.out.alloc _) (some ⟨wr.heap.size, 0, none⟩) 1 1 [.int .i64 ((z.toNat : Nat) : Int)] rfl (src_one _ _ _) (fun e => nomatch e) (by simp [Value.oneCell']) (by omega) (by omega) (by simp; omega) ?_); intro v1 w1 hap; have HA := Lib.hid hap; clear hap)
            go_roundw
            case rel =>
              refine ⟨j + 1, by go_num, by omega, ?_, ?_⟩
              · rw [← HSn.out]
                exact HA.out.1
              · exact (HBw.out.alloc (by omega) _).grown HA.out.2.1 (by simp; omega) (fun k e => (HO.out.lt k e).1)
            case measure => simp [intOf]; omega
          · obtain rfl : j = 8 := by omega
            obtain ⟨a1, cp1, rfl, hr1⟩ := rowV_own4 HO.out
            have HSf := Lib.hid (rsoften15_any hr1 (Nat.le_refl _) (by omega))
            obtain ⟨l1, l2, l3⟩ := HLn.out y hy2
            rw [l1, l2] at HSf
            have HL3 := Lib.hid l3
            have HMw := Lib.hid (HM.out.below HBw.out hsM)
            have HStp := Lib.hid (fun k hk => @fillG_step false (lnL false (bN zs)) y k hy2 hk)
            have HNx := Lib.hid (fillG_next false (lnL false (bN zs)) y)
            have HML := Lib.hid (fun k => fillG_length false (lnL false (bN zs)) y k)
            generalize sfL (ofC 8 fun t => bN zs (8 * y + t)) = L at *
            clear hr1 l1 l2 l3
            go_wp2_with fail
            refine HSf.out.mono ?_
            rintro e w3 ⟨v3, rfl, ho3, hb3⟩
            obtain ⟨g3, cp3, rfl, hg3, hl3, hc3⟩ := own_cellsC ho3 (by omega)
            have HC3 := Lib.hid hc3
            have HM3 := Lib.hid (HMw.out.below hb3 (by have := HBw.out.size; omega))
            have HB3 := Lib.hid (HB2.out.trans (hb3.mono HB2.out.size))
            have hbs := HBw.out.size
            clear ho3 hc3 hb3 HSf
            go_wp2_with fail
            go_loopw [10] (fun k ws => ∃ j : Nat, k = .int .i64 j ∧ j ≤ 8 ∧ NumsAt ws w.heap.size 48 (fillG false (lnL false (bN zs)) y j) ∧ Bar (fun q => q = w.heap.size) w3 ws) (fun k _ => 8 - (intOf k).toNat)
            case atStart => exact ⟨0, rfl, by omega, HM3.out, Bar.refl _ _⟩
            case round =>
              obtain ⟨k, rfl, hk, hNk, hBk⟩ := hrel
              have HNk := Lib.hid hNk
              have HBk := Lib.hid hBk
              clear hNk hBk
              by_cases hk2 : k < 8
              · have y2 : (k : Int) < 8 := by omega
                have y3 : (0 : Int) ≤ k := by omega
                have x1 := (HBk.out.cellC (p := ⟨g3, k, none⟩) (by simp; omega) (by simp; omega)).trans (HC3.out k hk2)
                have c1 := HNk.out.cell (k := 8 * y + k) (by rw [HML.out]; omega)
                have f1 := HNk.out.frozen (8 * y + k)
                have HS1 := Lib.hid (show (fillG false (lnL false (bN zs)) y k).set (8 * y + k) (nthC L k) = fillG false (lnL false (bN zs)) y (k + 1) by rw [HL3.out k hk2]; exact HStp.out k hk2)
                rw [show L[k]?.getD 0 = nthC L k from rfl] at x1
                generalize nthC L k = q at *
                go_wp2_with fail
                go_roundw
                case rel => exact ⟨k + 1, by go_num, by omega, by rw [← HS1.out]; exact HNk.out.set _ _, HBk.out.setCell (p := ⟨w.heap.size, 8 * y + k, none⟩) (fun _ => rfl) _⟩
                case measure => simp [intOf]; omega
              · obtain rfl : k = 8 := by omega
                have HB5 := Lib.hid (HB3.out.trans (HBk.out.below (B := w.heap.size) (by have := HB3.out.size; omega) (fun k hk e => by omega)))
                go_wp2_with fail
                go_roundw
                case rel => exact ⟨y + 1, by go_num, by omega, by rw [← HNx.out]; exact HNk.out, HB5.out⟩
                case measure => simp [intOf]; omega
      · obtain rfl : y = 8 := by omega
        rw [fillG_all] at HM
        rename World => wb
        have hmk := made64b wb
        have HO0 := Lib.hid (bytR_new wb zeroB64)
        have HB1 := Lib.hid ((Below.refl _ wb).alloc (Nat.le_refl _) (.cells (u8s zeroB64).toArray 5 (0, 0)))
        generalize hw2 : wb.alloc (.cells (u8s zeroB64).toArray 5 (0, 0)) = w2 at *
        go_wp2_with fail
        clear hmk
        have HM2 := Lib.hid (HM.out.below HB1.out hsM)
        have HB2 := Lib.hid (HB.out.trans (HB1.out.mono hs))
        have hsz2 : w2.heap.size = wb.heap.size + 1 := by rw [← hw2]; simp
        have hRl : (ofC 64 (lnL false (bN zs))).length = 64 := ofC_length _ _
        have hRi : ∀ j, 0 ≤ nthC (ofC 64 (lnL false (bN zs))) j ∧ nthC (ofC 64 (lnL false (bN zs))) j ≤ 1020 := fun j => by
          by_cases hj : j < 64
          · rw [ofC_get hj]
            have := lnL_in (d := false) (b := bN zs) (lo := 0) (hi := 255) (fun k => HIn.out k) hj
            omega
          · rw [ofC_out (by omega)]; omega
        have HLn2 : Hid (∀ f, f < 8 → sfE (ofC 8 fun t => nthC (ofC 64 (lnL false (bN zs))) (8 * t + f)) = 0 ∧ (sfL (ofC 8 fun t => nthC (ofC 64 (lnL false (bN zs))) (8 * t + f))).length = 8 ∧ ∀ k, k < 8 → nthC (sfL (ofC 8 fun t => nthC (ofC 64 (lnL false (bN zs))) (8 * t + f))) k = lnL true (nthC (ofC 64 (lnL false (bN zs)))) (8 * k + f)) := fun f hf => soft_line true (b := nthC (ofC 64 (lnL false (bN zs)))) (fun k => by have := hRi k; omega) hf
        have HL4 : Hid (∀ f k, f < 8 → k < 8 → 0 ≤ lnL true (nthC (ofC 64 (lnL false (bN zs)))) (8 * k + f) ∧ lnL true (nthC (ofC 64 (lnL false (bN zs)))) (8 * k + f) ≤ 4080) := fun f k hf hk => by
          have := lnL_in (d := true) (lo := 0) (hi := 1020) hRi (show 8 * k + f < 64 by omega)
          omega
        clear hw2 HM HB HB1 hRi HLn HIn HX
        generalize ofC 64 (lnL false (bN zs)) = R at *
        go_loopw [12] (fun i wr => ∃ x : Nat, i = .int .i64 x ∧ x ≤ 8 ∧ NumsAt wr w.heap.size 48 R ∧ BytR wr wb.heap.size (fillB true FB x 0) ∧ Below w.heap.size w wr) (fun i _ => 8 - (intOf i).toNat)
        case atStart => exact ⟨0, rfl, by omega, HM2.out, by rw [fillB_zero]; exact HO0.out, HB2.out⟩
        case round =>
          obtain ⟨x, rfl, hx, hN, hO, hB⟩ := hrel
          have HMs := Lib.hid hN
          have HOs := Lib.hid hO
          have HBs := Lib.hid hB
          have hs := hB.size
          have hsM := hN.lt
          have hsO := hO.lt
          clear hN hO hB
          by_cases hx2 : x < 8
          · have z1 : (x : Int) < 8 := by omega
            have z0 : (0 : Int) ≤ x := by omega
            rename World => wa
            go_wp2_with fail
            go_loopw [13, 14] (fun v k wr => ∃ j : Nat, k = .int .i64 j ∧ j ≤ 8 ∧ wr.ownsRow wa.heap.size 3 1 v j (intV (ofC j fun v => nthC R (8 * v + x))) ∧ Below wa.heap.size wa wr) (fun _ k _ => 8 - (intOf k).toNat)
            case atStart => exact ⟨0, rfl, by omega, World.ownsRow_nil _ _ _ _, Below.refl _ _⟩
            case round =>
              obtain ⟨j, rfl, hj, hO, hBw⟩ := hrel
              have HO := Lib.hid hO
              have HBw := Lib.hid hBw
              have HB2 := Lib.hid (HBs.out.trans (hBw.mono hs))
              have hs2 := hBw.size
              clear hO hBw
              by_cases hj2 : j < 8
              · have z2 : (j : Int) < 8 := by omega
                have z3 : (0 : Int) ≤ j := by omega
                have x1 := (HMs.out.below HBw.out hsM).cell (k := 8 * j + x) (by rw [hRl]; omega)
                rw [show R[8 * j + x]?.getD 0 = nthC R (8 * j + x) from rfl] at x1
                have HSn := Lib.hid (show intV (ofC j fun v => nthC R (8 * v + x)) ++ [.int .i64 (nthC R (8 * j + x))] = intV (ofC (j + 1) fun v => nthC R (8 * v + x)) from ofC_snocL j fun v => nthC R (8 * v + x))
                generalize nthC R (8 * j + x) = q at *
                go_wp2_with (at_builtin; go_loud (refine wpList_append_v rfl _ _ 23 3 i2 (.int .i64 0) 8 rfl Try.underlying23y hi2' hz20 hz21 hz22 rfl wa.heap.size _ j _ rfl (HO.out.alloc _) (some ⟨wr.heap.size, 0, none⟩) 1 1 [.int .i64 q] rfl (src_one _ _ _) (fun e => nomatch e) (by simp [Value.oneCell']) (by omega) (by omega) (by simp; omega) ?_); intro v1 w1 hap; have HA := Lib.hid hap; clear hap)
                go_roundw
                case rel =>
                  repeat apply Exists.intro
                  exact ⟨⟨j + 1, by go_num, by omega, by rw [← HSn.out]; exact HA.out.1, (HBw.out.alloc (by omega) _).grown HA.out.2.1 (by simp; omega) (fun k e => (HO.out.lt k e).1)⟩, rfl⟩
                case measure => simp [intOf]; omega
              · obtain rfl : j = 8 := by omega
                obtain ⟨a1, cp1, rfl, hr1⟩ := rowV_own4 HO.out
                have HSf := Lib.hid (rsoften15_any hr1 (Nat.le_refl _) (by omega))
                obtain ⟨l1, l2, l3⟩ := HLn2.out x hx2
                rw [l1, l2] at HSf
                have HL3 := Lib.hid l3
                have HMw := Lib.hid (HMs.out.below HBw.out hsM)
                have HOw := Lib.hid (HOs.out.below HBw.out hsO)
                have HStp := Lib.hid (fun k hk => @fillB_step true FB x k hx2 hk)
                have HNx := Lib.hid (fillB_next true FB x)
                have HML := Lib.hid (fun k => fillB_length true FB x k)
                generalize sfL (ofC 8 fun t => nthC R (8 * t + x)) = L at *
                clear hr1 l1 l2 l3
                go_wp2_with fail
                refine HSf.out.mono ?_
                rintro e w3 ⟨v3, rfl, ho3, hb3⟩
                obtain ⟨g3, cp3, rfl, hg3, hl3, hc3⟩ := own_cellsC ho3 (by omega)
                have HC3 := Lib.hid hc3
                have HM3 := Lib.hid (HMw.out.below hb3 (by omega))
                have HO3 := Lib.hid (HOw.out.below hb3 (by omega))
                have HB3 := Lib.hid (HB2.out.trans (hb3.mono HB2.out.size))
                have hs3 := hb3.size
                clear ho3 hc3 hb3 HSf
                go_wp2_with fail
                go_loopw [17] (fun k ws => ∃ j : Nat, k = .int .i64 j ∧ j ≤ 8 ∧ BytR ws wb.heap.size (fillB true FB x j) ∧ Bar (fun q => q = wb.heap.size) w3 ws) (fun k _ => 8 - (intOf k).toNat)
                case atStart => exact ⟨0, rfl, by omega, HO3.out, Bar.refl _ _⟩
                case round =>
                  obtain ⟨k, rfl, hk, hNk, hBk⟩ := hrel
                  have HNk := Lib.hid hNk
                  have HBk := Lib.hid hBk
                  clear hNk hBk
                  by_cases hk2 : k < 8
                  · have y2 : (k : Int) < 8 := by omega
                    have y3 : (0 : Int) ≤ k := by omega
                    have x1 := (HBk.out.cellC (p := ⟨g3, k, none⟩) (by simp; omega) (by simp; omega)).trans (HC3.out k hk2)
                    rw [show L[k]?.getD 0 = nthC L k from rfl] at x1
                    have c1 := HNk.out.cell (k := 8 * k + x) (by rw [HML.out]; omega)
                    have f1 := HNk.out.frozen (8 * k + x)
                    have hF := HF.out (8 * k + x) (by omega)
                    rw [← HL3.out k hk2] at hF
                    have hqi := HL4.out x k hx2 hk2
                    rw [← HL3.out k hk2] at hqi
                    have HS1 := Lib.hid (show (fillB true FB x k).set (8 * k + x) (FB (8 * k + x)) = fillB true FB x (k + 1) from HStp.out k hk2)
                    generalize nthC L k = q at *
                    generalize FB (8 * k + x) = z at *
                    have e1 : IntKind.i64.wrap (q + 8) = q + 8 := by rw [IntKind.wrap_i64]; omega
                    have e2 : Int.tdiv (q + 8) 16 = ((z.toNat : Nat) : Int) := by rw [Int.tdiv_eq_ediv_of_nonneg (by omega)]; omega
                    have hz8 := z.toNat_lt
                    have e3 : IntKind.u8.wrap ((z.toNat : Nat) : Int) = ((z.toNat : Nat) : Int) := by rw [IntKind.wrap_u8]; omega
                    clear hF
                    go_wp2_with fail
                    go_roundw
                    case rel => exact ⟨k + 1, by go_num, by omega, by rw [← HS1.out]; exact HNk.out.set _ _, HBk.out.setCell (p := ⟨wb.heap.size, 8 * k + x, none⟩) (fun _ => rfl) _⟩
                    case measure => simp [intOf]; omega
                  · obtain rfl : k = 8 := by omega
                    have HB5 := Lib.hid (HB3.out.trans (HBk.out.below (B := w.heap.size) (by have := HB3.out.size; omega) (fun k hk e => by omega)))
                    have HM5 : Hid (NumsAt _ w.heap.size 48 R) := ((HBk.out.block _ (by omega) (by omega)).trans HM3.out : NumsAt _ w.heap.size 48 R)
                    go_wp2_with fail
                    go_roundw
                    case rel =>
                      repeat apply Exists.intro
                      exact ⟨⟨x + 1, by go_num, by omega, HM5.out, by rw [← HNx.out]; exact HNk.out, HB5.out⟩, rfl⟩
                    case measure => simp [intOf]; omega
          · obtain rfl : x = 8 := by omega
            rw [fillB_all] at HOs
            have HOw := Lib.hid (HOs.out.own (n := 64) (by simp) (by omega) (base := w.heap.size) (by omega))
            go_wp2_with fail
            exact bodyPost_ret (v := .tuple #[.slice (some ⟨wb.heap.size, 0, none⟩) 64 64, .int .i64 0]) (by simp [results, Try.f12, go_sem]) rfl ⟨_, rfl, HOw.out, HBs.out⟩
  · have hE : fbE zs.length = 2 := if_neg h64
    have hL : fbL zs = [] := if_neg h64
    rw [hE, hL]
    have t1 : ((zs.length : Int) != 64) = true := by simp; omega
    go_enter Try.func12, Try.ntmps12
    go_wp2
    exact bodyPost_ret (v := .tuple #[.slice none 0 0, .int .i64 2]) (by simp [results, Try.f12, go_sem]) rfl ⟨.slice none 0 0, rfl, World.ownsRow_nil _ _ _ _, Below.refl _ _⟩

end Go.Proofs.Ytdpnmddjhlkbjaa
