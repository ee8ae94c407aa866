/- loop: the laws' helpers made and lines (praxinoscopelaw15). -/
import Derived.Test.YtdpnmddjhlkbjaaLLaw2
import Derived.Test.YtdpnmddjhlkbjaaQueue
namespace Go.Proofs.Ytdpnmddjhlkbjaa
open Go.RowKit Go.Shelf Go.Sort
set_option linter.unusedVariables false

/-- samples, and noughts behind -/
def madeS (zs : List UInt8) : List UInt8 := zs ++ List.replicate (64 - zs.length) 0
theorem madeS_length {zs : List UInt8} (h : zs.length ≤ 64) : (madeS zs).length = 64 := by unfold madeS; simp; omega
set_option maxRecDepth 100000 in
set_option maxHeartbeats 2000000 in
theorem made15_any {n₀ : Nat} {w : World} {av : Option Addr} {cap : Nat} {zs : List UInt8} (hB : Byt n₀ w (.slice av zs.length cap) zs) (hn : n₀ ≤ w.heap.size) (hl : zs.length ≤ 64) :
    Calls Try.prog 20 #[.slice av zs.length cap] w fun e w' => e = .returned (.slice (some ⟨w.heap.size, 0, none⟩) 64 64) ∧ BytR w' w.heap.size (madeS zs) ∧ Below w.heap.size w w' := by
  obtain ⟨a', cap', e0, -, hc⟩ := hB
  cases e0
  have hmk := made64b w
  have HN := Lib.hid (bytR_new w zeroB64)
  have HB1 := Lib.hid ((Below.refl _ w).alloc (Nat.le_refl _) (.cells (u8s zeroB64).toArray 5 (0, 0)))
  generalize w.alloc (.cells (u8s zeroB64).toArray 5 (0, 0)) = w2 at *
  have HSrc : Hid (0 < (u8s zs).length → ∃ ad, av = some ad ∧ ∀ j v, (u8s zs)[j]? = some v → w2.cell? (ad.add j) = some v) := fun hp => by
    rcases hc with e | ⟨b, off, rfl, hbl, hc⟩
    · rw [e] at hp; cases hp
    · refine ⟨_, rfl, fun j v hv => ?_⟩
      have hj : j < zs.length := by
        have := (List.getElem?_eq_some_iff.1 hv).1
        simpa using this
      have hadd : (⟨b, off, none⟩ : Addr).add j = ⟨b, off + j, none⟩ := by unfold Addr.add; split <;> simp_all
      rw [hadd, HB1.out.cell (p := ⟨b, off + j, none⟩) (by simp; omega), hc j hj, ← hv]
      simp [u8s, hj]
  have hsp : splice (u8s zeroB64) 0 (u8s zs) = u8s (madeS zs) := by
    unfold splice madeS
    rw [show u8s zeroB64 = List.replicate 64 (Value.int .u8 0) from rfl]
    simp [u8s, List.drop_replicate, -List.reduceReplicate]
  have HSp := Lib.hid hsp
  have HLz := Lib.hid hl
  have hll : (u8s zs).length = zs.length := by simp
  obtain ⟨w3, hrun, hcp⟩ := run_copy_bar (P := Try.prog) (w := w2) 22 22 3 5 Try.underlying22 info1_byte (some ⟨w.heap.size, 0, none⟩) av 64 64 zs.length cap w.heap.size 0 (u8s zeroB64) 5 HN.out (u8s zs) (by rw [hll]; exact (Nat.min_eq_left hl).symm) (fun hp => ⟨rfl, HSrc.out hp⟩) (by rw [hll]; simp [zeroB64]; omega) (by simp [u8s, Value.oneCell'])
  have HCp : Hid (CopiedTo w2 w3 w.heap.size 5 (u8s (madeS zs))) := by rw [← HSp.out]; exact hcp
  clear hcp hc hsp
  go_enter Try.func20, Try.ntmps20
  go_wp2_with fail
  go_ret
  exact ⟨rfl, HCp.out.1, HB1.out.trans (HCp.out.2.below HB1.out.size (fun k hk e => by omega))⟩

theorem i64s_of {l : List Int} (h : ∀ j, -1099511627776 ≤ nthC l j ∧ nthC l j ≤ 1099511627776) : I64s l := fun n hn => by
  obtain ⟨j, hj, rfl⟩ := List.getElem_of_mem hn
  have := h j
  unfold nthC at this
  rw [List.getElem?_eq_getElem hj] at this
  simp at this
  omega

set_option maxRecDepth 100000 in
set_option maxHeartbeats 4000000 in
theorem lines15_any (I : LoopI) {n₀ : Nat} {w : World} {av : Option Addr} {cap : Nat} {B : List Int} (hR : RowV n₀ w av 64 cap (intV B)) (hn : n₀ ≤ w.heap.size) (hin : ∀ j, -1099511627776 ≤ nthC B j ∧ nthC B j ≤ 1099511627776) (d : Bool) :
    Calls Try.prog 21 #[.slice av 64 cap, .bool d] w fun e w' => e = .returned (.tuple #[.slice (some ⟨w.heap.size, 0, none⟩) 64 64, .bool true]) ∧ NumsAt w' w.heap.size 3 (ofC 64 (lnL d (nthC B))) ∧ Below w.heap.size w w' := by
  have hl : B.length = 64 := by have := hR.1; simpa using this
  obtain ⟨i2, hi2', hz20, hz21, hz22⟩ := info_parts Try.info3y
  obtain ⟨b, off, rfl, hbl, hc⟩ := hR.cells (by omega)
  have HX := Lib.hid (fun W' (h : Below w.heap.size w W') j (hj : j < 64) => (h.cell (p := ⟨b, off + j, none⟩) (by simp; omega)).trans (hc j (.int .i64 (nthC B j)) (by simp [nthC, show j < B.length by omega])))
  have HLR := Lib.hid (fun (d : Bool) (f : Nat) (hf : f < 8) => soft_line d (b := nthC B) hin hf)
  have HI6 : Hid (∀ (d : Bool) (f : Nat), I64s (ofC 8 fun t => nthC B (plC d f t))) := fun d f => i64s_of fun j => by
    by_cases hj : j < 8
    · rw [ofC_get hj]; exact hin _
    · rw [ofC_out (by omega)]; omega
  have HSz := Lib.hid (fillG_zero d (lnL d (nthC B)))
  obtain ⟨w0, hw0⟩ : ∃ w0, w.alloc (.cells (numsA zeros64) 3 (0, 0)) = w0 := ⟨_, rfl⟩
  have hmk := made64 w
  have HN := Lib.hid (numsAt_new w 3 zeros64)
  have HBn := Lib.hid (ints64_new w 3 zeros64)
  rw [hw0] at hmk HN HBn
  clear hw0 hR hc hin
  cases d with
  | false =>
    go_enter Try.func21, Try.ntmps21
    go_wp2_with fail
    clear hmk
    go_loopw [7] (fun i wr => ∃ k : Nat, i = .int .i64 k ∧ k ≤ 8 ∧ NumsAt wr w.heap.size 3 (fillG false (lnL false (nthC B)) k 0) ∧ Below w.heap.size w wr) (fun i _ => 8 - (intOf i).toNat)
    case atStart => exact ⟨0, rfl, by omega, by rw [HSz.out]; exact HN.out, HBn.out⟩
    case round =>
      obtain ⟨i, rfl, hi, hN, hB⟩ := hrel
      have HM := Lib.hid hN
      have HB := Lib.hid hB
      have hs := hB.size
      have hsM := hN.lt
      clear hN hB
      by_cases hi2 : i < 8
      · have z1 : (i : Int) < 8 := by omega
        have z0 : (0 : Int) ≤ i := by omega
        rename World => wa
        go_wp2_with fail
        go_loopw [10, 11] (fun v k wr => ∃ j : Nat, k = .int .i64 j ∧ j ≤ 8 ∧ wr.ownsRow wa.heap.size 3 1 v j (intV (ofC j fun t => nthC B (plC false i t))) ∧ Below wa.heap.size wa wr) (fun _ k _ => 8 - (intOf k).toNat)
        case atStart => exact ⟨0, rfl, by omega, World.ownsRow_nil _ _ _ _, Below.refl _ _⟩
        case round =>
          obtain ⟨j, rfl, hj, hO, hBw⟩ := hrel
          have HO := Lib.hid hO
          have HBw := Lib.hid hBw
          have hs2 := hBw.size
          have HB2 := Lib.hid (HB.out.trans (hBw.mono hs))
          clear hO hBw
          by_cases hj2 : j < 8
          · have z2 : (j : Int) < 8 := by omega
            have z3 : (0 : Int) ≤ j := by omega
            have x1 := HX.out wr HB2.out (8 * i + j) (by omega)
            have HSn := Lib.hid (show intV (ofC j fun t => nthC B (plC false i t)) ++ [.int .i64 (nthC B (8 * i + j))] = intV (ofC (j + 1) fun t => nthC B (plC false i t)) from ofC_snocL j fun t => nthC B (plC false i t))
            generalize nthC B (8 * i + j) = y at *
            go_wp2_with (at_builtin; go_loud (refine wpList_append_v rfl _ _ 23 3 i2 (.int .i64 0) 8 rfl Try.underlying23y hi2' hz20 hz21 hz22 rfl wa.heap.size _ j _ rfl (HO.out.alloc _) (some ⟨wr.heap.size, 0, none⟩) 1 1 [.int .i64 y] rfl (src_one _ _ _) (fun e => nomatch e) (by simp [Value.oneCell']) (by omega) (by omega) (by simp; omega) ?_); intro v1 w1 hap; have HA := Lib.hid hap; clear hap)
            go_roundw
            case rel =>
              refine ⟨j + 1, by go_num, by omega, ?_, ?_⟩
              · rw [← HSn.out]
                exact HA.out.1
              · exact (HBw.out.alloc (by omega) _).grown HA.out.2.1 (by simp; omega) (fun k e => (HO.out.lt k e).1)
            case measure => simp [intOf]; omega
          · obtain rfl : j = 8 := by omega
            obtain ⟨a1, cp1, rfl, hr1⟩ := rowV_own4 HO.out
            have HL := Lib.hid (I.soften hr1 (Nat.le_refl _) (by omega) (HI6.out false i))
            obtain ⟨l1, l2, l3⟩ := HLR.out false i hi2
            rw [l1, l2] at HL
            have HLp := Lib.hid l3
            have HMw := Lib.hid (HM.out.below HBw.out hsM)
            have HStp := Lib.hid (fun k hk => @fillG_step false (lnL false (nthC B)) i k hi2 hk)
            have HNx := Lib.hid (fillG_next false (lnL false (nthC B)) i)
            have HML := Lib.hid (fun k => fillG_length false (lnL false (nthC B)) i k)
            generalize sfL (ofC 8 fun t => nthC B (plC false i t)) = L at *
            clear hr1 l1 l2 l3
            go_wp2_with fail
            refine HL.out.mono ?_
            rintro e w3 ⟨v3, rfl, ho3, hb3⟩
            obtain ⟨g3, cp3, rfl, hg3, hl3, hc3⟩ := own_cellsC ho3 (by omega)
            have HC3 := Lib.hid hc3
            have HM3 := Lib.hid (HMw.out.below hb3 (by omega))
            have HB3 := Lib.hid (HB2.out.trans (hb3.mono HB2.out.size))
            clear ho3 hc3 hb3 HL
            go_wp2_with fail
            go_loopw [14] (fun k ws => ∃ j : Nat, k = .int .i64 j ∧ j ≤ 8 ∧ NumsAt ws w.heap.size 3 (fillG false (lnL false (nthC B)) i j) ∧ Bar (fun q => q = w.heap.size) w3 ws) (fun k _ => 8 - (intOf k).toNat)
            case atStart => exact ⟨0, rfl, by omega, HM3.out, Bar.refl _ _⟩
            case round =>
              obtain ⟨k, rfl, hk, hNk, hBk⟩ := hrel
              have HNk := Lib.hid hNk
              have HBk := Lib.hid hBk
              clear hNk hBk
              by_cases hk2 : k < 8
              · have y2 : (k : Int) < 8 := by omega
                have y3 : (0 : Int) ≤ k := by omega
                have x1 := (HBk.out.cellC (p := ⟨g3, k, none⟩) (by simp; omega) (by simp; omega)).trans (HC3.out k hk2)
                have c1 := HNk.out.cell (k := 8 * i + k) (by rw [HML.out]; omega)
                have f1 := HNk.out.frozen (8 * i + k)
                have HS1 := Lib.hid (show (fillG false (lnL false (nthC B)) i k).set (8 * i + k) (nthC L k) = fillG false (lnL false (nthC B)) i (k + 1) by rw [HLp.out k hk2]; exact HStp.out k hk2)
                rw [show L[k]?.getD 0 = nthC L k from rfl] at x1
                generalize nthC L k = y at *
                go_wp2_with fail
                go_roundw
                case rel => exact ⟨k + 1, by go_num, by omega, by rw [← HS1.out]; exact HNk.out.set _ _, HBk.out.setCell (p := ⟨w.heap.size, 8 * i + k, none⟩) (fun _ => rfl) _⟩
                case measure => simp [intOf]; omega
              · obtain rfl : k = 8 := by omega
                have HB5 := Lib.hid (HB3.out.trans (HBk.out.below (B := w.heap.size) (by have := HB3.out.size; omega) (fun k hk e => by omega)))
                go_wp2_with fail
                go_roundw
                case rel => exact ⟨i + 1, by go_num, by omega, by rw [← HNx.out]; exact HNk.out, HB5.out⟩
                case measure => simp [intOf]; omega
      · obtain rfl : i = 8 := by omega
        rw [fillG_all] at HM
        go_wp2_with fail
        go_ret2
        exact ⟨rfl, HM.out, HB.out⟩
  | true =>
    go_enter Try.func21, Try.ntmps21
    go_wp2_with fail
    clear hmk
    go_loopw [7] (fun i wr => ∃ k : Nat, i = .int .i64 k ∧ k ≤ 8 ∧ NumsAt wr w.heap.size 3 (fillG true (lnL true (nthC B)) k 0) ∧ Below w.heap.size w wr) (fun i _ => 8 - (intOf i).toNat)
    case atStart => exact ⟨0, rfl, by omega, by rw [HSz.out]; exact HN.out, HBn.out⟩
    case round =>
      obtain ⟨i, rfl, hi, hN, hB⟩ := hrel
      have HM := Lib.hid hN
      have HB := Lib.hid hB
      have hs := hB.size
      have hsM := hN.lt
      clear hN hB
      by_cases hi2 : i < 8
      · have z1 : (i : Int) < 8 := by omega
        have z0 : (0 : Int) ≤ i := by omega
        rename World => wa
        go_wp2_with fail
        go_loopw [10, 11] (fun v k wr => ∃ j : Nat, k = .int .i64 j ∧ j ≤ 8 ∧ wr.ownsRow wa.heap.size 3 1 v j (intV (ofC j fun t => nthC B (plC true i t))) ∧ Below wa.heap.size wa wr) (fun _ k _ => 8 - (intOf k).toNat)
        case atStart => exact ⟨0, rfl, by omega, World.ownsRow_nil _ _ _ _, Below.refl _ _⟩
        case round =>
          obtain ⟨j, rfl, hj, hO, hBw⟩ := hrel
          have HO := Lib.hid hO
          have HBw := Lib.hid hBw
          have hs2 := hBw.size
          have HB2 := Lib.hid (HB.out.trans (hBw.mono hs))
          clear hO hBw
          by_cases hj2 : j < 8
          · have z2 : (j : Int) < 8 := by omega
            have z3 : (0 : Int) ≤ j := by omega
            have x1 := HX.out wr HB2.out (i + j * 8) (by omega)
            have HSn := Lib.hid (show intV (ofC j fun t => nthC B (plC true i t)) ++ [.int .i64 (nthC B (i + j * 8))] = intV (ofC (j + 1) fun t => nthC B (plC true i t)) by have h := ofC_snocL j fun t => nthC B (plC true i t); rwa [show plC true i j = i + j * 8 by simp [plC]; omega] at h)
            generalize nthC B (i + j * 8) = y at *
            go_wp2_with (at_builtin; go_loud (refine wpList_append_v rfl _ _ 23 3 i2 (.int .i64 0) 8 rfl Try.underlying23y hi2' hz20 hz21 hz22 rfl wa.heap.size _ j _ rfl (HO.out.alloc _) (some ⟨wr.heap.size, 0, none⟩) 1 1 [.int .i64 y] rfl (src_one _ _ _) (fun e => nomatch e) (by simp [Value.oneCell']) (by omega) (by omega) (by simp; omega) ?_); intro v1 w1 hap; have HA := Lib.hid hap; clear hap)
            go_roundw
            case rel =>
              refine ⟨j + 1, by go_num, by omega, ?_, ?_⟩
              · rw [← HSn.out]
                exact HA.out.1
              · exact (HBw.out.alloc (by omega) _).grown HA.out.2.1 (by simp; omega) (fun k e => (HO.out.lt k e).1)
            case measure => simp [intOf]; omega
          · obtain rfl : j = 8 := by omega
            obtain ⟨a1, cp1, rfl, hr1⟩ := rowV_own4 HO.out
            have HL := Lib.hid (I.soften hr1 (Nat.le_refl _) (by omega) (HI6.out true i))
            obtain ⟨l1, l2, l3⟩ := HLR.out true i hi2
            rw [l1, l2] at HL
            have HLp := Lib.hid l3
            have HMw := Lib.hid (HM.out.below HBw.out hsM)
            have HStp := Lib.hid (fun k hk => @fillG_step true (lnL true (nthC B)) i k hi2 hk)
            have HNx := Lib.hid (fillG_next true (lnL true (nthC B)) i)
            have HML := Lib.hid (fun k => fillG_length true (lnL true (nthC B)) i k)
            generalize sfL (ofC 8 fun t => nthC B (plC true i t)) = L at *
            clear hr1 l1 l2 l3
            go_wp2_with fail
            refine HL.out.mono ?_
            rintro e w3 ⟨v3, rfl, ho3, hb3⟩
            obtain ⟨g3, cp3, rfl, hg3, hl3, hc3⟩ := own_cellsC ho3 (by omega)
            have HC3 := Lib.hid hc3
            have HM3 := Lib.hid (HMw.out.below hb3 (by omega))
            have HB3 := Lib.hid (HB2.out.trans (hb3.mono HB2.out.size))
            clear ho3 hc3 hb3 HL
            go_wp2_with fail
            go_loopw [14] (fun k ws => ∃ j : Nat, k = .int .i64 j ∧ j ≤ 8 ∧ NumsAt ws w.heap.size 3 (fillG true (lnL true (nthC B)) i j) ∧ Bar (fun q => q = w.heap.size) w3 ws) (fun k _ => 8 - (intOf k).toNat)
            case atStart => exact ⟨0, rfl, by omega, HM3.out, Bar.refl _ _⟩
            case round =>
              obtain ⟨k, rfl, hk, hNk, hBk⟩ := hrel
              have HNk := Lib.hid hNk
              have HBk := Lib.hid hBk
              clear hNk hBk
              by_cases hk2 : k < 8
              · have y2 : (k : Int) < 8 := by omega
                have y3 : (0 : Int) ≤ k := by omega
                have x1 := (HBk.out.cellC (p := ⟨g3, k, none⟩) (by simp; omega) (by simp; omega)).trans (HC3.out k hk2)
                have c1 := HNk.out.cell (k := i + k * 8) (by rw [HML.out]; omega)
                have f1 := HNk.out.frozen (i + k * 8)
                have HS1 := Lib.hid (show (fillG true (lnL true (nthC B)) i k).set (i + k * 8) (nthC L k) = fillG true (lnL true (nthC B)) i (k + 1) by have h := HStp.out k hk2; rw [← HLp.out k hk2, show plC true i k = i + k * 8 by simp [plC]; omega] at h; exact h)
                rw [show L[k]?.getD 0 = nthC L k from rfl] at x1
                generalize nthC L k = y at *
                go_wp2_with fail
                go_roundw
                case rel => exact ⟨k + 1, by go_num, by omega, by rw [← HS1.out]; exact HNk.out.set _ _, HBk.out.setCell (p := ⟨w.heap.size, i + k * 8, none⟩) (fun _ => rfl) _⟩
                case measure => simp [intOf]; omega
              · obtain rfl : k = 8 := by omega
                have HB5 := Lib.hid (HB3.out.trans (HBk.out.below (B := w.heap.size) (by have := HB3.out.size; omega) (fun k hk e => by omega)))
                go_wp2_with fail
                go_roundw
                case rel => exact ⟨i + 1, by go_num, by omega, by rw [← HNx.out]; exact HNk.out, HB5.out⟩
                case measure => simp [intOf]; omega
      · obtain rfl : i = 8 := by omega
        rw [fillG_all] at HM
        go_wp2_with fail
        go_ret2
        exact ⟨rfl, HM.out, HB.out⟩

end Go.Proofs.Ytdpnmddjhlkbjaa
