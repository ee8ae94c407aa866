/- The law's helper lines (praxinoscopelaw11). -/
import Derived.Test.YtpmdeoiajnfabaaCMade
namespace Go.Proofs.Ytpmdeoiajnfabaa
open Go.RowKit Go.Shelf
set_option linter.unusedVariables false

theorem own_cellsC {w : World} {base n : Nat} {t : TypeId} {v : Value} {xs : List Int} (h : w.ownsRow base t 1 v n (intV xs)) (hn : 0 < n) :
    ∃ g cap, v = .slice (some ⟨g, 0, none⟩) n cap ∧ base ≤ g ∧ g < w.heap.size ∧ ∀ k, k < n → w.cell? ⟨g, k, none⟩ = some (.int .i64 (nthC xs k)) := by
  have hl : xs.length = n := by have := h.1; simpa using this
  rcases h.2 with ⟨_, h0⟩ | ⟨g, cap, cur, rfl, hb, hg, hc, hm, hs, ht⟩
  · omega
  · rw [Nat.mul_one] at hs ht
    refine ⟨g, cap, rfl, hb, (Array.getElem?_eq_some_iff.1 hg).1, fun k hk => ?_⟩
    rw [Lib.cell_of_heap hg]
    have e1 : (cur.toList.take n)[k]? = cur[k]? := by rw [List.getElem?_take_of_lt hk, Array.getElem?_toList]
    rw [← e1, ht]
    simp [nthC, show k < xs.length by omega]
theorem Bar.cellC {S : Nat → Prop} {w w' : World} (h : Bar S w w') {p : Addr} (hp : p.block < w.heap.size) (hs : ¬ S p.block) : w'.cell? p = w.cell? p := World.cell?_of_block (h.block _ hp hs)
/-- a line, as it is gathered -/
def rowG (d : Bool) (B : List Int) (i k : Nat) : List Int := ofC k fun t => nthC B (plC d i t)
theorem rowG_length (d : Bool) (B : List Int) (i k : Nat) : (rowG d B i k).length = k := ofC_length _ _
theorem rowG_all (d : Bool) (B : List Int) (i : Nat) : rowG d B i 8 = pickC d B i 8 := by
  unfold rowG pickC
  apply ofC_congr
  intro j hj
  rw [if_pos hj]
theorem rowG_snoc (d : Bool) (B : List Int) (i k : Nat) : intV (rowG d B i k) ++ [.int .i64 (nthC B (plC d i k))] = intV (rowG d B i (k + 1)) := ofC_snoc k fun t => nthC B (plC d i t)
theorem lineR_row (d : Bool) {B : List Int} (hin : ∀ j, -1099511627776 ≤ nthC B j ∧ nthC B j ≤ 1099511627776) (i : Nat) : lineR (rowG d B i 8) = (0, lineS (pickC d B i 8)) := by
  rw [rowG_all, lineR_ok]
  refine checkR_ok (pick_length _ _ _ _) ((allC_iff _ _ _).2 (fun j hj => (okNC_iff _ _ _).2 ?_))
  rw [pick_nth]
  split
  · exact hin _
  · omega

set_option maxRecDepth 100000 in
set_option maxHeartbeats 4000000 in
theorem lines11_any {n₀ : Nat} {w : World} {av : Option Addr} {cap : Nat} {B : List Int} (hR : RowV n₀ w av 64 cap (intV B)) (hn : n₀ ≤ w.heap.size) (hin : ∀ j, -1099511627776 ≤ nthC B j ∧ nthC B j ≤ 1099511627776) (d : Bool) :
    Calls Try.prog 23 #[.slice av 64 cap, .bool d] w fun e w' => e = .returned (.tuple #[.slice (some ⟨w.heap.size, 0, none⟩) 64 64, .bool true]) ∧ NumsAt w' w.heap.size 3 (linesC d B) ∧ Below w.heap.size w w' := by
  have hl : B.length = 64 := by have := hR.1; simpa using this
  obtain ⟨i2, hi2', hz20, hz21, hz22⟩ := info_parts Try.info3y
  obtain ⟨b, off, rfl, hbl, hc⟩ := hR.cells (by omega)
  have HX := Lib.hid (fun W' (h : Below w.heap.size w W') j (hj : j < 64) => (h.cell (p := ⟨b, off + j, none⟩) (by simp; omega)).trans (hc j (.int .i64 (nthC B j)) (by simp [nthC, show j < B.length by omega])))
  have HLR := Lib.hid (fun i => lineR_row d hin i)
  have HSz := Lib.hid (mix_zero d B (base := zeros64) rfl)
  obtain ⟨w0, hw0⟩ : ∃ w0, w.alloc (.cells (numsA zeros64) 3 (0, 0)) = w0 := ⟨_, rfl⟩
  have hmk := made64 w
  have HN := Lib.hid (numsAt_new w 3 zeros64)
  have HBn := Lib.hid (ints64_new w 3 zeros64)
  rw [hw0] at hmk HN HBn
  clear hw0 hR hc hin
  cases d with
  | false =>
    go_enter Try.func23, Try.ntmps23
    go_wp2_with fail
    clear hmk
    go_loopw [7] (fun i wr => ∃ k : Nat, i = .int .i64 k ∧ k ≤ 8 ∧ NumsAt wr w.heap.size 3 (mixC false zeros64 B k 0) ∧ Below w.heap.size w wr) (fun i _ => 8 - (intOf i).toNat)
    case atStart => exact ⟨0, rfl, by omega, by rw [HSz.out]; exact HN.out, HBn.out⟩
    case round =>
      obtain ⟨i, rfl, hi, hN, hB⟩ := hrel
      have HM := Lib.hid hN
      have HB := Lib.hid hB
      have hs := hB.size
      have hsM := hN.lt
      clear hN hB
      by_cases hi2 : i < 8
      · have z1 : (i : Int) < 8 := by omega
        have z0 : (0 : Int) ≤ i := by omega
        rename World => wa
        go_wp2_with fail
        go_loopw [10, 11] (fun v k wr => ∃ j : Nat, k = .int .i64 j ∧ j ≤ 8 ∧ wr.ownsRow wa.heap.size 3 1 v j (intV (rowG false B i j)) ∧ Below wa.heap.size wa wr) (fun _ k _ => 8 - (intOf k).toNat)
        case atStart => exact ⟨0, rfl, by omega, World.ownsRow_nil _ _ _ _, Below.refl _ _⟩
        case round =>
          obtain ⟨j, rfl, hj, hO, hBw⟩ := hrel
          have HO := Lib.hid hO
          have HBw := Lib.hid hBw
          have hs2 := hBw.size
          have HB2 := Lib.hid (HB.out.trans (hBw.mono hs))
          clear hO hBw
          by_cases hj2 : j < 8
          · have z2 : (j : Int) < 8 := by omega
            have z3 : (0 : Int) ≤ j := by omega
            have x1 := HX.out wr HB2.out (8 * i + j) (by omega)
            have HSn := Lib.hid (show intV (rowG false B i j) ++ [.int .i64 (nthC B (8 * i + j))] = intV (rowG false B i (j + 1)) from rowG_snoc false B i j)
            generalize nthC B (8 * i + j) = y at *
            go_wp2_with (at_builtin; go_loud (refine wpList_append_v rfl _ _ 22 3 i2 (.int .i64 0) 8 rfl Try.underlying22y hi2' hz20 hz21 hz22 rfl wa.heap.size _ j _ rfl (HO.out.alloc _) (some ⟨wr.heap.size, 0, none⟩) 1 1 [.int .i64 y] rfl (src_one _ _ _) (fun e => nomatch e) (by simp [Value.oneCell']) (by omega) (by omega) (by simp; omega) ?_); intro v1 w1 hap; have HA := Lib.hid hap; clear hap)
            go_roundw
            case rel =>
              refine ⟨j + 1, by go_num, by omega, ?_, ?_⟩
              · rw [← HSn.out]
                exact HA.out.1
              · exact (HBw.out.alloc (by omega) _).grown HA.out.2.1 (by simp; omega) (fun k e => (HO.out.lt k e).1)
            case measure => simp [intOf]; omega
          · obtain rfl : j = 8 := by omega
            obtain ⟨a1, cp1, rfl, hr1⟩ := rowV_own4 HO.out
            have HL := Lib.hid (line11_any hr1 (Nat.le_refl _) (by omega))
            rw [HLR.out i] at HL
            have HMw := Lib.hid (HM.out.below HBw.out hsM)
            have HStp := Lib.hid (fun k hk => @mix_step false zeros64 B i k hi2 hk)
            have HNx := Lib.hid (mix_next false zeros64 B i)
            have HLp := Lib.hid (fun k hk => lineS_pick false B hi2 (i := k) hk)
            have hLl := lineS_length (pickC false B i 8)
            have HML := Lib.hid (fun k => mix_length false zeros64 B i k)
            generalize lineS (pickC false B i 8) = L at *
            clear hr1
            go_wp2_with fail
            refine HL.out.mono ?_
            rintro e w3 ⟨v3, rfl, ⟨t3, ho3⟩, hb3⟩
            rw [hLl] at ho3
            obtain ⟨g3, cp3, rfl, hg3, hl3, hc3⟩ := own_cellsC ho3 (by omega)
            have HC3 := Lib.hid hc3
            have HM3 := Lib.hid (HMw.out.below hb3 (by omega))
            have HB3 := Lib.hid (HB2.out.trans (hb3.mono HB2.out.size))
            clear ho3 hc3 hb3 HL
            go_wp2_with fail
            go_loopw [14] (fun k ws => ∃ j : Nat, k = .int .i64 j ∧ j ≤ 8 ∧ NumsAt ws w.heap.size 3 (mixC false zeros64 B i j) ∧ Bar (fun q => q = w.heap.size) w3 ws) (fun k _ => 8 - (intOf k).toNat)
            case atStart => exact ⟨0, rfl, by omega, HM3.out, Bar.refl _ _⟩
            case round =>
              obtain ⟨k, rfl, hk, hNk, hBk⟩ := hrel
              have HNk := Lib.hid hNk
              have HBk := Lib.hid hBk
              clear hNk hBk
              by_cases hk2 : k < 8
              · have y2 : (k : Int) < 8 := by omega
                have y3 : (0 : Int) ≤ k := by omega
                have x1 := (HBk.out.cellC (p := ⟨g3, k, none⟩) (by simp; omega) (by simp; omega)).trans (HC3.out k hk2)
                have c1 := HNk.out.cell (k := 8 * i + k) (by rw [HML.out]; omega)
                have f1 := HNk.out.frozen (8 * i + k)
                have HS1 := Lib.hid (show (mixC false zeros64 B i k).set (8 * i + k) (nthC L k) = mixC false zeros64 B i (k + 1) by rw [HLp.out k hk2]; exact HStp.out k hk2)
                generalize nthC L k = y at *
                go_wp2_with fail
                go_roundw
                case rel => exact ⟨k + 1, by go_num, by omega, by rw [← HS1.out]; exact HNk.out.set _ _, HBk.out.setCell (p := ⟨w.heap.size, 8 * i + k, none⟩) (fun _ => rfl) _⟩
                case measure => simp [intOf]; omega
              · obtain rfl : k = 8 := by omega
                have HB5 := Lib.hid (HB3.out.trans (HBk.out.below (B := w.heap.size) (by have := HB3.out.size; omega) (fun k hk e => by omega)))
                go_wp2_with fail
                go_roundw
                case rel => exact ⟨i + 1, by go_num, by omega, by rw [← HNx.out]; exact HNk.out, HB5.out⟩
                case measure => simp [intOf]; omega
      · obtain rfl : i = 8 := by omega
        rw [mix_all] at HM
        go_wp2_with fail
        go_ret2
        exact ⟨rfl, HM.out, HB.out⟩
  | true =>
    go_enter Try.func23, Try.ntmps23
    go_wp2_with fail
    clear hmk
    go_loopw [7] (fun i wr => ∃ k : Nat, i = .int .i64 k ∧ k ≤ 8 ∧ NumsAt wr w.heap.size 3 (mixC true zeros64 B k 0) ∧ Below w.heap.size w wr) (fun i _ => 8 - (intOf i).toNat)
    case atStart => exact ⟨0, rfl, by omega, by rw [HSz.out]; exact HN.out, HBn.out⟩
    case round =>
      obtain ⟨i, rfl, hi, hN, hB⟩ := hrel
      have HM := Lib.hid hN
      have HB := Lib.hid hB
      have hs := hB.size
      have hsM := hN.lt
      clear hN hB
      by_cases hi2 : i < 8
      · have z1 : (i : Int) < 8 := by omega
        have z0 : (0 : Int) ≤ i := by omega
        rename World => wa
        go_wp2_with fail
        go_loopw [10, 11] (fun v k wr => ∃ j : Nat, k = .int .i64 j ∧ j ≤ 8 ∧ wr.ownsRow wa.heap.size 3 1 v j (intV (rowG true B i j)) ∧ Below wa.heap.size wa wr) (fun _ k _ => 8 - (intOf k).toNat)
        case atStart => exact ⟨0, rfl, by omega, World.ownsRow_nil _ _ _ _, Below.refl _ _⟩
        case round =>
          obtain ⟨j, rfl, hj, hO, hBw⟩ := hrel
          have HO := Lib.hid hO
          have HBw := Lib.hid hBw
          have hs2 := hBw.size
          have HB2 := Lib.hid (HB.out.trans (hBw.mono hs))
          clear hO hBw
          by_cases hj2 : j < 8
          · have z2 : (j : Int) < 8 := by omega
            have z3 : (0 : Int) ≤ j := by omega
            have x1 := HX.out wr HB2.out (i + j * 8) (by omega)
            have HSn := Lib.hid (show intV (rowG true B i j) ++ [.int .i64 (nthC B (i + j * 8))] = intV (rowG true B i (j + 1)) by have h := rowG_snoc true B i j; rwa [show plC true i j = i + j * 8 by simp [plC]; omega] at h)
            generalize nthC B (i + j * 8) = y at *
            go_wp2_with (at_builtin; go_loud (refine wpList_append_v rfl _ _ 22 3 i2 (.int .i64 0) 8 rfl Try.underlying22y hi2' hz20 hz21 hz22 rfl wa.heap.size _ j _ rfl (HO.out.alloc _) (some ⟨wr.heap.size, 0, none⟩) 1 1 [.int .i64 y] rfl (src_one _ _ _) (fun e => nomatch e) (by simp [Value.oneCell']) (by omega) (by omega) (by simp; omega) ?_); intro v1 w1 hap; have HA := Lib.hid hap; clear hap)
            go_roundw
            case rel =>
              refine ⟨j + 1, by go_num, by omega, ?_, ?_⟩
              · rw [← HSn.out]
                exact HA.out.1
              · exact (HBw.out.alloc (by omega) _).grown HA.out.2.1 (by simp; omega) (fun k e => (HO.out.lt k e).1)
            case measure => simp [intOf]; omega
          · obtain rfl : j = 8 := by omega
            obtain ⟨a1, cp1, rfl, hr1⟩ := rowV_own4 HO.out
            have HL := Lib.hid (line11_any hr1 (Nat.le_refl _) (by omega))
            rw [HLR.out i] at HL
            have HMw := Lib.hid (HM.out.below HBw.out hsM)
            have HStp := Lib.hid (fun k hk => @mix_step true zeros64 B i k hi2 hk)
            have HNx := Lib.hid (mix_next true zeros64 B i)
            have HLp := Lib.hid (fun k hk => lineS_pick true B hi2 (i := k) hk)
            have hLl := lineS_length (pickC true B i 8)
            have HML := Lib.hid (fun k => mix_length true zeros64 B i k)
            generalize lineS (pickC true B i 8) = L at *
            clear hr1
            go_wp2_with fail
            refine HL.out.mono ?_
            rintro e w3 ⟨v3, rfl, ⟨t3, ho3⟩, hb3⟩
            rw [hLl] at ho3
            obtain ⟨g3, cp3, rfl, hg3, hl3, hc3⟩ := own_cellsC ho3 (by omega)
            have HC3 := Lib.hid hc3
            have HM3 := Lib.hid (HMw.out.below hb3 (by omega))
            have HB3 := Lib.hid (HB2.out.trans (hb3.mono HB2.out.size))
            clear ho3 hc3 hb3 HL
            go_wp2_with fail
            go_loopw [14] (fun k ws => ∃ j : Nat, k = .int .i64 j ∧ j ≤ 8 ∧ NumsAt ws w.heap.size 3 (mixC true zeros64 B i j) ∧ Bar (fun q => q = w.heap.size) w3 ws) (fun k _ => 8 - (intOf k).toNat)
            case atStart => exact ⟨0, rfl, by omega, HM3.out, Bar.refl _ _⟩
            case round =>
              obtain ⟨k, rfl, hk, hNk, hBk⟩ := hrel
              have HNk := Lib.hid hNk
              have HBk := Lib.hid hBk
              clear hNk hBk
              by_cases hk2 : k < 8
              · have y2 : (k : Int) < 8 := by omega
                have y3 : (0 : Int) ≤ k := by omega
                have x1 := (HBk.out.cellC (p := ⟨g3, k, none⟩) (by simp; omega) (by simp; omega)).trans (HC3.out k hk2)
                have c1 := HNk.out.cell (k := i + k * 8) (by rw [HML.out]; omega)
                have f1 := HNk.out.frozen (i + k * 8)
                have HS1 := Lib.hid (show (mixC true zeros64 B i k).set (i + k * 8) (nthC L k) = mixC true zeros64 B i (k + 1) by have h := HStp.out k hk2; rw [← HLp.out k hk2, show plC true i k = i + k * 8 by simp [plC]; omega] at h; exact h)
                generalize nthC L k = y at *
                go_wp2_with fail
                go_roundw
                case rel => exact ⟨k + 1, by go_num, by omega, by rw [← HS1.out]; exact HNk.out.set _ _, HBk.out.setCell (p := ⟨w.heap.size, i + k * 8, none⟩) (fun _ => rfl) _⟩
                case measure => simp [intOf]; omega
              · obtain rfl : k = 8 := by omega
                have HB5 := Lib.hid (HB3.out.trans (HBk.out.below (B := w.heap.size) (by have := HB3.out.size; omega) (fun k hk e => by omega)))
                go_wp2_with fail
                go_roundw
                case rel => exact ⟨i + 1, by go_num, by omega, by rw [← HNx.out]; exact HNk.out, HB5.out⟩
                case measure => simp [intOf]; omega
      · obtain rfl : i = 8 := by omega
        rw [mix_all] at HM
        go_wp2_with fail
        go_ret2
        exact ⟨rfl, HM.out, HB.out⟩


end Go.Proofs.Ytpmdeoiajnfabaa
