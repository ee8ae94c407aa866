/- picture: the walk of PictureBack (praxinoscopelaw17). -/
import Derived.Test.YtlcaboddkcpgaaaDoorHBack
namespace Go.Proofs.YtlcaboddkcpgaaaDoor
open Go.RowKit Go.Shelf Go.Sort
set_option linter.unusedVariables false

set_option maxRecDepth 100000 in
set_option maxHeartbeats 2000000 in
theorem back17_walk (I : PictureI) (t y : Int) (ht : I64 t) (hy : I64 y) (x : Int) {w : World} {ra : Option Addr} {len cap : Nat} {xs : List UInt8} (hT : Tab2 w) (hR : Row8 w.heap.size w ra len cap xs) {rb : Option Addr} {len2 cap2 : Nat} {bs : List UInt8} (hR2 : Row8 w.heap.size w rb len2 cap2 bs) :
    Calls Tryd.prog 6 #[headV t y (.slice ra len cap), .int .i64 x, .slice rb len2 cap2] w fun e w' => e = .returned (.bool true) ∧ Below w.heap.size w w' := by
  have HKn := Lib.hid (fun W (hW : Below w.heap.size w W) => known17_any I W (hT.below hW))
  have hxl : xs.length = len := hR.1
  have hbl : bs.length = len2 := hR2.1
  have hb0 : Below w.heap.size w (w.alloc (.cells #[.int .i64 t, .int .i64 y, .slice ra len cap] 24 (0, 0))) := (Below.refl _ w).alloc (Nat.le_refl _) _
  have hx0 := World.alloc_heap_new w (.cells #[.int .i64 t, .int .i64 y, .slice ra len cap] 24 (0, 0))
  obtain ⟨w0, hw0⟩ : ∃ w0, w.alloc (.cells #[.int .i64 t, .int .i64 y, .slice ra len cap] 24 (0, 0)) = w0 := ⟨_, rfl⟩
  rw [hw0] at hb0 hx0
  have hx0l := (Array.getElem?_eq_some_iff.1 hx0).1
  have HB0 := Lib.hid hb0
  have HP2 := Lib.hid (fun W => pick_any x 41 W (by omega) (by omega))
  have hm1 := Int.emod_nonneg x (show (41 : Int) ≠ 0 by omega)
  have hm2 := Int.emod_lt_of_pos x (show (0 : Int) < 41 by omega)
  obtain ⟨A, hA, hA2⟩ : ∃ A : Nat, x % 41 = A ∧ A ≤ 40 := ⟨(x % 41).toNat, by omega, by omega⟩
  rw [hA] at HP2
  clear hA hm1 hm2
  have HBx : Hid (len ≤ 1000 → ∀ W', Below w.heap.size w W' → Byt w.heap.size W' (.slice ra len cap) xs) := fun h W' hb => Byt.below hb (row8_byt17 hR (by omega))
  have HBb : Hid (len2 ≤ 1000 → ∀ W', Below w.heap.size w W' → Byt w.heap.size W' (.slice rb len2 cap2) bs) := fun h W' hb => Byt.below hb (row8_byt17 hR2 (by omega))
  have HKx := Lib.hid (show Capped (.slice ra len cap) from ⟨_, _, _, rfl, hR.2.1⟩)
  clear hR hR2
  go_enter Tryd.func6, Tryd.ntmps6
  go_wp2_with fail
  clear hw0
  refine (HKn.out _ HB0.out).mono ?_
  rintro e w1 ⟨rfl, hb⟩
  have HB1 := Lib.hid (HB0.out.trans (hb.mono HB0.out.size))
  have hx1 := (hb.block _ hx0l).trans hx0
  have hx1l := (Array.getElem?_eq_some_iff.1 hx1).1
  clear hb hx0
  go_wp2_with fail
  refine (newPen_any w1).mono ?_
  rintro e w2 ⟨rfl, hpen, hb⟩
  have HB2 := Lib.hid (HB1.out.trans (hb.mono HB1.out.size))
  have hx2 := (hb.block _ hx1l).trans hx1
  have hx2l := (Array.getElem?_eq_some_iff.1 hx2).1
  have HPen := Lib.hid hpen
  have hpl := hpen.lt.1
  clear hb hpen hx1
  obtain ⟨B, hBd⟩ : ∃ B, w1.heap.size = B := ⟨_, rfl⟩
  rw [hBd] at HPen hpl ⊢
  have hBw : w.heap.size + 1 ≤ B := by omega
  obtain ⟨k0, k1, k2⟩ := three_cells hx2
  by_cases hl1 : 40 < len
  · have q1 : (40 : Int) < (len : Int) := by omega
    go_wp2
    go_ret
    exact ⟨rfl, HB2.out⟩
  have q1 : ¬ (40 : Int) < (len : Int) := by omega
  by_cases hl2 : 20 < len2
  · have q2 : (20 : Int) < (len2 : Int) := by omega
    go_wp2
    go_ret
    exact ⟨rfl, HB2.out⟩
  have q2 : ¬ (20 : Int) < (len2 : Int) := by omega
  have HBx2 := Lib.hid (HBx.out (by omega))
  have HBb2 := Lib.hid (HBb.out (by omega))
  clear HBx HBb
  go_wp2_with fail
  refine (HP2.out _).mono ?_
  rintro e w' ⟨rfl, rfl⟩
  clear k0 k1 k2 HP2
  go_wp2_with fail
  go_loopw [9] (fun i wr => ∃ (k : Nat) (g : Option Nat), i = .int .i64 k ∧ k ≤ A ∧ IsPen wr B g (List.replicate k true) ∧ (∀ j, g = some j → B ≤ j) ∧ Below w.heap.size w wr ∧ wr.heap[w.heap.size]? = some (.cells #[.int .i64 t, .int .i64 y, .slice ra len cap] 24 (0, 0))) (fun i _ => A - (intOf i).toNat)
  case atStart => exact ⟨0, none, rfl, by omega, HPen.out, by simp, HB2.out, hx2⟩
  case round =>
    obtain ⟨k, g, rfl, hk, hpen, hg, hB, hxr⟩ := hrel
    have HPn := Lib.hid hpen
    have HGg := Lib.hid hg
    have HB := Lib.hid hB
    have HXr := Lib.hid hxr
    have hlt := hpen.lt.1
    clear hpen hg hB hxr
    by_cases hk2 : k < A
    · have HPt : Hid (Calls Tryd.prog 25 #[.pointer (some ⟨B, 0, none⟩), .int .i64 1, .int .i64 1] wr fun e w' => e = .returned (.int .i64 0) ∧ Wrote wr w' B g (List.replicate (k + 1) true)) := by
        have h := put_ok HPn.out 1 1 (by omega) (by omega) (by omega) (by rw [List.length_replicate]; omega)
        rw [show List.replicate k true ++ numBits 1 1 = List.replicate (k + 1) true by rw [List.replicate_succ']; rfl] at h
        exact h
      go_wp2_with (go_at_call 25; refine HPt.out.mono ?_; rintro e w6 ⟨rfl, hw6⟩)
      have hs := HB.out.size
      have hbb := hw6.below (B := B) (by omega) (Nat.le_refl _) HGg.out
      obtain ⟨g', hp', _, hk'⟩ := hw6
      go_roundw
      case rel => exact ⟨k + 1, g', by go_num, by omega, hp', fun j e => by
        rcases hk' j e with h | h
        · exact HGg.out j h
        · omega, HB.out.trans (hbb.mono (by omega)), (hbb.block _ (by omega)).trans HXr.out⟩
      case measure => simp [intOf]; omega
    · obtain rfl : k = A := by omega
      obtain ⟨k0, k1, k2⟩ := three_cells HXr.out
      rename World => w3
      have HPu := Lib.hid (I.put t y (hT.below HB.out) (HBx2.out w3 HB.out) HB.out.size HKx.out (by omega) ht hy)
      rw [hxl] at HPu
      have hxl3 := (Array.getElem?_eq_some_iff.1 HXr.out).1
      clear HPen hx2 hk hk2
      by_cases hck : ckH t y len = 0
      · have hck2 : ckH t y xs.length = 0 := by rw [hxl]; exact hck
        have hall := allB_txH hck2
        have hsz := txH_size hck2
        have hfc := fun (zs : List UInt8) (M : List Bool) h => @back17_facts zs (List.replicate k true) M t y xs hck2 h
        obtain ⟨c1, c2, c3, c4, c5⟩ := (ckH_iff _ _ _).1 hck
        rw [hck] at HPu
        rw [hxl] at hsz
        simp only [hxl] at hfc
        generalize txH t y xs = s at *
        have hcE : codeE (List.replicate k true) s = 0 := by
          unfold codeE
          rw [if_pos hall, if_neg (by rw [List.length_replicate]; omega)]
        have hcL : codeL (List.replicate k true) s = List.replicate k true ++ textBits s := by unfold codeL; rw [if_pos hcE]
        have HFc := Lib.hid hfc
        clear hfc hall hck hck2 c1 c2 c3 c4
        go_wp2_with fail
        refine HPu.out.mono ?_
        rintro e w4 ⟨rfl, hb⟩
        have HB4 := Lib.hid (HB.out.trans (hb.mono HB.out.size))
        have HXr4 := Lib.hid ((hb.block _ hxl3).trans HXr.out)
        have HPn4 := Lib.hid (HPn.out.later hb)
        have hs4 := hb.size
        have HPc := Lib.hid (penCode_any HPn4.out s (by omega))
        rw [hcE, hcL] at HPc
        clear hb k0 k1 k2 HPu hcE hcL
        obtain ⟨k0, k1, k2⟩ := three_cells HXr4.out
        go_wp2_with fail
        refine HPc.out.mono ?_
        rintro e w5 ⟨rfl, hw5⟩
        have hbb := hw5.below (B := B) (by have := HPn4.out.lt.1; omega) (Nat.le_refl _) HGg.out
        obtain ⟨g5, hp5, _, hg5⟩ := hw5
        have HB5 := Lib.hid (HB4.out.trans (hbb.mono (by omega)))
        have HXr5 := Lib.hid ((hbb.block _ (by omega)).trans HXr4.out)
        have HPn5 := Lib.hid hp5
        have HGg5 : Hid (∀ j, g5 = some j → B ≤ j) := fun j e => by
          rcases hg5 j e with h | h
          · exact HGg.out j h
          · omega
        clear hbb hp5 hg5 k0 k1 k2 HPc
        obtain ⟨k0, k1, k2⟩ := three_cells HXr5.out
        have HLn := Lib.hid (len_any HPn5.out)
        have hll : (List.replicate k true ++ textBits s).length = k + (12 + 9 * len) := by rw [List.length_append, List.length_replicate, textBits_len, hsz]
        rw [hll] at HLn
        have z3 : ¬ (32 : Int) < (len : Int) := by omega
        obtain ⟨E, hE, hE2⟩ : ∃ E : Nat, ((k : Int) + (12 + 9 * (len : Int)) - 1) / 8 = (E : Int) ∧ 8 * E < k + (12 + 9 * len) := ⟨(k + (11 + 9 * len)) / 8, by omega, by omega⟩
        have hEb : 8 * E + 8 ≥ k + (12 + 9 * len) := by omega
        go_wp2_with fail
        refine HLn.out.mono ?_
        rintro e w' ⟨rfl, rfl⟩
        have HE2 := Lib.hid (And.intro hE2 hEb)
        have hE7 : E ≤ 1000 := by omega
        have HE := Lib.hid hE
        clear hE
        go_wp2_with fail
        rw [HE.out]
        clear hE2 hEb k0 k1 k2 HE
        go_loopw [13] (fun i wr => ∃ (j : Nat) (g : Option Nat), i = .int .i64 j ∧ j ≤ len2 ∧ IsPen wr B g (List.replicate k true ++ textBits s ++ behL bs j) ∧ (∀ i, g = some i → B ≤ i) ∧ Below w.heap.size w wr ∧ wr.heap[w.heap.size]? = some (.cells #[.int .i64 t, .int .i64 y, .slice ra len cap] 24 (0, 0))) (fun i _ => len2 - (intOf i).toNat)
        case atStart => exact ⟨0, g5, rfl, by omega, by rw [show behL bs 0 = [] from rfl, List.append_nil]; exact HPn5.out, HGg5.out, HB5.out, HXr5.out⟩
        case round =>
          obtain ⟨j, g, rfl, hj, hpen, hg, hB, hxr⟩ := hrel
          have HPn := Lib.hid hpen
          have HGg := Lib.hid hg
          have HB := Lib.hid hB
          have HXr := Lib.hid hxr
          have hlt := hpen.lt.1
          have hll2 : (List.replicate k true ++ textBits s ++ behL bs j).length = k + (12 + 9 * len) + 8 * j := by rw [List.length_append, hll, behL_length bs j (by omega)]
          clear hpen hg hB hxr
          by_cases hj2 : j < len2
          · have z4 : (j : Int) < (len2 : Int) := by omega
            have HSt := Lib.hid (behL_step (zs := bs) (k := j) (by omega))
            obtain ⟨av, cv, ev, hvl, hvc⟩ := HBb2.out _ HB.out
            cases ev
            have hvc2 : ∃ bb off, rb = some ⟨bb, off, none⟩ ∧ wr.cell? ⟨bb, off + j, none⟩ = some (.int .u8 (bs[j]?.getD 0).toNat) := by
              rcases hvc with e | ⟨bb, off, e, -, hc⟩
              · have : bs.length = 0 := by rw [e]; rfl
                omega
              · exact ⟨bb, off, e, hc j (by omega)⟩
            obtain ⟨bb, off, rfl, x1⟩ := hvc2
            generalize bs[j]?.getD 0 = z at *
            have hz8 := z.toNat_lt
            have HPt := Lib.hid (put_ok HPn.out z.toNat 8 (by omega) (by rw [Nat.div_eq_zero_iff]; omega) (by omega) (by rw [hll2]; omega))
            rw [List.append_assoc, ← HSt.out] at HPt
            clear hll2 hvl hvc
            go_wp2_with (go_at_call 25; refine HPt.out.mono ?_; rintro e w6 ⟨rfl, hw6⟩)
            have hs := HB.out.size
            have hbb := hw6.below (B := B) (by omega) (Nat.le_refl _) HGg.out
            obtain ⟨g', hp', _, hk'⟩ := hw6
            go_roundw
            case rel => exact ⟨j + 1, g', by go_num, by omega, hp', fun i e => by
              rcases hk' i e with h | h
              · exact HGg.out i h
              · omega, HB.out.trans (hbb.mono (by omega)), (hbb.block _ (by omega)).trans HXr.out⟩
            case measure => simp [intOf]; omega
          · obtain rfl : j = len2 := by omega
            rename World => w6
            have hxl6 := (Array.getElem?_eq_some_iff.1 HXr.out).1
            go_wp2_with fail
            refine (bytes_any HPn.out).mono ?_
            rintro e w7 ⟨zs, hpk, va, rfl, hra, hb⟩
            have HB7 := Lib.hid (HB.out.trans (hb.mono HB.out.size))
            have HXr7 := Lib.hid ((hb.block _ hxl6).trans HXr.out)
            have hzl : zs.length = (k + (12 + 9 * len) + 8 * j + 7) / 8 := by rw [hpk.1, hll2]
            have hzl2 : zs.length ≤ 1000 := by omega
            obtain ⟨gG, hCut⟩ := HFc.out zs (behL bs j) hpk
            rw [List.length_replicate] at gG hCut
            have hEz : E ≤ zs.length := by have := HE2.out; omega
            have hC := hCut E HE2.out.1 hEz
            have HKa := Lib.hid (capped_own hra)
            obtain ⟨av, cv, rfl, -⟩ := byt_own hra (by omega) (Nat.le_refl _)
            have HBy := Lib.hid (byt_own hra (by omega) (Nat.le_refl _))
            have hcv : zs.length ≤ cv := by obtain ⟨_, _, _, e, h⟩ := HKa.out; cases e; exact h
            have HO := Lib.hid hra
            have HG1 := Lib.hid (gets17_any I HBy.out (Nat.le_refl _) HKa.out (by omega) (k : Int) (by unfold I64; omega) t y (HBx2.out w7 HB7.out) HB7.out.size (12 + 9 * (len : Int)) 0 gG)
            obtain ⟨k0, k1, k2⟩ := three_cells HXr7.out
            have hzm : min (E : Int) (zs.length : Int) = (E : Int) := by omega
            clear hpk hra hb hll2 hCut gG hzl
            go_wp2_with fail
            refine HG1.out.mono ?_
            rintro e w8 ⟨rfl, hb⟩
            have HB8 := Lib.hid (HB7.out.trans (hb.mono HB7.out.size))
            have HG2 := Lib.hid (gets17_any I (byt_take17 (byt_own (ownsRow_belowN HO.out hb) (by omega) (Nat.le_refl _)) hEz) (Nat.le_refl _) ⟨_, _, _, rfl, by omega⟩ (by simp; omega) (k : Int) (by unfold I64; omega) 0 0 (byt_nil w8) (Nat.le_refl _) 0 5 hC)
            clear hb k0 k1 k2 hC
            by_cases hcut : 8 * E < k
            · have z5 : (E : Int) * 8 < (k : Int) := by omega
              go_wp2
              go_ret
              exact ⟨rfl, HB8.out⟩
            · have z5 : ¬ (E : Int) * 8 < (k : Int) := by omega
              have z6 : E ≤ cv := by omega
              go_wp2_with fail
              refine HG2.out.mono ?_
              rintro e w9 ⟨rfl, hb⟩
              have HB9 := Lib.hid (HB8.out.trans (hb.mono HB8.out.size))
              clear hb
              go_wp2_with fail
              go_ret
              exact ⟨rfl, HB9.out⟩
      · have hck2 : ckH t y xs.length ≠ 0 := by rw [hxl]; exact hck
        have hE := txH_bad hck2
        have hT : ckH t y len = 2 := ckH_two hck
        rw [hE, hT] at HPu
        clear hE hck hck2
        go_wp2_with fail
        refine HPu.out.mono ?_
        rintro e w4 ⟨rfl, hb⟩
        have HB4 := Lib.hid (HB.out.trans (hb.mono HB.out.size))
        have HXr4 := Lib.hid ((hb.block _ hxl3).trans HXr.out)
        have HC := Lib.hid (I.check t y (HBx2.out w4 HB4.out) HB4.out.size HKx.out (by omega) ht hy)
        rw [hxl, hT] at HC
        clear hb k0 k1 k2 hT
        obtain ⟨k0, k1, k2⟩ := three_cells HXr4.out
        go_wp2_with fail
        refine HC.out.mono ?_
        rintro e w5 ⟨rfl, hb⟩
        have HB5 := Lib.hid (HB4.out.trans (hb.mono HB4.out.size))
        clear hb
        go_wp2_with fail
        go_ret
        exact ⟨rfl, HB5.out⟩

end Go.Proofs.YtlcaboddkcpgaaaDoor
