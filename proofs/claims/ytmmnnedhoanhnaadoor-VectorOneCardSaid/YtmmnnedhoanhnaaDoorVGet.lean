/- Contracts of vector's sizes and Get; vector's functions as the laws want them. -/
import Derived.Test.YtmmnnedhoanhnaaDoorVSize
import Derived.Test.YtmmnnedhoanhnaaDoorPGrow
namespace Go.Proofs.YtmmnnedhoanhnaaDoor
open Go.RowKit Go.Shelf
set_option linter.unusedVariables false

/-- what sizes has laid behind so many rounds -/
def fillS (k : Nat) : List ByteArray := codesZ.take k ++ List.replicate (17 - k) ⟨#[]⟩
def fillI (k : Nat) : List Int := numsZ.take k ++ List.replicate (17 - k) 0
theorem fillS_set : ∀ k : Fin 17, (fillS k.val).set k.val (codesZ[k.val]?.getD ⟨#[]⟩) = fillS (k.val + 1) := by decide +kernel
theorem fillI_set : ∀ k : Fin 17, (fillI k.val).set k.val (k.val : Int) = fillI (k.val + 1) := by decide +kernel
theorem fillS_len : ∀ k : Fin 18, (fillS k.val).length = 17 := by decide +kernel
theorem fillI_len : ∀ k : Fin 18, (fillI k.val).length = 17 := by decide +kernel
theorem strV_set (xs : List ByteArray) (k : Nat) (s : ByteArray) : (strV xs).set k (.string s) = strV (xs.set k s) := by simp [List.map_set]
theorem intV_set (xs : List Int) (k : Nat) (s : Int) : (intV xs).set k (.int .i64 s) = intV (xs.set k s) := by simp [List.map_set]

/-- the two rows of sizes -/
structure TwoRows (m : Nat) (w : World) (g1 g2 k : Nat) : Prop where
  r1 : w.ownsRow m 9 1 (.slice (some ⟨g1, 0, none⟩) 17 17) 17 (strV (fillS k))
  r2 : w.ownsRow m 3 1 (.slice (some ⟨g2, 0, none⟩) 17 17) 17 (intV (fillI k))
  ap : g1 ≠ g2

abbrev zerosS : Array Value := #[.string ⟨#[]⟩, .string ⟨#[]⟩, .string ⟨#[]⟩, .string ⟨#[]⟩, .string ⟨#[]⟩, .string ⟨#[]⟩, .string ⟨#[]⟩, .string ⟨#[]⟩, .string ⟨#[]⟩, .string ⟨#[]⟩, .string ⟨#[]⟩, .string ⟨#[]⟩, .string ⟨#[]⟩, .string ⟨#[]⟩, .string ⟨#[]⟩, .string ⟨#[]⟩, .string ⟨#[]⟩]
abbrev zerosI : Array Value := #[.int .i64 0, .int .i64 0, .int .i64 0, .int .i64 0, .int .i64 0, .int .i64 0, .int .i64 0, .int .i64 0, .int .i64 0, .int .i64 0, .int .i64 0, .int .i64 0, .int .i64 0, .int .i64 0, .int .i64 0, .int .i64 0, .int .i64 0]
theorem made_strs (w : World) : (Instr.makeSlice 54 (.int .i64 17) (.int .i64 17)).run Tryd.prog w = .ok (.slice (some ⟨w.heap.size, 0, none⟩) 17 17) (w.alloc (.cells zerosS 9 (0, 0))) := by kernel_rfl
theorem made_ints (w : World) : (Instr.makeSlice 41 (.int .i64 17) (.int .i64 17)).run Tryd.prog w = .ok (.slice (some ⟨w.heap.size, 0, none⟩) 17 17) (w.alloc (.cells zerosI 3 (0, 0))) := by kernel_rfl
theorem zerosS_eq : zerosS.toList = strV (fillS 0) := by rfl
theorem zerosI_eq : zerosI.toList = intV (fillI 0) := by rfl
theorem twoRows_start {m : Nat} {w : World} {g1 g2 : Nat} (h1 : w.heap[g1]? = some (.cells zerosS 9 (0, 0))) (h2 : w.heap[g2]? = some (.cells zerosI 3 (0, 0))) (hne : g1 ≠ g2) (hm1 : m ≤ g1) (hm2 : m ≤ g2) : TwoRows m w g1 g2 0 :=
  ⟨⟨by rw [← zerosS_eq]; rfl, .inr ⟨g1, 17, zerosS, rfl, hm1, h1, Nat.le_refl _, by unfold maxLen; decide, rfl, by rw [← zerosS_eq]; rfl⟩⟩,
   ⟨by rw [← zerosI_eq]; rfl, .inr ⟨g2, 17, zerosI, rfl, hm2, h2, Nat.le_refl _, by unfold maxLen; decide, rfl, by rw [← zerosI_eq]; rfl⟩⟩, hne⟩

set_option maxRecDepth 100000 in
set_option maxHeartbeats 4000000 in
theorem vsizes_any (w : World) (hT : Tails w) :
    Calls Tryd.prog 28 #[] w fun e w' => ∃ n₀ m₁ b, e = .returned (.pointer (some ⟨b, 0, none⟩)) ∧ IsPT n₀ m₁ w' b codesZ numsZ ∧ Below w.heap.size w w' := by
  have HT := Lib.hid (fun w' (hb : Below w.heap.size w w') => hT.below hb)
  have hm1 := made_strs
  have hm2 := made_ints
  clear hT
  go_enter Tryd.func28, Tryd.ntmps28
  go_wp2
  refine wp_mono (Q := fun e aa w' => e = .normal ∧ ∃ g1 g2, aa = { tmps := #[Value.pointer none, .slice (some ⟨g1, 0, none⟩) 17 17, .slice (some ⟨g2, 0, none⟩) 17 17, undef, undef, undef, .slice (some ⟨g1, 0, none⟩) 17 17, .slice (some ⟨g2, 0, none⟩) 17 17,
        undef, undef, undef, undef, undef, undef, undef, undef, undef, undef, undef, undef, undef, undef, undef, undef, undef, undef, undef, undef], defers := [] } ∧ TwoRows w.heap.size w' g1 g2 0 ∧ Below w.heap.size w w') ?reg ?rest
  case reg =>
    go_region
    all_goals refine ⟨rfl, _, _, rfl, ?_, (((Below.refl _ w).alloc (Nat.le_refl _) _).alloc (by simp) _).drew⟩
    · exact twoRows_start (heap_keep (heap_new _ rfl _) _) (heap_new _ (by simp) _) (by omega) (by omega) (by omega)
    · exact twoRows_start (heap_new _ (by simp) _) (heap_keep (heap_new _ rfl _) _) (by omega) (by omega) (by omega)
  case rest =>
    rintro e a2 w2 ⟨rfl, g1, g2, rfl, hr, hb⟩
    have HR0 := Lib.hid hr
    have HB0 := Lib.hid hb
    clear hr hb hm1 hm2
    go_wp2
    go_loopw [8] (fun i wr => ∃ k : Nat, i = .int .i64 k ∧ k ≤ 17 ∧ TwoRows w.heap.size wr g1 g2 k ∧ Below w.heap.size w wr) (fun i _ => 17 - (intOf i).toNat)
    case atStart => exact ⟨0, rfl, by omega, HR0.out, HB0.out⟩
    case round =>
      obtain ⟨k, rfl, hk, hr, hb⟩ := hrel
      have HR := Lib.hid hr
      have HB := Lib.hid hb
      clear hr hb
      by_cases hlt : k < 17
      · have HS := Lib.hid (vsize_any hlt wr (HT.out wr HB.out))
        have hf1 : (fillS k).length = 17 := fillS_len ⟨k, by omega⟩
        have hf2 : (fillI k).length = 17 := fillI_len ⟨k, by omega⟩
        have hc1 : wr.cell? ⟨g1, k, none⟩ = some (.string ((fillS k)[k]?.getD ⟨#[]⟩)) := by
          rw [HR.out.r1.cellAt k (by omega)]
          simp [show k < (fillS k).length by omega]
        have hc2 : wr.cell? ⟨g2, k, none⟩ = some (.int .i64 ((fillI k)[k]?.getD 0)) := by
          rw [HR.out.r2.cellAt k (by omega)]
          simp [show k < (fillI k).length by omega]
        have hz1 := fillS_set ⟨k, hlt⟩
        have hz2 := fillI_set ⟨k, hlt⟩
        simp only at hz1 hz2
        have hx1 := HR.out.r1.frozenAt k
        have hx2 := HR.out.r2.frozenAt k
        have HZ1 := Lib.hid hz1
        have HZ2 := Lib.hid hz2
        have hap := HR.out.ap
        have hlow1 := (HR.out.r1.lt g1 rfl).1
        have hlow2 := (HR.out.r2.lt g2 rfl).1
        generalize codesZ[k]?.getD ⟨#[]⟩ = s at *
        clear hz1 hz2
        have hc2' : (wr.setCell ⟨g1, k, none⟩ (.string s)).cell? ⟨g2, k, none⟩ = some (.int .i64 ((fillI k)[k]?.getD 0)) := (World.cell?_setCell_far _ _ _ _ hap).trans hc2
        go_wp2_with (go_at_call 36; refine HS.out.mono ?_; rintro e w' ⟨rfl, rfl⟩)
        go_roundw
        case rel =>
          refine ⟨k + 1, by go_num, by omega, ⟨?_, ?_, hap⟩, (HB.out.setCell (p := ⟨g1, k, none⟩) hlow1 _).setCell (p := ⟨g2, k, none⟩) hlow2 _⟩
          · rw [← HZ1.out, ← strV_set]
            exact ownsRow_setCell_other (HR.out.r1.stored k (.string s)).1 (a := ⟨g2, k, none⟩) (fun e => hap (Option.some.inj e)) _
          · rw [← HZ2.out, ← intV_set]
            exact ((ownsRow_setCell_other HR.out.r2 (a := ⟨g1, k, none⟩) (fun e => hap (Option.some.inj e).symm) (.string s)).stored k (.int .i64 k)).1
        case measure => simp [intOf]; omega
      · obtain rfl : k = 17 := by omega
        have hs := HB.out.size
        obtain ⟨a1, c1, e1, hr1⟩ := rowV_own4 HR.out.r1
        obtain ⟨a2, c2, e2, hr2⟩ := rowV_own4 HR.out.r2
        cases e1
        cases e2
        rw [show fillS 17 = codesZ by decide +kernel] at hr1
        rw [show fillI 17 = numsZ by decide +kernel] at hr2
        have HM := Lib.hid (makeP_any hr1 hr2 codesZ_small (by intro x hx; simp [numsZ] at hx; omega))
        clear hr1 hr2
        go_wp2_with (go_at_call 41; refine HM.out.mono ?_; rintro e w3 ⟨hb3, hm⟩; obtain ⟨_, bt, rfl, hT⟩ := hm.resolve_right (fun h => h.1 makeZ); have HB3 := Lib.hid hb3; have HTt := Lib.hid hT; clear hb3 hT hm)
        go_ret
        exact ⟨_, _, bt, rfl, HTt.out, HB.out.trans (HB3.out.mono hs)⟩

/-! ### Get -/
theorem seen_at {zs : List UInt8} {A n j : Nat} (h : j < n) : (seenB zs A n).data.toList[j]? = some (UInt8.ofNat (48 + bt zs (A + j))) := by
  show (seenL zs A n)[j]? = _
  unfold seenL
  rw [List.getElem?_map, List.getElem?_range h]
  rfl
/-- what is answered of a code that ends behind so many bits -/
theorem getT_got {codes : List ByteArray} {nums : List Int} {zs : List UInt8} {A k : Nat} (h : getI codes (seenB zs A (seenN zs A)) = some k) : getT codes nums zs (A : Int) = .tuple #[.int .i64 (nums[k]?.getD 0), .int .i64 ((codes[k]?.getD (⟨#[]⟩ : ByteArray)).size : Nat), .int .i64 0] := by
  unfold getT
  rw [if_neg (by omega), Int.toNat_natCast]
  unfold getX getN getE3
  rw [h]
theorem getT_nix {codes : List ByteArray} {nums : List Int} {zs : List UInt8} {A : Nat} (h : getI codes (seenB zs A (seenN zs A)) = none) : getT codes nums zs (A : Int) = .tuple #[.int .i64 0, .int .i64 0, .int .i64 (if getMore codes (seenB zs A (seenN zs A)) then 5 else 7)] := by
  unfold getT
  rw [if_neg (by omega), Int.toNat_natCast]
  unfold getX getN getE3
  rw [h]

set_option maxHeartbeats 2000000 in
theorem vget_early {n₁ : Nat} {w : World} {sv : Value} {zs : List UInt8} (hB : Byt n₁ w sv zs) (hn : n₁ ≤ w.heap.size) (hl : zs.length ≤ 1099511627776) (hT : Tails w) (x : Int) (hx : x ≤ 9223372036854775807) (g n e0 : Int) (hg : getT codesZ numsZ zs x = .tuple #[.int .i64 g, .int .i64 n, .int .i64 e0]) (h : e0 ≠ 0 ∨ g = 0) :
    Calls Tryd.prog 10 #[sv, .int .i64 x] w fun e w' => e = .returned (.tuple #[.int .i64 0, .int .i64 n, .int .i64 e0]) ∧ Below w.heap.size w w' := by
  have HB := Lib.hid (fun w' (hb : Below w.heap.size w w') => hB.below (hb.mono hn))
  have HS := Lib.hid (vsizes_any w hT)
  have HG := Lib.hid hg
  clear hB hT hg
  by_cases he : e0 = 0
  · obtain rfl : g = 0 := by omega
    clear h
    subst he
    go_enter Tryd.func10, Tryd.ntmps10
    go_wp2_with fail
    refine HS.out.mono ?_
    rintro e w1 ⟨n₀, m₁, b, rfl, hT, b1⟩
    have HGt := Lib.hid (getP_any hT (HB.out _ b1) (by have := b1.size; omega) hl x hx)
    rw [HG.out] at HGt
    have HB1 := Lib.hid b1
    clear hT b1
    go_wp2_with (go_at_call 29; refine HGt.out.mono ?_; rintro e w2 ⟨rfl, b2⟩)
    go_ret3
    exact ⟨rfl, below_chain HB1.out (Nat.le_refl _) b2⟩
  · have t1 : (e0 != 0) = true := by simpa using he
    clear h he
    go_enter Tryd.func10, Tryd.ntmps10
    go_wp2_with fail
    refine HS.out.mono ?_
    rintro e w1 ⟨n₀, m₁, b, rfl, hT, b1⟩
    have HGt := Lib.hid (getP_any hT (HB.out _ b1) (by have := b1.size; omega) hl x hx)
    rw [HG.out] at HGt
    have HB1 := Lib.hid b1
    clear hT b1
    go_wp2_with (go_at_call 29; refine HGt.out.mono ?_; rintro e w2 ⟨rfl, b2⟩)
    go_ret3
    exact ⟨rfl, below_chain HB1.out (Nat.le_refl _) b2⟩

set_option maxHeartbeats 2000000 in
theorem vget_late {n₁ : Nat} {w : World} {sv : Value} {zs : List UInt8} (hB : Byt n₁ w sv zs) (hn : n₁ ≤ w.heap.size) (hl : zs.length ≤ 1099511627776) (hT : Tails w) (A k n : Nat) (hA : A + n ≤ 8 * zs.length) (hk : 1 ≤ k) (hk2 : k < 17) (hg : getT codesZ numsZ zs (A : Int) = .tuple #[.int .i64 k, .int .i64 n, .int .i64 0]) (r m e0 : Int)
    (h : (A + n = 8 * zs.length ∧ r = 0 ∧ m = 0 ∧ e0 = 5) ∨ (A + n < 8 * zs.length ∧ bt zs (A + n) = 1 ∧ r = -k ∧ m = n + 1 ∧ e0 = 0) ∨ (A + n < 8 * zs.length ∧ bt zs (A + n) = 0 ∧ k < 16 ∧ r = k ∧ m = n + 1 ∧ e0 = 0) ∨ (A + n < 8 * zs.length ∧ bt zs (A + n) = 0 ∧ k = 16 ∧ r = 0 ∧ m = 0 ∧ e0 = 7)) :
    Calls Tryd.prog 10 #[sv, .int .i64 (A : Int)] w fun e w' => e = .returned (.tuple #[.int .i64 r, .int .i64 m, .int .i64 e0]) ∧ Below w.heap.size w w' := by
  have HB := Lib.hid (fun w' (hb : Below w.heap.size w w') => hB.below (hb.mono hn))
  have HS := Lib.hid (vsizes_any w hT)
  have HG := Lib.hid hg
  clear hB hT hg
  have hx : (A : Int) ≤ 9223372036854775807 := by omega
  have hkp : ((k : Int) == 0) = false := by rw [beq_eq_false_iff_ne]; omega
  rcases h with ⟨h1, rfl, rfl, rfl⟩ | ⟨h1, h2, rfl, rfl, rfl⟩ | ⟨h1, h2, h3, rfl, rfl, rfl⟩ | ⟨h1, h2, h3, rfl, rfl, rfl⟩
  · go_enter Tryd.func10, Tryd.ntmps10
    go_wp2_with fail
    refine HS.out.mono ?_
    rintro e w1 ⟨n₀, m₁, b, rfl, hT, b1⟩
    have HGt := Lib.hid (getP_any hT (HB.out _ b1) (by have := b1.size; omega) hl _ hx)
    rw [HG.out] at HGt
    have HB1 := Lib.hid b1
    clear hT b1
    go_wp2_with fail
    refine HGt.out.mono ?_
    rintro e w2 ⟨rfl, b2⟩
    have HB2 := Lib.hid (below_chain HB1.out (Nat.le_refl _) b2)
    clear b2
    have HRd := Lib.hid (fun i hi => read1_out (HB.out w2 HB2.out) i (A + n) hi (by omega) (by omega))
    go_wp2_with (go_at_call 30; refine (HRd.out _ (by omega)).mono ?_; rintro e w' ⟨rfl, rfl⟩)
    go_ret3
    exact ⟨rfl, HB2.out⟩
  · have HD := Lib.hid (fun w => vdif_any (-(k : Int)) w)
    rw [dif_yes (by omega) (by omega)] at HD
    go_enter Tryd.func10, Tryd.ntmps10
    go_wp2_with fail
    refine HS.out.mono ?_
    rintro e w1 ⟨n₀, m₁, b, rfl, hT, b1⟩
    have HGt := Lib.hid (getP_any hT (HB.out _ b1) (by have := b1.size; omega) hl _ hx)
    rw [HG.out] at HGt
    have HB1 := Lib.hid b1
    clear hT b1
    go_wp2_with fail
    refine HGt.out.mono ?_
    rintro e w2 ⟨rfl, b2⟩
    have HB2 := Lib.hid (below_chain HB1.out (Nat.le_refl _) b2)
    clear b2
    have HRd := Lib.hid (fun i hi => read1_in (HB.out w2 HB2.out) i (A + n) hi h1 (by omega))
    rw [h2] at HRd
    clear h2
    go_wp2_with (first
      | (go_at_call 30; refine (HRd.out _ (by omega)).mono ?_; rintro e w' ⟨rfl, rfl⟩)
      | (go_at_call 31; refine (HD.out w2).mono ?_; rintro e w' ⟨rfl, rfl⟩))
    go_ret3
    exact ⟨rfl, HB2.out⟩
  · have HD := Lib.hid (fun w => vdif_any (k : Int) w)
    rw [dif_yes (by omega) (by omega)] at HD
    go_enter Tryd.func10, Tryd.ntmps10
    go_wp2_with fail
    refine HS.out.mono ?_
    rintro e w1 ⟨n₀, m₁, b, rfl, hT, b1⟩
    have HGt := Lib.hid (getP_any hT (HB.out _ b1) (by have := b1.size; omega) hl _ hx)
    rw [HG.out] at HGt
    have HB1 := Lib.hid b1
    clear hT b1
    go_wp2_with fail
    refine HGt.out.mono ?_
    rintro e w2 ⟨rfl, b2⟩
    have HB2 := Lib.hid (below_chain HB1.out (Nat.le_refl _) b2)
    clear b2
    have HRd := Lib.hid (fun i hi => read1_in (HB.out w2 HB2.out) i (A + n) hi h1 (by omega))
    rw [h2] at HRd
    clear h2
    go_wp2_with (first
      | (go_at_call 30; refine (HRd.out _ (by omega)).mono ?_; rintro e w' ⟨rfl, rfl⟩)
      | (go_at_call 31; refine (HD.out w2).mono ?_; rintro e w' ⟨rfl, rfl⟩))
    go_ret3
    exact ⟨rfl, HB2.out⟩
  · have HD := Lib.hid (fun w => vdif_any (k : Int) w)
    rw [dif_no (by omega)] at HD
    clear h3
    go_enter Tryd.func10, Tryd.ntmps10
    go_wp2_with fail
    refine HS.out.mono ?_
    rintro e w1 ⟨n₀, m₁, b, rfl, hT, b1⟩
    have HGt := Lib.hid (getP_any hT (HB.out _ b1) (by have := b1.size; omega) hl _ hx)
    rw [HG.out] at HGt
    have HB1 := Lib.hid b1
    clear hT b1
    go_wp2_with fail
    refine HGt.out.mono ?_
    rintro e w2 ⟨rfl, b2⟩
    have HB2 := Lib.hid (below_chain HB1.out (Nat.le_refl _) b2)
    clear b2
    have HRd := Lib.hid (fun i hi => read1_in (HB.out w2 HB2.out) i (A + n) hi h1 (by omega))
    rw [h2] at HRd
    clear h2
    go_wp2_with (first
      | (go_at_call 30; refine (HRd.out _ (by omega)).mono ?_; rintro e w' ⟨rfl, rfl⟩)
      | (go_at_call 31; refine (HD.out w2).mono ?_; rintro e w' ⟨rfl, rfl⟩))
    go_ret3
    exact ⟨rfl, HB2.out⟩

theorem vget_any {n₁ : Nat} {w : World} {sv : Value} {zs : List UInt8} (hB : Byt n₁ w sv zs) (hn : n₁ ≤ w.heap.size) (hl : zs.length ≤ 1099511627776) (hT : Tails w) (x : Int) (hx : x ≤ 9223372036854775807) :
    Calls Tryd.prog 10 #[sv, .int .i64 x] w fun e w' => e = .returned (getT codes6 nums6 zs x) ∧ Below w.heap.size w w' := by
  by_cases h0 : x < 0
  · have e1 : getT codesZ numsZ zs x = .tuple #[.int .i64 0, .int .i64 0, .int .i64 3] := by unfold getT; rw [if_pos h0]
    have e2 : getT codes6 nums6 zs x = .tuple #[.int .i64 0, .int .i64 0, .int .i64 3] := by unfold getT; rw [if_pos h0]
    rw [e2]
    exact vget_early hB hn hl hT x hx 0 0 3 e1 (.inl (by decide))
  · obtain ⟨A, rfl⟩ := Int.eq_ofNat_of_zero_le (a := x) (by omega)
    cases hI : getI codesZ (seenB zs A (seenN zs A)) with
    | none =>
      obtain ⟨h6, hm⟩ := get6_none hI
      rw [getT_nix h6, hm]
      refine vget_early hB hn hl hT (A : Int) hx 0 0 _ (getT_nix hI) (.inl ?_)
      split <;> decide
    | some k =>
      obtain ⟨hk, hb⟩ := of_getI hI
      have hZ := getT_got (nums := numsZ) hI
      rw [numsZ_at hk] at hZ
      by_cases hk0 : k = 0
      · subst hk0
        rw [getT_got (get6_zero hI), nums6_at (by omega), z_zero]
        exact vget_early hB hn hl hT (A : Int) hx 0 _ 0 hZ (.inr rfl)
      · have h1 : 1 ≤ k := by omega
        have hle := begins_size hb
        rw [seenB_size] at hle
        have hs10 := (sizesZ ⟨k, hk⟩).2
        simp only at hs10
        have hseen : seenN zs A = min 24 (8 * zs.length - A) := rfl
        have hs1 := (sizesZ ⟨k, hk⟩).1
        simp only at hs1
        by_cases hcut : A + (codesZ[k]?.getD (⟨#[]⟩ : ByteArray)).size = 8 * zs.length
        · obtain ⟨h6, hm⟩ := get6_cut hI h1 (by rw [seenB_size]; omega)
          rw [getT_nix h6, hm]
          exact vget_late hB hn hl hT A k _ (by omega) h1 hk hZ _ _ _ (.inl ⟨hcut, rfl, rfl, rfl⟩)
        · have hlt : A + (codesZ[k]?.getD (⟨#[]⟩ : ByteArray)).size < 8 * zs.length := by omega
          have hat := seen_at (zs := zs) (A := A) (n := seenN zs A) (j := (codesZ[k]?.getD (⟨#[]⟩ : ByteArray)).size) (by omega)
          have hbt : bt zs (A + (codesZ[k]?.getD (⟨#[]⟩ : ByteArray)).size) = 0 ∨ bt zs (A + (codesZ[k]?.getD (⟨#[]⟩ : ByteArray)).size) = 1 := by
            have : bt zs (A + (codesZ[k]?.getD (⟨#[]⟩ : ByteArray)).size) < 2 := by unfold bt; exact Nat.mod_lt _ (by omega)
            omega
          rcases hbt with hbt | hbt
          · rw [hbt] at hat
            by_cases hk16 : k = 16
            · subst hk16
              obtain ⟨h6, hm⟩ := get6_odd hI hat
              rw [getT_nix h6, hm]
              exact vget_late hB hn hl hT A 16 _ (by omega) h1 hk hZ _ _ _ (.inr (.inr (.inr ⟨hlt, hbt, rfl, rfl, rfl, rfl⟩)))
            · have hk3 : k < 16 := by omega
              rw [getT_got (get6_plus hI h1 hk3 hat), nums6_at (by omega), size_plus hk3 h1]
              exact vget_late hB hn hl hT A k _ (by omega) h1 hk hZ _ _ _ (.inr (.inr (.inl ⟨hlt, hbt, hk3, by omega, by omega, rfl⟩)))
          · rw [hbt] at hat
            rw [getT_got (get6_minus hI h1 hat), nums6_at (by omega), size_minus hk h1]
            exact vget_late hB hn hl hT A k _ (by omega) h1 hk hZ _ _ _ (.inr (.inl ⟨hlt, hbt, by omega, by omega, rfl⟩))

/-- vector's functions, as the laws want them -/
theorem vectorI : VectorI where
  get := fun hB hn hl hT x hx => vget_any hB hn hl hT x hx
  put := fun d w hT h1 h2 => vput_any d w hT h1 h2
  turn := fun p d w => vturn_any p d w
  diff := fun p q w => vdiff_any p q w
  pred := fun a d had x y w => vpred_any a d had x y w

end Go.Proofs.YtmmnnedhoanhnaaDoor
