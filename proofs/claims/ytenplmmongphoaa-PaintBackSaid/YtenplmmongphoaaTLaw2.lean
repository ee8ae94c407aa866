/- paint: the walk of PaintAdds (praxinoscopelaw16). -/
import Derived.Test.YtenplmmongphoaaTLaw
import Derived.Test.YtenplmmongphoaaQueue
namespace Go.Proofs.Ytenplmmongphoaa
open Go.RowKit Go.Shelf Go.Sort
set_option linter.unusedVariables false

set_option maxRecDepth 100000 in
set_option maxHeartbeats 4000000 in
theorem adds16_walk (I : PaintI) {w : World} {a : Option Addr} {len cap : Nat} {zs : List UInt8} (hR : Row8 w.heap.size w a len cap zs) {a' : Option Addr} {len' cap' : Nat} {xs : List Int} (hX : RowV w.heap.size w a' len' cap' (intV xs)) (h64 : I64s xs) (n : Int) (hn : I64 n) :
    Calls Try.prog 3 #[.slice a len cap, .slice a' len' cap', .int .i64 n] w fun e w' => e = .returned (.bool true) ∧ Below w.heap.size w w' := by
  have HAw := Lib.hid (fun W => awake16_any I W)
  have hxl : xs.length = len' := by have := hX.1; simpa using this
  by_cases hl1 : 80 < len
  · have q1 : (80 : Int) < (len : Int) := by omega
    clear hR hX
    go_enter Try.func3, Try.ntmps3
    go_wp2_with (go_at_call 9; refine (HAw.out _).mono ?_; rintro e w' ⟨rfl, hb⟩)
    go_ret
    exact ⟨rfl, hb⟩
  · have q1 : ¬ (80 : Int) < (len : Int) := by omega
    by_cases hl2 : 80 < len'
    · have q2 : (80 : Int) < (len' : Int) := by omega
      clear hR hX
      go_enter Try.func3, Try.ntmps3
      go_wp2_with (go_at_call 9; refine (HAw.out _).mono ?_; rintro e w' ⟨rfl, hb⟩)
      go_ret
      exact ⟨rfl, hb⟩
    · have q2 : ¬ (80 : Int) < (len' : Int) := by omega
      have hl := hR.1
      subst hl
      have HSrc : Hid (Src w a zs.length (u8s zs)) := by
        have h := hR.src (n := zs.length) (Nat.le_refl _)
        rw [List.take_length] at h
        exact h
      have HB : Hid (∀ w', Below w.heap.size w w' → Byt w.heap.size w' (.slice a zs.length cap) zs) := fun w' hb => by
        have h := hR.byt (Nat.le_refl _) (k := zs.length) (Nat.le_refl _) (by omega)
        rw [List.take_length] at h
        exact h.below hb
      have HNc := Lib.hid hR.nocap
      have HLe := Lib.hid (lent_any HSrc.out HNc.out (by omega))
      have HCo := Lib.hid (fun w' (hb : Below w.heap.size w w') => copyInts_any (hX.below hb) (by omega))
      have HRB := Lib.hid (fun w' (hb : Below w.heap.size w w') => hX.below hb)
      have HC := Lib.hid (fun W => I.clip n W hn)
      have HRC := Lib.hid (fun W => rclip16_any n W)
      have hlf : (adL zs xs).length ≤ 64 := by rw [adL_length]; split <;> omega
      have hls : (adL zeroB64 xs).length ≤ 64 := by rw [adL_length]; split <;> omega
      have HF := Lib.hid (fun (n₀ n₁ : Nat) (W : World) (sv : Value) (av : Option Addr) (l c : Nat) (hB : Byt n₀ W sv zs) (hn : n₀ ≤ W.heap.size) (hk : Capped sv) (h : RowV n₁ W av l c (intV xs)) (hn₁ : n₁ ≤ W.heap.size) (hl : l ≤ 1000000) => I.add hB hn hk h hn₁ hl h64)
      have HRF := Lib.hid (fun (n₀ n₁ : Nat) (W : World) (sv : Value) (av : Option Addr) (l c : Nat) (hB : Byt n₀ W sv zs) (hn : n₀ ≤ W.heap.size) (h : RowV n₁ W av l c (intV xs)) (hn₁ : n₁ ≤ W.heap.size) (hl : l ≤ 1000000) => radd16_any hB hn h hn₁ hl)
      have HS := Lib.hid (fun (n₀ : Nat) (W : World) (av : Option Addr) (l c : Nat) (h : RowV n₀ W av l c (intV xs)) (hn : n₀ ≤ W.heap.size) (hl : l ≤ 1000000) => I.flat h hn hl h64)
      have HRS := Lib.hid (fun (n₀ : Nat) (W : World) (av : Option Addr) (l c : Nat) (h : RowV n₀ W av l c (intV xs)) (hn : n₀ ≤ W.heap.size) (hl : l ≤ 1000000) => rflat16_any h hn hl)
      clear hR hX h64
      generalize adL zs xs = FL at *
      generalize adE zs.length xs = FE at *
      generalize adL zeroB64 xs = SL at *
      generalize adE 64 xs = SE at *
      generalize (clB n).toNat = cn at *
      go_enter Try.func3, Try.ntmps3
      go_wp2_with fail
      refine HLe.out.mono ?_
      rintro e w1 ⟨vl, rfl, hL, b1⟩
      have HL := Lib.hid hL
      have B1 := Lib.hid b1
      have hs1 := b1.size
      have hll : ∀ k, vl.ownBlock = some k → w.heap.size ≤ k ∧ k < w1.heap.size := by
        obtain ⟨g, c, rfl, hg, hr⟩ := hL
        intro k e
        have := hr.lt k (by simpa [Value.ownBlock] using e)
        simp [Value.ownBlock] at e
        omega
      have HLl := Lib.hid hll
      clear b1 hL hll
      go_wp2_with fail
      refine (HCo.out w1 B1.out).mono ?_
      rintro e w2 ⟨vc, rfl, hc, b2⟩
      obtain ⟨ac, cc, rfl, hr2⟩ := rowV_own4 hc
      simp only [List.length_map, hxl] at hr2
      have B2 := Lib.hid (below_chain B1.out (Nat.le_refl _) b2)
      have HL2 := Lib.hid (HL.out.bar (bar_of_below (S := fun _ => False) b2) (fun _ _ e => e))
      have HR2 := Lib.hid hr2
      have hs2 := b2.size
      clear b2 hc hr2 HCo HLe HL
      go_wp2_with fail
      refine (HF.out _ _ w2 _ _ _ _ (HL2.out.byt (by omega)) (Nat.le_refl _) (capped_lent HL2.out) HR2.out (by omega) (by omega)).mono ?_
      rintro e w3 ⟨va, rfl, ha, b3⟩
      have B3 := Lib.hid (below_chain B2.out (Nat.le_refl _) b3)
      have HL3 := Lib.hid (HL2.out.bar (bar_of_below (S := fun _ => False) b3) (fun _ _ e => e))
      have HR3 := Lib.hid (HR2.out.below (b3.mono (by omega)))
      have HA := Lib.hid ha
      have HAu := Lib.hid ha.lt
      have hs3 := b3.size
      clear b3 ha HF HL2 HR2
      go_wp2_with fail
      refine (HRF.out _ _ w3 _ _ _ _ (HB.out w3 B3.out) B3.out.size (HRB.out w3 B3.out) B3.out.size (by omega)).mono ?_
      rintro e w4 ⟨vb, rfl, hb, b4⟩
      have B4 := Lib.hid (below_chain B3.out (Nat.le_refl _) b4)
      have HL4 := Lib.hid (HL3.out.bar (bar_of_below (S := fun _ => False) b4) (fun _ _ e => e))
      have HR4 := Lib.hid (HR3.out.below (b4.mono (by omega)))
      have HA4 := Lib.hid (ownsRow_belowN HA.out b4)
      have HBb := Lib.hid hb
      have hs4 := b4.size
      clear b4 hb HRF HL3 HR3 HA
      go_wp2_with fail
      refine (HS.out _ w4 _ _ _ HR4.out (by omega) (by omega)).mono ?_
      rintro e w5 ⟨vs, rfl, hc, b5⟩
      have B5 := Lib.hid (below_chain B4.out (Nat.le_refl _) b5)
      have HL5 := Lib.hid (HL4.out.bar (bar_of_below (S := fun _ => False) b5) (fun _ _ e => e))
      have HR5 := Lib.hid (HR4.out.below (b5.mono (by omega)))
      have HA5 := Lib.hid (ownsRow_belowN HA4.out b5)
      have HBb5 := Lib.hid (ownsRow_belowN HBb.out b5)
      have HC5 := Lib.hid hc
      have hs5 := b5.size
      clear b5 hc HS HL4 HR4 HA4 HBb
      go_wp2_with fail
      refine (HRS.out _ w5 _ _ _ (HRB.out w5 B5.out) B5.out.size (by omega)).mono ?_
      rintro e w6 ⟨vd, rfl, hd, b6⟩
      have B6 := Lib.hid (below_chain B5.out (Nat.le_refl _) b6)
      have HL6 := Lib.hid (HL5.out.bar (bar_of_below (S := fun _ => False) b6) (fun _ _ e => e))
      have HR6 := Lib.hid (HR5.out.below (b6.mono (by omega)))
      have HA6 := Lib.hid (ownsRow_belowN HA5.out b6)
      have HBb6 := Lib.hid (ownsRow_belowN HBb5.out b6)
      have HC6 := Lib.hid (ownsRow_belowN HC5.out b6)
      have HD6 := Lib.hid hd
      have hs6 := b6.size
      clear b6 hd HRS HL5 HR5 HA5 HBb5 HC5
      have HSm := Lib.hid (same_any (byt_own HA6.out (by omega) (Nat.le_refl _)) (byt_own HBb6.out (by omega) (Nat.le_refl _)))
      simp only [decide_true] at HSm
      go_wp2_with fail
      refine HSm.out.mono ?_
      rintro e w7 ⟨rfl, rfl⟩
      have HSi := Lib.hid (same_any (byt_own HC6.out (by omega) (Nat.le_refl _)) (byt_own HD6.out (by omega) (Nat.le_refl _)))
      simp only [decide_true] at HSi
      clear HSm
      go_wp2_with fail
      refine HSi.out.mono ?_
      rintro e w7 ⟨rfl, rfl⟩
      clear HSi
      go_wp2_with fail
      refine (HC.out _).mono ?_
      rintro e w7 ⟨rfl, b7⟩
      have B7 := Lib.hid (below_chain B6.out (Nat.le_refl _) b7)
      have HL7 := Lib.hid (HL6.out.bar (bar_of_below (S := fun _ => False) b7) (fun _ _ e => e))
      have HR7 := Lib.hid (HR6.out.below (b7.mono (by omega)))
      have HA7 := Lib.hid (ownsRow_belowN HA6.out b7)
      have HC7 := Lib.hid (ownsRow_belowN HC6.out b7)
      have hs7 := b7.size
      clear b7 HL6 HR6 HA6 HC6 HBb6 HD6
      go_wp2_with fail
      refine (HRC.out _).mono ?_
      rintro e w8 ⟨rfl, rfl⟩
      go_wp2_with fail
      refine (over_any HA7.out (by omega)).mono ?_
      rintro e w8 ⟨rfl, b8⟩
      have HAl := Lib.hid HA7.out.lt
      have HCl := Lib.hid HC7.out.lt
      have B8 := Lib.hid (B7.out.trans (b8.below B7.out.size (fun k hk e => by have := (HAl.out k e).1; omega)))
      have HL8 := Lib.hid (HL7.out.bar b8 (fun k e e' => by have := (HAl.out k e').1; have := (HLl.out k e).2; omega))
      have HR8 := Lib.hid (HR7.out.below (b8.below (by omega) (fun k hk e => by have := (HAl.out k e).1; omega)))
      have HC8 := Lib.hid (ownsRow_bar HC7.out b8 (fun k e e' => by have := (HCl.out k e).1; have := (HAu.out k e').2; omega))
      have hs8 := b8.size
      clear b8 HL7 HR7 HA7 HC7 HAl
      go_wp2_with fail
      refine (over_any HC8.out (by omega)).mono ?_
      rintro e w9 ⟨rfl, b9⟩
      have B9 := Lib.hid (B8.out.trans (b9.below B8.out.size (fun k hk e => by have := (HCl.out k e).1; omega)))
      have HL9 := Lib.hid (HL8.out.bar b9 (fun k e e' => by have := (HCl.out k e').1; have := (HLl.out k e).2; omega))
      have HR9 := Lib.hid (HR8.out.below (b9.below (by omega) (fun k hk e => by have := (HCl.out k e).1; omega)))
      have hs9 := b9.size
      clear b9 HL8 HR8 HC8
      go_wp2_with fail
      refine (kept_any HL9.out (HB.out w9 B9.out) (by omega)).mono ?_
      rintro e w10 ⟨rfl, b10⟩
      have B10 := Lib.hid (below_chain B9.out (Nat.le_refl _) b10)
      have HR10 := Lib.hid (HR9.out.below (b10.mono (by omega)))
      clear b10 HL9 HR9
      have HSi := Lib.hid (sameInts_any HR10.out.cellsAt (HRB.out w10 B10.out).cellsAt (by omega) (by omega))
      simp only [decide_true] at HSi
      go_wp2_with fail
      refine HSi.out.mono ?_
      rintro e w11 ⟨rfl, b11⟩
      have B11 := Lib.hid (below_chain B10.out (Nat.le_refl _) b11)
      clear b11
      go_wp2_with fail
      refine (HAw.out w11).mono ?_
      rintro e w12 ⟨rfl, b12⟩
      have B12 := below_chain B11.out (Nat.le_refl _) b12
      clear b12
      go_wp2
      go_ret
      exact ⟨rfl, B12⟩

end Go.Proofs.Ytenplmmongphoaa
