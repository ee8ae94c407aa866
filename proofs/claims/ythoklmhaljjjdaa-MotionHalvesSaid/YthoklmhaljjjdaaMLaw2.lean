/- motion: awake, MotionKnown, MotionHalves (praxinoscopelaw14), over the record. -/
import Derived.Test.YthoklmhaljjjdaaMLaw
namespace Go.Proofs.Ythoklmhaljjjdaa
open Go.RowKit Go.Shelf Go.Sort
set_option linter.unusedVariables false

theorem mL_chT {f g a b x y : Int} (h : mE f g a b x y 38016 = 0) : mL f g a b x y (chT 38016) = (List.range 64).map fun k => chG (mN f g a b x y k).toNat := by
  obtain ⟨hc, hl, hp, hf⟩ := mE_zero h
  unfold mL
  rw [chT_length]
  rw [if_pos (show mE f g a b x y ((38016 : Nat) : Int) = 0 from h)]
  apply List.map_congr_left
  intro k hk
  obtain ⟨h1, h2, -⟩ := mN_in hp hf (k := k) (by simpa using hk)
  rw [← hl] at h2
  unfold chT
  rw [List.getElem?_map, List.getElem?_range (by omega)]
  rfl
theorem row14_lit (I : MotionI) (g a b x y : Int) (h : I64 g ∧ I64 a ∧ I64 b ∧ I64 x ∧ I64 y) (hm : mE 0 g a b x y 38016 = 0) (ws : List UInt8) (hw : ((List.range 64).map fun k => chG (mN 0 g a b x y k).toNat).take 8 = ws) (cs : Array Value) (hcs : cs = (ws.map fun z => Value.int .u8 z.toNat).toArray) (hl : ws.length = 8) (W : World) :
    Calls Try.prog 24 #[spotV 0 g a, .int .i64 b, .int .i64 x, .int .i64 y, .slice (some ⟨W.heap.size, 0, none⟩) 8 8] (W.alloc (.cells cs 5 (0, 0))) fun e W' => e = .returned (.bool true) ∧ Below W.heap.size W W' := by
  have hB : Byt (W.alloc (.cells cs 5 (0, 0))).heap.size (W.alloc (.cells cs 5 (0, 0))) (.slice (some ⟨W.heap.size, 0, none⟩) 8 8) ws := by
    have := byt_new W ws cs 8 hcs (by omega) (W.heap.size + 1) (by omega) 5
    rw [hl] at this
    simpa using this
  refine (row14_true I 0 g a b x y (by decide) h.1 h.2.1 h.2.2.1 h.2.2.2.1 h.2.2.2.2 hm ws (by rw [mL_chT hm]; exact hw) hB).mono ?_
  rintro e W' ⟨rfl, hb⟩
  exact ⟨rfl, below_chain ((Below.refl _ W).alloc (Nat.le_refl _) _) (Nat.le_refl _) hb⟩

theorem halves14_core (I : MotionI) (n : Int) (hn : I64 n) (haw : ∀ w, Calls Try.prog 19 #[] w fun e w' => e = .returned (.bool true) ∧ Below w.heap.size w w') (w : World) :
    Calls Try.prog 4 #[.int .i64 n] w fun e w' => e = .returned (.bool true) ∧ Below w.heap.size w w' := by
  have HH := Lib.hid (fun W => I.half n W hn)
  have HR := Lib.hid (fun W => rhalf14_any n hn.1 hn.2 W)
  have HA := Lib.hid haw
  clear haw hn
  generalize hv n = h at *
  have B0 := Lib.hid (Below.refl w.heap.size w)
  go_enter Try.func4, Try.ntmps4
  go_wp2_with fail
  refine (HH.out _).mono ?_
  rintro e w1 ⟨rfl, b⟩
  have B1 := Lib.hid (below_chain B0.out (Nat.le_refl _) b)
  clear b
  go_wp2_with fail
  refine (HR.out _).mono ?_
  rintro e w' ⟨rfl, rfl⟩
  go_wp2_with fail
  refine (HA.out _).mono ?_
  rintro e w2 ⟨rfl, b⟩
  have B2 := Lib.hid (below_chain B1.out (Nat.le_refl _) b)
  clear b
  go_wp2
  go_ret
  exact ⟨rfl, B2.out⟩

theorem half14_lit (I : MotionI) (n r : Int) (hn : I64 n) (hr : hv n = r) (W : World) : Calls Try.prog 20 #[.int .i64 n] W fun e W' => e = .returned (.int .i64 r) ∧ Below W.heap.size W W' := by
  rw [← hr]; exact I.half n W hn
theorem fits14_lit (I : MotionI) (g a x y r : Int) (h : I64 g ∧ I64 a ∧ I64 x ∧ I64 y) (hr : fE 0 g a x y = r) (W : World) : Calls Try.prog 15 #[spotV 0 g a, .int .i64 x, .int .i64 y] W fun e W' => e = .returned (.int .i64 r) ∧ Below W.heap.size W W' := by
  rw [← hr]; exact I.fits 0 g a x y W (by decide) h.1 h.2.1 h.2.2.1 h.2.2.2

set_option maxRecDepth 100000 in
set_option maxHeartbeats 4000000 in
theorem awake14_any (I : MotionI) (w : World) : Calls Try.prog 19 #[] w fun e w' => e = .returned (.bool true) ∧ Below w.heap.size w w' := by
  have B0 := Lib.hid (Below.refl w.heap.size w)
  go_enter Try.func19, Try.ntmps19
  go_wp2_with fail
  refine (half14_lit I (-5) (-2) (by decide) (by decide +kernel) _).mono ?_
  rintro e w1 ⟨rfl, b⟩
  have B1 := Lib.hid (below_chain B0.out (Nat.le_refl _) b)
  clear b
  go_wp2_with fail
  refine (qcif14_any (1) (1) _).mono ?_
  rintro e w2 ⟨rfl, b⟩
  have B2 := Lib.hid (below_chain B1.out (Nat.le_refl _) b)
  clear b
  go_wp2_with fail
  refine (fits14_lit I (1) (1) (0) (0) (0) (by decide) (by decide +kernel) _).mono ?_
  rintro e w3 ⟨rfl, b⟩
  have B3 := Lib.hid (below_chain B2.out (Nat.le_refl _) b)
  clear b
  go_wp2_with fail
  refine (qcif14_any (1) (1) _).mono ?_
  rintro e w4 ⟨rfl, b⟩
  have B4 := Lib.hid (below_chain B3.out (Nat.le_refl _) b)
  clear b
  go_wp2_with fail
  refine (fits14_lit I (1) (1) (-1) (0) (12) (by decide) (by decide +kernel) _).mono ?_
  rintro e w5 ⟨rfl, b⟩
  have B5 := Lib.hid (below_chain B4.out (Nat.le_refl _) b)
  clear b
  go_wp2_with fail
  refine (qcif14_any (1) (2) _).mono ?_
  rintro e w6 ⟨rfl, b⟩
  have B6 := Lib.hid (below_chain B5.out (Nat.le_refl _) b)
  clear b
  go_wp2_with fail
  refine (row14_lit I 1 2 1 3 0 (by decide) (by decide +kernel) [19, 20, 21, 22, 23, 24, 25, 26] (by decide +kernel) _ rfl rfl _).mono ?_
  rintro e w7 ⟨rfl, b⟩
  have B7 := Lib.hid (below_chain B6.out (Nat.le_refl _) b)
  clear b
  go_wp2
  go_ret
  exact ⟨rfl, B7.out⟩

theorem fetch14_err (I : MotionI) {n₀ : Nat} {W : World} {sv : Value} {zs : List UInt8} (g a b x y r : Int) (hB : Byt n₀ W sv zs) (hn : n₀ ≤ W.heap.size) (hk : Capped sv) (h : I64 g ∧ I64 a ∧ I64 b ∧ I64 x ∧ I64 y) (hr : mE 0 g a b x y zs.length = r) :
    Calls Try.prog 12 #[sv, spotV 0 g a, .int .i64 b, .int .i64 x, .int .i64 y] W fun e W' => ∃ v, e = .returned (.tuple #[v, .int .i64 r]) ∧ Below W.heap.size W W' := by
  have := I.fetch 0 g a b x y hB hn hk (by decide) h.1 h.2.1 h.2.2.1 h.2.2.2.1 h.2.2.2.2
  rw [hr] at this
  exact this.mono fun e W' ⟨v, h1, _, h3⟩ => ⟨v, h1, h3⟩

set_option maxRecDepth 100000 in
set_option maxHeartbeats 4000000 in
theorem known14_any (I : MotionI) (w : World) : Calls Try.prog 5 #[] w fun e w' => e = .returned (.bool true) ∧ Below w.heap.size w w' := by
  have B0 := Lib.hid (Below.refl w.heap.size w)
  go_enter Try.func5, Try.ntmps5
  go_wp2_with fail
  refine (chapter14_any _).mono ?_
  rintro e w1 ⟨vc, rfl, ho, b⟩
  have B1 := Lib.hid (below_chain B0.out (Nat.le_refl _) b)
  have HO := Lib.hid (byt_own (zs := chT 38016) (n₀ := w1.heap.size) (by rw [chT_length]; exact ho) (by rw [chT_length]; omega) (Nat.le_refl _))
  have HCp := Lib.hid (capped_own ho)
  clear b ho
  go_wp2_with fail
  refine (qcif14_any 1 2 _).mono ?_
  rintro e w2 ⟨rfl, b⟩
  have B2 := Lib.hid (below_chain B1.out (Nat.le_refl _) b)
  have HO := Lib.hid (HO.out.below b)
  have hz2 := b.size
  clear b
  go_wp2_with fail
  refine (fetch14_err I 1 2 7 0 0 3 HO.out hz2 HCp.out (by decide) (by rw [chT_length]; decide +kernel)).mono ?_
  rintro e w3 ⟨v3, rfl, b⟩
  have B3 := Lib.hid (below_chain B2.out (Nat.le_refl _) b)
  clear b hz2 HO
  have HL3 := Lib.hid (show Byt (w3.heap.size + 1) (w3.alloc (.cells #[.int .u8 1, .int .u8 2, .int .u8 3] 5 (0, 0))) (.slice (some ⟨w3.heap.size, 0, none⟩) 3 3) [1, 2, 3] from byt_new w3 [1, 2, 3] _ 3 rfl (by decide) _ (by omega) 5)
  have hz4 : (w3.alloc (.cells #[.int .u8 1, .int .u8 2, .int .u8 3] 5 (0, 0))).heap.size = w3.heap.size + 1 := by simp
  have hb4 := (Below.refl w3.heap.size w3).alloc (Nat.le_refl _) (.cells #[.int .u8 1, .int .u8 2, .int .u8 3] 5 (0, 0))
  have B4 := Lib.hid (below_chain B3.out (Nat.le_refl _) hb4)
  go_wp2_with fail
  generalize w3.alloc (.cells #[.int .u8 1, .int .u8 2, .int .u8 3] 5 (0, 0)) = w4 at *
  refine (qcif14_any 1 2 _).mono ?_
  rintro e w5 ⟨rfl, b⟩
  have B5 := Lib.hid (below_chain B4.out (Nat.le_refl _) b)
  have HL3 := Lib.hid (HL3.out.below (b.mono (by omega)))
  have hz5 : w3.heap.size + 1 ≤ w5.heap.size := by have := b.size; omega
  clear b hb4 hz4
  go_wp2_with fail
  refine (fetch14_err I 1 2 1 0 0 2 HL3.out hz5 ⟨_, _, _, rfl, Nat.le_refl _⟩ (by decide) (by decide +kernel)).mono ?_
  rintro e w6 ⟨v6, rfl, b⟩
  have B6 := Lib.hid (below_chain B5.out (Nat.le_refl _) b)
  clear b hz5 HL3
  go_wp2_with fail
  refine (half14_lit I (5) (2) (by decide) (by decide +kernel) _).mono ?_
  rintro e w7 ⟨rfl, b⟩
  have B7 := Lib.hid (below_chain B6.out (Nat.le_refl _) b)
  clear b
  go_wp2_with fail
  refine (half14_lit I (-1) (0) (by decide) (by decide +kernel) _).mono ?_
  rintro e w8 ⟨rfl, b⟩
  have B8 := Lib.hid (below_chain B7.out (Nat.le_refl _) b)
  clear b
  go_wp2_with fail
  refine (qcif14_any (1) (11) _).mono ?_
  rintro e w9 ⟨rfl, b⟩
  have B9 := Lib.hid (below_chain B8.out (Nat.le_refl _) b)
  clear b
  go_wp2_with fail
  refine (fits14_lit I (1) (11) (1) (0) (12) (by decide) (by decide +kernel) _).mono ?_
  rintro e w10 ⟨rfl, b⟩
  have B10 := Lib.hid (below_chain B9.out (Nat.le_refl _) b)
  clear b
  go_wp2_with fail
  refine (qcif14_any (5) (33) _).mono ?_
  rintro e w11 ⟨rfl, b⟩
  have B11 := Lib.hid (below_chain B10.out (Nat.le_refl _) b)
  clear b
  go_wp2_with fail
  refine (fits14_lit I (5) (33) (0) (1) (12) (by decide) (by decide +kernel) _).mono ?_
  rintro e w12 ⟨rfl, b⟩
  have B12 := Lib.hid (below_chain B11.out (Nat.le_refl _) b)
  clear b
  go_wp2_with fail
  refine (qcif14_any (1) (1) _).mono ?_
  rintro e w13 ⟨rfl, b⟩
  have B13 := Lib.hid (below_chain B12.out (Nat.le_refl _) b)
  clear b
  go_wp2_with fail
  refine (fits14_lit I (1) (1) (16) (0) (3) (by decide) (by decide +kernel) _).mono ?_
  rintro e w14 ⟨rfl, b⟩
  have B14 := Lib.hid (below_chain B13.out (Nat.le_refl _) b)
  clear b
  go_wp2_with fail
  refine (awake14_any I _).mono ?_
  rintro e w15 ⟨rfl, b⟩
  have B15 := Lib.hid (below_chain B14.out (Nat.le_refl _) b)
  clear b
  go_wp2_with fail
  refine (qcif14_any (1) (13) _).mono ?_
  rintro e w16 ⟨rfl, b⟩
  have B16 := Lib.hid (below_chain B15.out (Nat.le_refl _) b)
  clear b
  go_wp2_with fail
  refine (row14_lit I 1 13 5 0 (-3) (by decide) (by decide +kernel) [7, 7, 7, 7, 7, 7, 7, 7] (by decide +kernel) _ rfl rfl _).mono ?_
  rintro e w17 ⟨rfl, b⟩
  have B17 := Lib.hid (below_chain B16.out (Nat.le_refl _) b)
  clear b
  go_wp2
  go_ret
  exact ⟨rfl, B17.out⟩
theorem halves14_any (I : MotionI) (n : Int) (hn : I64 n) (w : World) : Calls Try.prog 4 #[.int .i64 n] w fun e w' => e = .returned (.bool true) ∧ Below w.heap.size w w' := halves14_core I n hn (awake14_any I) w

end Go.Proofs.Ythoklmhaljjjdaa
