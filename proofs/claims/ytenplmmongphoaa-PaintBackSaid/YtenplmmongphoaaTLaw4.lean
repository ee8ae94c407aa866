/- paint: the walk of PaintKnown (praxinoscopelaw16). -/
import Derived.Test.YtenplmmongphoaaTLaw
import Derived.Test.YtenplmmongphoaaTPic
namespace Go.Proofs.Ytenplmmongphoaa
open Go.RowKit Go.Shelf Go.Sort
set_option linter.unusedVariables false

/-- a row of bytes of a call's own -/
theorem picW_own {base n : Nat} {W : World} {v : Value} {zs : List UInt8} (h : W.ownsRow base 5 1 v n (u8s zs)) (hn : zs.length = n) (h0 : 0 < n) : ∃ g cap rest, v = .slice (some ⟨g, 0, none⟩) n cap ∧ base ≤ g ∧ n ≤ cap ∧ cap ≤ 9223372036854775807 ∧ PicW W g [] zs rest := by
  subst hn
  obtain ⟨-, h2⟩ := h
  rcases h2 with ⟨-, h2⟩ | ⟨g, cap, cur, e, hb, hh, h1, h3, h4, h5⟩
  · omega
  · refine ⟨g, cap, cur.toList.drop zs.length, e, hb, h1, by unfold maxLen at h3; omega, ?_⟩
    unfold PicW
    rw [hh]
    congr 2
    apply Array.ext'
    simp only [Nat.mul_one] at h5
    simp only [List.nil_append]
    conv => lhs; rw [← List.take_append_drop zs.length cur.toList, h5]

theorem lyL_no {f g a b : Int} {zs ss : List UInt8} (h : lyE f g a b zs.length ss.length ≠ 0) : lyL f g a b zs ss = zs := if_neg h
theorem known_a : lyE 0 1 1 1 38016 64 = 0 ∧ lyE 0 1 1 7 38016 64 = 3 ∧ lyE 0 1 1 1 3 64 = 2 ∧ cpE 0 1 1 38016 3 = 2 ∧ sN 0 = 38016 ∧ sN 2 = 0 := by decide +kernel
theorem known_b : adE 2 [1, 2] = 2 ∧ adE 64 (List.replicate 64 2097152) = 3 ∧ adE 64 (List.replicate 64 77) = 0 ∧ adL zeroB64 (List.replicate 64 77) = same8 77 := by decide +kernel
theorem known_c : psT 0 1 1 1 0 = 0 ∧ psT 0 1 1 1 7 = 7 ∧ psT 0 1 1 1 8 = 176 := by decide +kernel
theorem known_d : ∀ k : Fin 64, psT 0 1 1 1 k ≠ 8 ∧ psT 0 1 1 1 k ≠ 175 ∧ psT 0 1 1 1 k < 38016 := by decide +kernel
theorem known_e : ∀ j k : Fin 64, psT 0 1 1 1 j = psT 0 1 1 1 k → j = k := by decide +kernel
theorem grey_length : (greyL 0).length = 38016 := by unfold greyL; rw [known_a.2.2.2.2.1, List.length_replicate]; rfl
theorem grey_get {j : Nat} (h : j < 38016) : (greyL 0)[j]?.getD 0 = 128 := by
  unfold greyL
  rw [known_a.2.2.2.2.1, List.getElem?_replicate, if_pos (by omega)]
  rfl
theorem same8_get {x : UInt8} {k : Nat} (h : k < 64) : (same8 x)[k]?.getD 0 = x := by unfold same8; rw [upU_get _ _ h, if_pos h]; rfl
/-- seven laid into grey -/
theorem laid_at : let Z := lyL 0 1 1 1 (greyL 0) (same8 7)
    Z.length = 38016 ∧ Z[0]?.getD 0 = 7 ∧ Z[7]?.getD 0 = 7 ∧ Z[8]?.getD 0 = 128 ∧ Z[176]?.getD 0 = 7 ∧ Z[175]?.getD 0 = 128 := by
  intro Z
  have hZ : Z = putT (psT 0 1 1 1) (fun k => (same8 7)[k]?.getD 0) (greyL 0) 64 := by
    show lyL 0 1 1 1 (greyL 0) (same8 7) = _
    unfold lyL
    rw [grey_length, same8_length]
    exact if_pos known_a.1
  obtain ⟨h1, h2⟩ := putT_at (P := psT 0 1 1 1) (V := fun k => (same8 7)[k]?.getD 0) (zs := greyL 0) (N := 64) (fun k hk => by rw [grey_length]; exact (known_d ⟨k, hk⟩).2.2) (fun j k hj hk e => congrArg Fin.val (known_e ⟨j, hj⟩ ⟨k, hk⟩ e)) (Nat.le_refl 64)
  rw [← hZ] at h1 h2
  refine ⟨by rw [hZ, putT_length]; exact grey_length, ?_, ?_, ?_, ?_, ?_⟩
  · have := h1 0 (by omega)
    rw [known_c.1] at this
    exact this.trans (same8_get (by omega))
  · have := h1 7 (by omega)
    rw [known_c.2.1] at this
    exact this.trans (same8_get (by omega))
  · exact (h2 8 (fun k hk => (known_d ⟨k, hk⟩).1)).trans (grey_get (by omega))
  · have := h1 8 (by omega)
    rw [known_c.2.2] at this
    exact this.trans (same8_get (by omega))
  · exact (h2 175 (fun k hk => (known_d ⟨k, hk⟩).2.1)).trans (grey_get (by omega))

set_option maxRecDepth 100000 in
set_option maxHeartbeats 4000000 in
theorem known16_any (I : PaintI) (w : World) : Calls Try.prog 5 #[] w fun e w' => e = .returned (.bool true) ∧ Below w.heap.size w w' := by
  have i0 : I64 0 := by unfold I64; omega
  have i1 : I64 1 := by unfold I64; omega
  have i7 : I64 7 := by unfold I64; omega
  have i2 : I64 2 := by unfold I64; omega
  have HAw := Lib.hid (fun W => awake16_any I W)
  have HQ := Lib.hid (qcif16_any 1 1)
  have HS7 := Lib.hid (fun W => same16_any 7 W)
  have HS3 := Lib.hid (fun W => same16_any 3 W)
  have HS77 := Lib.hid (fun W => same16_any 77 W)
  have HIb := Lib.hid (fun W => ints16_any 2097152 W)
  have HI77 := Lib.hid (fun W => ints16_any 77 W)
  obtain ⟨z0, z1, z2, z3, z4, z5⟩ := laid_at
  have HG0 : Hid (∀ W, Calls Try.prog 28 #[.int .i64 0] W fun e W' => ∃ g cap rest, e = .returned (.slice (some ⟨g, 0, none⟩) 38016 cap) ∧ W.heap.size ≤ g ∧ 38016 ≤ cap ∧ PicW W' g [] (greyL 0) rest ∧ Below W.heap.size W W') := fun W => (I.grey 0 W i0).mono (by
    rintro e W' ⟨v, rfl, ho, hb⟩
    obtain ⟨a, cap, rfl, h2, h⟩ := ho
    rw [grey_length] at h2 ⊢
    rcases h with h | ⟨g, rest, rfl, h1, h4⟩
    · have := grey_length
      rw [h] at this
      cases this
    · exact ⟨g, cap, rest, rfl, h1, h2, h4, hb⟩)
  have HG2 : Hid (∀ W, Calls Try.prog 28 #[.int .i64 2] W fun e W' => ∃ a cap, e = .returned (.slice a 0 cap) ∧ Below W.heap.size W W') := fun W => (I.grey 2 W i2).mono (by
    rintro e W' ⟨v, rfl, ho, hb⟩
    have e0 : (greyL 2).length = 0 := by unfold greyL; rw [known_a.2.2.2.2.2]; rfl
    obtain ⟨a, cap, rfl, -⟩ := ho
    rw [e0]
    exact ⟨a, cap, rfl, hb⟩)
  have HL1 : Hid (∀ (W : World) (g V cap : Nat) (rest : List Value), PicW W g [] (greyL 0) rest → 38016 ≤ cap → BytR W V (same8 7) → V ≠ g → Calls Try.prog 24 #[.slice (some ⟨g, 0, none⟩) 38016 cap, spotV 0 1 1, .int .i64 1, .slice (some ⟨V, 0, none⟩) 64 64] W fun e W' => e = .returned (.int .i64 0) ∧ PicW W' g [] (lyL 0 1 1 1 (greyL 0) (same8 7)) rest ∧ Bar (fun k => k = g) W W') := fun W g V cap rest hp hc hv hne => by
    have := I.lay (cap := cap) 0 1 1 1 hp (by rw [grey_length]; exact hc) (by rw [grey_length]; omega) (hv.byt (same8_length _) (by omega)) (Nat.le_refl _) (fun e => hne (by simpa [Value.ownBlock] using e)) ⟨_, _, _, rfl, Nat.le_refl _⟩ i0 i1 i1 i1
    rw [grey_length, same8_length, show lyE 0 1 1 1 ((38016 : Nat) : Int) ((64 : Nat) : Int) = 0 from known_a.1] at this
    exact this
  have HL7 : Hid (∀ (W : World) (g V cap : Nat) (rest : List Value), PicW W g [] (lyL 0 1 1 1 (greyL 0) (same8 7)) rest → 38016 ≤ cap → BytR W V (same8 7) → V ≠ g → Calls Try.prog 24 #[.slice (some ⟨g, 0, none⟩) 38016 cap, spotV 0 1 1, .int .i64 7, .slice (some ⟨V, 0, none⟩) 64 64] W fun e W' => e = .returned (.int .i64 3) ∧ PicW W' g [] (lyL 0 1 1 1 (greyL 0) (same8 7)) rest ∧ Bar (fun k => k = g) W W') := fun W g V cap rest hp hc hv hne => by
    have := I.lay (cap := cap) 0 1 1 7 hp (by rw [z0]; exact hc) (by rw [z0]; omega) (hv.byt (same8_length _) (by omega)) (Nat.le_refl _) (fun e => hne (by simpa [Value.ownBlock] using e)) ⟨_, _, _, rfl, Nat.le_refl _⟩ i0 i1 i1 i7
    rw [show lyL 0 1 1 7 (lyL 0 1 1 1 (greyL 0) (same8 7)) (same8 7) = lyL 0 1 1 1 (greyL 0) (same8 7) from lyL_no (by rw [z0, same8_length, show lyE 0 1 1 7 ((38016 : Nat) : Int) ((64 : Nat) : Int) = 3 from known_a.2.1]; decide), z0, same8_length, show lyE 0 1 1 7 ((38016 : Nat) : Int) ((64 : Nat) : Int) = 3 from known_a.2.1] at this
    exact this
  have HL3 : Hid (∀ (W : World) (g V : Nat), PicW W g [] [1, 2, 3] [] → BytR W V (same8 7) → V ≠ g → Calls Try.prog 24 #[.slice (some ⟨g, 0, none⟩) 3 3, spotV 0 1 1, .int .i64 1, .slice (some ⟨V, 0, none⟩) 64 64] W fun e W' => e = .returned (.int .i64 2) ∧ PicW W' g [] [1, 2, 3] [] ∧ Bar (fun k => k = g) W W') := fun W g V hp hv hne => by
    have := I.lay (cap := 3) 0 1 1 1 hp (by decide) (by decide) (hv.byt (same8_length _) (by omega)) (Nat.le_refl _) (fun e => hne (by simpa [Value.ownBlock] using e)) ⟨_, _, _, rfl, Nat.le_refl _⟩ i0 i1 i1 i1
    rw [show lyL 0 1 1 1 [1, 2, 3] (same8 7) = [1, 2, 3] from lyL_no (by rw [same8_length, show lyE 0 1 1 1 (([1, 2, 3] : List UInt8).length : Int) ((64 : Nat) : Int) = 2 from known_a.2.2.1]; decide), same8_length, show lyE 0 1 1 1 (([1, 2, 3] : List UInt8).length : Int) ((64 : Nat) : Int) = 2 from known_a.2.2.1] at this
    exact this
  have HC : Hid (∀ (W : World) (g V cap : Nat) (rest : List Value), PicW W g [] (lyL 0 1 1 1 (greyL 0) (same8 7)) rest → 38016 ≤ cap → PicW W V [] [1, 2, 3] [] → V ≠ g → Calls Try.prog 26 #[.slice (some ⟨g, 0, none⟩) 38016 cap, .slice (some ⟨V, 0, none⟩) 3 3, spotV 0 1 1] W fun e W' => e = .returned (.int .i64 2) ∧ Bar (fun k => k = g) W W') := fun W g V cap rest hp hc hv hne => by
    have := I.copy (cap := cap) 0 1 1 hp (by rw [z0]; exact hc) (by rw [z0]; omega) (by decide) (hv.byt hv.lt (by decide) 3) (Nat.le_refl _) (fun e => hne (by simpa [Value.ownBlock] using e)) ⟨_, _, _, rfl, Nat.le_refl _⟩ i0 i1 i1
    rw [z0, show cpE 0 1 1 ((38016 : Nat) : Int) (([1, 2, 3] : List UInt8).length : Int) = 2 from known_a.2.2.2.1] at this
    exact this.mono (by rintro e W' ⟨h1, -, h3⟩; exact ⟨h1, h3⟩)
  have HA2 : Hid (∀ W : World, Calls Try.prog 12 #[.slice (some ⟨W.heap.size, 0, none⟩) 2 2, .slice (some ⟨W.heap.size + 1, 0, none⟩) 2 2] ((W.alloc (.cells #[.int .u8 1, .int .u8 2] 5 (0, 0))).alloc (.cells #[.int .i64 1, .int .i64 2] 3 (0, 0))) fun e w' => ∃ v, e = .returned (.tuple #[v, .int .i64 2]) ∧ Below W.heap.size W w') := fun W => by
    obtain ⟨W1, hW1⟩ : ∃ W1, W.alloc (.cells #[.int .u8 1, .int .u8 2] 5 (0, 0)) = W1 := ⟨_, rfl⟩
    have hb1 : Below W.heap.size W W1 := by rw [← hW1]; exact (Below.refl _ W).alloc (Nat.le_refl _) _
    have hz1 : W1.heap.size = W.heap.size + 1 := by rw [← hW1]; simp
    have hB : BytR W1 W.heap.size [1, 2] := by rw [← hW1]; exact bytR_new W [1, 2]
    rw [hW1, ← hz1]
    have hb2 : Below W1.heap.size W1 (W1.alloc (.cells #[.int .i64 1, .int .i64 2] 3 (0, 0))) := (Below.refl _ W1).alloc (Nat.le_refl _) _
    have hr := rowV_new W1 (intV [1, 2]) 3 2 rfl (by omega)
    have := I.add ((hB.byt (n := 2) rfl (by omega)).below hb2) hb2.size ⟨_, _, _, rfl, Nat.le_refl _⟩ hr (Nat.le_refl _) (by omega) (fun n hn => by simp at hn; rcases hn with rfl | rfl <;> omega)
    rw [show adE ([1, 2] : List UInt8).length [1, 2] = 2 from known_b.1] at this
    refine this.mono ?_
    rintro e w' ⟨v, rfl, -, hb⟩
    exact ⟨v, rfl, below_chain (below_chain hb1 (Nat.le_refl _) hb2) (Nat.le_refl _) hb⟩
  have HA3 : Hid (∀ (W : World) (b1 b2 : Nat), BytR W b1 (same8 3) → NumsAt W b2 3 (List.replicate 64 2097152) → Calls Try.prog 12 #[.slice (some ⟨b1, 0, none⟩) 64 64, .slice (some ⟨b2, 0, none⟩) 64 64] W fun e w' => ∃ v, e = .returned (.tuple #[v, .int .i64 3]) ∧ Below W.heap.size W w') := fun W b1 b2 h1 h2 => by
    have := I.add (h1.byt (same8_length 3) (by omega)) (Nat.le_refl _) ⟨_, _, _, rfl, Nat.le_refl _⟩ (h2.rowV (by simp)) (Nat.le_refl _) (by omega) (fun n hn => by rw [List.eq_of_mem_replicate hn]; omega)
    rw [same8_length, known_b.2.1] at this
    exact this.mono (by rintro e w' ⟨v, rfl, -, hb⟩; exact ⟨v, rfl, hb⟩)
  have HF : Hid (∀ (W : World) (b2 : Nat), NumsAt W b2 3 (List.replicate 64 77) → Calls Try.prog 14 #[.slice (some ⟨b2, 0, none⟩) 64 64] W fun e w' => ∃ v, e = .returned (.tuple #[v, .int .i64 0]) ∧ w'.ownsRow W.heap.size 5 1 v 64 (u8s (same8 77)) ∧ Below W.heap.size W w') := fun W b2 h2 => by
    have := I.flat (h2.rowV (by simp)) (Nat.le_refl _) (by omega) (fun n hn => by rw [List.eq_of_mem_replicate hn]; omega)
    rw [known_b.2.2.1, known_b.2.2.2, same8_length] at this
    exact this
  have HZl := Lib.hid z0
  have HZ1 := Lib.hid z1
  have HZ2 := Lib.hid z2
  have HZ3 := Lib.hid z3
  have HZ4 := Lib.hid z4
  have HZ5 := Lib.hid z5
  have HGl := Lib.hid grey_length
  have HGg := Lib.hid (grey_get (j := 38015) (by omega))
  clear i0 i1 i7 i2 z0 z1 z2 z3 z4 z5
  generalize lyL 0 1 1 1 (greyL 0) (same8 7) = Z at *
  generalize greyL 0 = Y at *
  go_enter Try.func5, Try.ntmps5
  go_wp2_with fail
  refine (HG0.out _).mono ?_
  rintro e W1 ⟨G, cG, rest, rfl, hG, hcG, hp, hb⟩
  have B1 := Lib.hid hb
  have HP := Lib.hid hp
  have hs1 := hb.size
  have hGl := hp.lt
  have x1 := hp.cell (k := 38015) (by rw [HGl.out]; omega)
  rw [HGg.out] at x1
  simp only [List.length_nil, Nat.zero_add] at x1
  clear hb hp
  go_wp2_with fail
  refine (HG2.out _).mono ?_
  rintro e W2 ⟨ga, gc, rfl, hb⟩
  have B2 := Lib.hid (below_chain B1.out (Nat.le_refl _) hb)
  have HP := Lib.hid (HP.out.below hb hGl)
  have hs2 := hb.size
  clear hb x1
  go_wp2_with fail
  refine (HQ.out _).mono ?_
  rintro e W3 ⟨rfl, hb⟩
  have B3 := Lib.hid (below_chain B2.out (Nat.le_refl _) hb)
  have HP := Lib.hid (HP.out.below hb HP.out.lt)
  have hs3 := hb.size
  clear hb
  go_wp2_with fail
  refine (HS7.out _).mono ?_
  rintro e W4 ⟨rfl, hn, hb⟩
  have B4 := Lib.hid (below_chain B3.out (Nat.le_refl _) hb)
  have HP := Lib.hid (HP.out.below hb HP.out.lt)
  have HN := Lib.hid hn
  have hs4 := hb.size
  clear hb hn
  go_wp2_with fail
  refine (HL1.out _ _ _ _ _ HP.out hcG HN.out (by omega)).mono ?_
  rintro e W5 ⟨rfl, hp, hb⟩
  have B5 := Lib.hid (B4.out.trans (hb.below B4.out.size (fun k hk e => by omega)))
  have hs5 := hb.size
  have HP := Lib.hid hp
  clear hp hb HL1 HN
  go_wp2_with fail
  refine (HA2.out _).mono ?_
  rintro e W6 ⟨va, rfl, hb⟩
  have B6 := Lib.hid (below_chain B5.out (Nat.le_refl _) hb)
  have HP := Lib.hid (HP.out.below hb HP.out.lt)
  have hs6 := hb.size
  clear hb HA2
  go_wp2_with fail
  refine (HS3.out _).mono ?_
  rintro e W7 ⟨rfl, hn, hb⟩
  have B7 := Lib.hid (below_chain B6.out (Nat.le_refl _) hb)
  have HP := Lib.hid (HP.out.below hb HP.out.lt)
  have HN := Lib.hid hn
  have hs7 := hb.size
  clear hb hn
  go_wp2_with fail
  refine (HIb.out _).mono ?_
  rintro e W8 ⟨rfl, hm, hb⟩
  have B8 := Lib.hid (below_chain B7.out (Nat.le_refl _) hb)
  have HP := Lib.hid (HP.out.below hb HP.out.lt)
  have HN := Lib.hid (HN.out.below hb HN.out.lt)
  have HM := Lib.hid hm
  have hs8 := hb.size
  clear hb hm
  go_wp2_with fail
  refine (HA3.out _ _ _ HN.out HM.out).mono ?_
  rintro e W9 ⟨vb, rfl, hb⟩
  have B9 := Lib.hid (below_chain B8.out (Nat.le_refl _) hb)
  have HP := Lib.hid (HP.out.below hb HP.out.lt)
  have hs9 := hb.size
  clear hb HN HM HA3
  go_wp2_with fail
  refine (HI77.out _).mono ?_
  rintro e W10 ⟨rfl, hm, hb⟩
  have B10 := Lib.hid (below_chain B9.out (Nat.le_refl _) hb)
  have HP := Lib.hid (HP.out.below hb HP.out.lt)
  have HM := Lib.hid hm
  have hs10 := hb.size
  clear hb hm
  go_wp2_with fail
  refine (HF.out _ _ HM.out).mono ?_
  rintro e W11 ⟨vf, rfl, ho, hb⟩
  have B11 := Lib.hid (below_chain B10.out (Nat.le_refl _) hb)
  have HP := Lib.hid (HP.out.below hb HP.out.lt)
  have HO := Lib.hid ho
  have hs11 := hb.size
  clear hb ho HM
  have y1 := HP.out.cell (k := 0) (by rw [HZl.out]; omega)
  have y2 := HP.out.cell (k := 7) (by rw [HZl.out]; omega)
  have y3 := HP.out.cell (k := 8) (by rw [HZl.out]; omega)
  have y4 := HP.out.cell (k := 176) (by rw [HZl.out]; omega)
  have y5 := HP.out.cell (k := 175) (by rw [HZl.out]; omega)
  rw [HZ1.out] at y1
  rw [HZ2.out] at y2
  rw [HZ3.out] at y3
  rw [HZ4.out] at y4
  rw [HZ5.out] at y5
  simp only [List.length_nil, Nat.zero_add] at y1 y2 y3 y4 y5
  go_wp2_with fail
  obtain ⟨W12, hW12⟩ : ∃ W12, W11.alloc (.cells #[.int .u8 1, .int .u8 2, .int .u8 3] 5 (0, 0)) = W12 := ⟨_, rfl⟩
  have hb : Below W11.heap.size W11 W12 := by rw [← hW12]; exact (Below.refl _ W11).alloc (Nat.le_refl _) _
  have hT : PicW W12 W11.heap.size [] [1, 2, 3] [] := by rw [← hW12]; exact World.alloc_heap_new W11 _
  rw [hW12]
  have B12 := Lib.hid (below_chain B11.out (Nat.le_refl _) hb)
  have HP := Lib.hid (HP.out.below hb HP.out.lt)
  have HO := Lib.hid (ownsRow_belowN HO.out hb)
  have HT := Lib.hid hT
  have hs12 := hb.size
  have htG : W11.heap.size ≠ G := by omega
  have hwt : w.heap.size ≤ W11.heap.size := by omega
  have hG11 : G < W11.heap.size := by omega
  clear hb hT hW12 y1 y2 y3 y4 y5 hs1 hs2 hs3 hs4 hs5 hs6 hs7 hs8 hs9 hs10 hs11
  generalize W11.heap.size = tb at *
  refine (HAw.out _).mono ?_
  rintro e W13 ⟨rfl, hb⟩
  have B13 := Lib.hid (below_chain B12.out (Nat.le_refl _) hb)
  have HP := Lib.hid (HP.out.below hb HP.out.lt)
  have HO := Lib.hid (ownsRow_belowN HO.out hb)
  have HT := Lib.hid (HT.out.below hb HT.out.lt)
  clear hb hs12
  go_wp2_with fail
  refine (HS77.out _).mono ?_
  rintro e W14 ⟨rfl, hn, hb⟩
  have B14 := Lib.hid (below_chain B13.out (Nat.le_refl _) hb)
  have HP := Lib.hid (HP.out.below hb HP.out.lt)
  have HT := Lib.hid (HT.out.below hb HT.out.lt)
  have HSm := Lib.hid (same_any (byt_own (by rw [same8_length]; exact ownsRow_belowN HO.out hb) (by rw [same8_length]; omega) (Nat.le_refl _)) (hn.byt (same8_length 77) (by omega)))
  simp only [decide_true] at HSm
  clear hb hn HO
  go_wp2_with fail
  refine HSm.out.mono ?_
  rintro e w' ⟨rfl, rfl⟩
  clear HSm
  go_wp2_with fail
  refine (HQ.out _).mono ?_
  rintro e W15 ⟨rfl, hb⟩
  have B15 := Lib.hid (below_chain B14.out (Nat.le_refl _) hb)
  have HP := Lib.hid (HP.out.below hb HP.out.lt)
  have HT := Lib.hid (HT.out.below hb HT.out.lt)
  clear hb
  go_wp2_with fail
  refine (HS7.out _).mono ?_
  rintro e W16 ⟨rfl, hn, hb⟩
  have B16 := Lib.hid (below_chain B15.out (Nat.le_refl _) hb)
  have hlp := HP.out.lt
  have HP := Lib.hid (HP.out.below hb HP.out.lt)
  have HT := Lib.hid (HT.out.below hb HT.out.lt)
  have HN := Lib.hid hn
  clear hb hn
  go_wp2_with fail
  refine (HL7.out _ _ _ _ _ HP.out hcG HN.out (by omega)).mono ?_
  rintro e W17 ⟨rfl, hp, hb⟩
  have B17 := Lib.hid (B16.out.trans (hb.below B16.out.size (fun k hk e => by omega)))
  have HP := Lib.hid hp
  have HT := Lib.hid (HT.out.bar hb (by omega))
  clear hb hp HN hlp
  go_wp2_with fail
  refine (HQ.out _).mono ?_
  rintro e W18 ⟨rfl, hb⟩
  have B18 := Lib.hid (below_chain B17.out (Nat.le_refl _) hb)
  have HP := Lib.hid (HP.out.below hb HP.out.lt)
  have HT := Lib.hid (HT.out.below hb HT.out.lt)
  clear hb
  go_wp2_with fail
  refine (HS7.out _).mono ?_
  rintro e W19 ⟨rfl, hn, hb⟩
  have B19 := Lib.hid (below_chain B18.out (Nat.le_refl _) hb)
  have hlp := HT.out.lt
  have HP := Lib.hid (HP.out.below hb HP.out.lt)
  have HT := Lib.hid (HT.out.below hb HT.out.lt)
  have HN := Lib.hid hn
  clear hb hn
  go_wp2_with fail
  refine (HL3.out _ _ _ HT.out HN.out (by omega)).mono ?_
  rintro e W20 ⟨rfl, hp, hb⟩
  have B20 := Lib.hid (B19.out.trans (hb.below B19.out.size (fun k hk e => by omega)))
  have HP := Lib.hid (HP.out.bar hb (by omega))
  have HT := Lib.hid hp
  clear hb hp HN hlp
  go_wp2_with fail
  refine (HQ.out _).mono ?_
  rintro e W21 ⟨rfl, hb⟩
  have B21 := Lib.hid (below_chain B20.out (Nat.le_refl _) hb)
  have HP := Lib.hid (HP.out.below hb HP.out.lt)
  have HT := Lib.hid (HT.out.below hb HT.out.lt)
  clear hb
  go_wp2_with fail
  refine (HC.out _ _ _ _ _ HP.out hcG HT.out (by omega)).mono ?_
  rintro e W22 ⟨rfl, hb⟩
  have B22 := Lib.hid (B21.out.trans (hb.below B21.out.size (fun k hk e => by omega)))
  clear hb
  go_wp2
  go_ret
  exact ⟨rfl, B22.out⟩

end Go.Proofs.Ytenplmmongphoaa
