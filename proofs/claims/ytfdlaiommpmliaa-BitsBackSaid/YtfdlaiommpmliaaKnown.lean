/- The contract of the law BitsKnown: it returns true, and nothing that lay is changed. -/
import Derived.Test.YtfdlaiommpmliaaBytes
namespace Go.Proofs.Ytfdlaiommpmliaa
open Go.RowKit Go.Shelf
set_option linter.unusedVariables false

theorem Wrote.below {w w' : World} {b B : Nat} {g : Option Nat} {L : List Bool} (h : Wrote w w' b g L) (hB : B ≤ w.heap.size) (hb : B ≤ b) (hg : ∀ k, g = some k → B ≤ k) : Below B w w' := by
  obtain ⟨_, _, hbar, _⟩ := h
  exact hbar.below hB fun k hk e => by rcases e with rfl | e
                                       · omega
                                       · have := hg k e; omega
theorem IsPen.later {w w' : World} {b : Nat} {g : Option Nat} {L : List Bool} (h : IsPen w b g L) (hb : Below w.heap.size w w') : IsPen w' b g L :=
  h.bar (bar_of_below (S := fun _ => False) hb) (fun e => e) (fun _ _ e => e)

theorem bits0011 : AllBits ⟨#[48, 48, 49, 49]⟩ := by
  intro i h
  have h4 : i < 4 := h
  match i, h4 with
  | 0, _ => exact .inl rfl
  | 1, _ => exact .inl rfl
  | 2, _ => exact .inr rfl
  | 3, _ => exact .inr rfl
theorem bits2 : ¬ AllBits ⟨#[50]⟩ := fun h => by
  have := h 0 (by decide)
  revert this
  decide
theorem packed166 : Packed [166] ([] ++ numBits 5 3 ++ textBits ⟨#[48, 48, 49, 49]⟩) := by
  have e : ([] ++ numBits 5 3 ++ textBits ⟨#[48, 48, 49, 49]⟩ : List Bool) = [true, false, true, false, false, true, true] := by decide
  rw [e]
  exact ⟨rfl, by decide⟩

set_option maxRecDepth 100000 in
set_option maxHeartbeats 4000000 in
theorem known_any (w : World) : Calls Try.prog 5 #[] w fun e w' => e = .returned (.bool true) ∧ Below w.heap.size w w' := by
  go_enter Try.func5, Try.ntmps5
  go_wp2_with fail
  refine (count_any _ _ _ _ (by omega)).mono ?_
  rintro e w' ⟨rfl, rfl⟩
  obtain ⟨w1, h1⟩ : ∃ w1, w.alloc (Obj.cells #[Value.int IntKind.u8 165, Value.int IntKind.u8 3] 5) = w1 := ⟨_, rfl⟩
  have b1 : Below w.heap.size w w1 := by rw [← h1]; exact (Below.refl _ _).alloc (Nat.le_refl _) _
  rw [h1]
  clear h1
  go_wp2_with fail
  refine (reads_lit w1 [165] _ 1 1 (by rfl) rfl 8 0 0 0 (by omega) (by omega) (by decide) _).mono ?_
  rintro e w2 ⟨rfl, b2⟩
  replace b2 := below_chain b1 (Nat.le_refl _) b2
  clear b1
  go_wp2_with fail
  refine (reads_lit w2 [165] _ 1 1 (by rfl) rfl 8 1 0 5 (by omega) (by omega) (by decide) _).mono ?_
  rintro e w3 ⟨rfl, b3⟩
  replace b3 := below_chain b2 (Nat.le_refl _) b3
  clear b2
  go_wp2_with fail
  refine (reads_lit w3 [165] _ 1 1 (by rfl) rfl 0 33 0 3 (by omega) (by omega) (by decide) _).mono ?_
  rintro e w4 ⟨rfl, b4⟩
  replace b4 := below_chain b3 (Nat.le_refl _) b4
  clear b3
  go_wp2_with fail
  refine (finds_lit w4 [0, 1] _ 2 2 (by rfl) rfl 0 0 0 (by omega) (by omega) (by decide +kernel) _).mono ?_
  rintro e w5 ⟨rfl, b5⟩
  replace b5 := below_chain b4 (Nat.le_refl _) b5
  clear b4
  go_wp2_with fail
  refine (finds_lit w5 [0, 0] _ 2 2 (by rfl) rfl 0 0 5 (by omega) (by omega) (by decide +kernel) _).mono ?_
  rintro e w6 ⟨rfl, b6⟩
  replace b6 := below_chain b5 (Nat.le_refl _) b6
  clear b5
  go_wp2_with fail
  refine (finds_lit w6 [0, 1, 64] _ 3 3 (by rfl) rfl 1 0 5 (by omega) (by omega) (by decide +kernel) _).mono ?_
  rintro e w7 ⟨rfl, b7⟩
  replace b7 := below_chain b6 (Nat.le_refl _) b7
  clear b6
  go_wp2_with fail
  refine (finds_lit w7 [0, 0, 1] _ 3 3 (by rfl) rfl 0 8 0 (by omega) (by omega) (by decide +kernel) _).mono ?_
  rintro e w8 ⟨rfl, b8⟩
  replace b8 := below_chain b7 (Nat.le_refl _) b8
  clear b7
  go_wp2_with fail
  refine (starts_lit w8 [0, 0, 1, 80] _ 4 4 (by rfl) rfl 0 5 28 0 (by omega) (by omega) (by decide +kernel) _).mono ?_
  rintro e w9 ⟨rfl, b9⟩
  replace b9 := below_chain b8 (Nat.le_refl _) b9
  clear b8
  go_wp2_with fail
  refine (starts_lit w9 [0, 1] _ 2 2 (by rfl) rfl 0 0 0 5 (by omega) (by omega) (by decide +kernel) _).mono ?_
  rintro e w10 ⟨rfl, b10⟩
  replace b10 := below_chain b9 (Nat.le_refl _) b10
  clear b9
  go_wp2_with fail
  refine (starts_lit w10 [0, 2, 0] _ 3 3 (by rfl) rfl 0 0 0 7 (by omega) (by omega) (by decide +kernel) _).mono ?_
  rintro e w11 ⟨rfl, b11⟩
  replace b11 := below_chain b10 (Nat.le_refl _) b11
  clear b10
  go_wp2_with fail
  refine (starts_lit w11 [0, 0] _ 2 2 (by rfl) rfl 0 0 0 5 (by omega) (by omega) (by decide +kernel) _).mono ?_
  rintro e w12 ⟨rfl, b12⟩
  replace b12 := below_chain b11 (Nat.le_refl _) b12
  clear b11
  go_wp2_with fail
  refine (newPen_any w12).mono ?_
  rintro e w13 ⟨rfl, hp, b13⟩
  have hs := b12.size
  generalize hb : w12.heap.size = b at *
  replace b13 : Below w.heap.size w w13 := b12.trans (b13.mono hs)
  clear b12 hb w12
  have HP := Lib.hid hp
  clear hp
  go_wp2_with fail
  refine (put_ok HP.out 5 3 (by omega) (by decide) (by omega) (by simp)).mono ?_
  rintro e w14 ⟨rfl, hw⟩
  have b14 := b13.trans (hw.below b13.size hs (fun k e => by cases e))
  obtain ⟨g, hp, _, hg⟩ := hw
  replace hg : ∀ k, g = some k → w.heap.size ≤ k := fun k e => by rcases hg k e with h | h
                                                                  · cases h
                                                                  · have := b13.size; omega
  have HG := Lib.hid hg
  have HP1 := Lib.hid hp
  clear HP hp hg b13
  go_wp2_with fail
  refine (code_ok HP1.out ⟨#[48, 48, 49, 49]⟩ bits0011 (by decide)).mono ?_
  rintro e w15 ⟨rfl, hw⟩
  have b15 := b14.trans (hw.below b14.size hs HG.out)
  obtain ⟨g', hp, _, hg⟩ := hw
  replace hg : ∀ k, g' = some k → w.heap.size ≤ k := fun k e => by rcases hg k e with h | h
                                                                   · exact HG.out k h
                                                                   · have := b14.size; omega
  have HG' := Lib.hid hg
  have HP2 := Lib.hid hp
  clear HP1 HG hp hg b14
  have e7 : ([] ++ numBits 5 3 ++ textBits ⟨#[48, 48, 49, 49]⟩).length = 7 := by decide
  have HK := Lib.hid packed166
  generalize [] ++ numBits 5 3 ++ textBits ⟨#[48, 48, 49, 49]⟩ = L at *
  have E7 := Lib.hid e7
  clear e7
  go_wp2_with fail
  refine (len_any HP2.out).mono ?_
  rintro e w16 ⟨rfl, rfl⟩
  rw [E7.out]
  go_wp2_with fail
  refine (bytes_any HP2.out).mono ?_
  rintro e w17 ⟨zs, hpk, v, rfl, hv, b17⟩
  obtain rfl := hpk.unique HK.out
  have hp17 := HP2.out.later b17
  replace b17 := below_chain b15 (Nat.le_refl _) b17
  have hby := byt_own hv (by simp) (n₀ := w17.heap.size) (Nat.le_refl _)
  have HV := Lib.hid (hby.below ((Below.refl _ w17).alloc (Nat.le_refl _) (.cells #[Value.int IntKind.u8 166] 5)))
  have HP3 := Lib.hid hp17
  clear hv hby hpk hp17 b15 HP2 HK
  go_wp2_with fail
  refine (same_any (HV.out) (byt_new w17 [166] _ 1 (by rfl) (by simp) (w17.heap.size + 1) (by omega) _)).mono ?_
  rintro e w18 ⟨rfl, rfl⟩
  have hp18 := HP3.out.later ((Below.refl _ w17).alloc (Nat.le_refl _) (.cells #[Value.int IntKind.u8 166] 5))
  have b18 := b17.alloc b17.size (.cells #[Value.int IntKind.u8 166] 5)
  have HP4 := Lib.hid hp18
  clear hp18 b17 HP3 HV
  generalize w17.alloc (.cells #[Value.int IntKind.u8 166] 5) = w18 at *
  have et : decide (([166] : List UInt8) = [166]) = true := by decide
  rw [et]
  go_wp2_with fail
  refine (awake_any w18).mono ?_
  rintro e w19 ⟨rfl, b19⟩
  have HP5 := Lib.hid (HP4.out.later b19)
  replace b19 := below_chain b18 (Nat.le_refl _) b19
  clear b18 HP4
  go_wp2_with fail
  refine (put_big HP5.out 8 3 (by omega) (by omega) (by decide) (by omega)).mono ?_
  rintro e w20 ⟨rfl, rfl⟩
  go_wp2_with fail
  refine (code_form HP5.out ⟨#[50]⟩ bits2).mono ?_
  rintro e w21 ⟨rfl, b21⟩
  have HP6 := Lib.hid (HP5.out.later b21)
  replace b21 := below_chain b19 (Nat.le_refl _) b21
  clear b19 HP5
  go_wp2_with fail
  refine (len_any HP6.out).mono ?_
  rintro e w22 ⟨rfl, rfl⟩
  rw [E7.out]
  go_wp2
  go_ret
  exact ⟨rfl, b21⟩

end Go.Proofs.Ytfdlaiommpmliaa
