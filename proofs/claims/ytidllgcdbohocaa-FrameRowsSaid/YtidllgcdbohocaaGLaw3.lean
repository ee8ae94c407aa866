/- The walk of FrameRows (praxinoscopelaw13). -/
import Derived.Test.YtidllgcdbohocaaGLaw2
namespace Go.Proofs.Ytidllgcdbohocaa
open Go.RowKit Go.Shelf Go.Sort
set_option linter.unusedVariables false

/-- group p of a format, and where its macroblocks stand -/
theorem rows_at {F : Int} (hF : F = 0 ∨ F = 1) {p : Nat} {G : Int} (hp : p < (gL F).length) (hG : (gL F)[p]?.getD 0 = G) :
    ∃ u v : Nat, u ≤ 1 ∧ v ≤ 5 ∧ ∀ i : Nat, i < 33 → cX F G (1 + (i : Int)) = 176 * (u : Int) + 16 * ((i : Int) % 11) ∧ cY F G (1 + (i : Int)) = 48 * (v : Int) + 16 * ((i : Int) / 11) ∧ cE F G (1 + (i : Int)) = 0 := by
  have hg : isF F = true ∧ isG F G = true ∧ 1 ≤ G ∧ G ≤ 12 := by
    subst hG
    rcases hF with rfl | rfl
    · exact (by decide +kernel : ∀ p : Fin 3, isF 0 = true ∧ isG 0 ((gL 0)[p.val]?.getD 0) = true ∧ 1 ≤ (gL 0)[p.val]?.getD 0 ∧ (gL 0)[p.val]?.getD 0 ≤ 12) ⟨p, hp⟩
    · exact (by decide +kernel : ∀ p : Fin 12, isF 1 = true ∧ isG 1 ((gL 1)[p.val]?.getD 0) = true ∧ 1 ≤ (gL 1)[p.val]?.getD 0 ∧ (gL 1)[p.val]?.getD 0 ≤ 12) ⟨p, hp⟩
  obtain ⟨h1, h2, h3, h4⟩ := hg
  refine ⟨((G - 1) % 2).toNat, ((G - 1) / 2).toNat, by omega, by omega, fun i hi => ?_⟩
  have e0 : cE F G (1 + (i : Int)) = 0 := by unfold cE; rw [if_pos h1, if_pos h2, if_pos (by omega)]
  refine ⟨?_, ?_, e0⟩
  · unfold cX; rw [if_pos e0]; omega
  · unfold cY; rw [if_pos e0]; omega
theorem pA_at {F G a b : Int} (hc : cE F G a = 0) (hb : 1 ≤ b ∧ b ≤ 6) : pE F G a b = 0 ∧ pA F G a b = atP (sW F) (sH F) (cX F G a) (cY F G a) b ∧ pW F G a b = if b ≤ 4 then sW F else sW F / 2 := by
  have e0 : pE F G a b = 0 := by unfold pE; rw [if_pos hc, if_pos hb]
  refine ⟨e0, ?_, ?_⟩
  · unfold pA; rw [if_pos e0]
  · unfold pW; rw [if_pos e0]

set_option maxRecDepth 100000 in
set_option maxHeartbeats 1000000 in
theorem rows13_any (a0 a1 a2 : Int) (w : World) :
    Calls Try.prog 7 #[.int .i64 a0, .int .i64 a1, .int .i64 a2] w fun e w' => e = .returned (.bool true) ∧ Below w.heap.size w w' := by
  obtain ⟨F, hFe⟩ : ∃ F, F = a0 % 2 := ⟨_, rfl⟩
  have hF : F = 0 ∨ F = 1 := by omega
  obtain ⟨i, hie⟩ : ∃ i : Nat, (i : Int) = a2 % 33 := ⟨(a2 % 33).toNat, by omega⟩
  have hi : i < 33 := by omega
  obtain ⟨m, hm⟩ : ∃ m, m = (gL F).length := ⟨_, rfl⟩
  have hm0 : 0 < m ∧ m ≤ 12 := by rcases hF with h | h <;> rw [h] at hm <;> subst hm <;> decide
  obtain ⟨p, hpe⟩ : ∃ p : Nat, (p : Int) = a1 % (m : Int) := ⟨(a1 % (m : Int)).toNat, by have := Int.emod_nonneg a1 (show (m : Int) ≠ 0 by omega); omega⟩
  have hp : p < m := by have := Int.emod_lt_of_pos a1 (show (0 : Int) < (m : Int) by omega); omega
  obtain ⟨G, hG⟩ : ∃ G, (gL F)[p]?.getD 0 = G := ⟨_, rfl⟩
  obtain ⟨u, v, hu, hv, hat⟩ := rows_at hF (by omega) hG
  have HP0 : Hid (∀ W, Calls Try.prog 26 #[.int .i64 a0, .int .i64 2] W fun e w' => e = .returned (.int .i64 F) ∧ W = w') := fun W => by rw [hFe]; exact pick_any _ _ W (by omega) (by omega)
  have HP1 : Hid (∀ W, Calls Try.prog 26 #[.int .i64 a1, .int .i64 (m : Int)] W fun e w' => e = .returned (.int .i64 (p : Int)) ∧ W = w') := fun W => by rw [hpe]; exact pick_any _ _ W (by omega) (by omega)
  have HP2 : Hid (∀ W, Calls Try.prog 26 #[.int .i64 a2, .int .i64 33] W fun e w' => e = .returned (.int .i64 (i : Int)) ∧ W = w') := fun W => by rw [hie]; exact pick_any _ _ W (by omega) (by omega)
  have HG : Hid (∀ W, Calls Try.prog 10 #[.int .i64 F] W fun e W' => ∃ b off cap, e = .returned (.tuple #[.slice (some ⟨b, off, none⟩) m cap, .int .i64 0]) ∧ W'.cell? ⟨b, off + p, none⟩ = some (.int .i64 G) ∧ Below W.heap.size W W') := fun W => (groups13_ans F W).mono fun e W' ⟨v, he, ho, hb⟩ => by
    obtain ⟨a, cap, rfl, hc⟩ := cellsAt_own ho
    rcases hc with hc | ⟨b, off, rfl, hc⟩
    · have : (gL F).length = 0 := by have := congrArg List.length hc; simpa using this
      omega
    · have hse : sE F = 0 := by rcases hF with h | h <;> rw [h] <;> rfl
      refine ⟨b, off, cap, by rw [he, hse, hm]; simp, ?_, hb⟩
      have := hc p _ (intV_get (by omega))
      rw [hG] at this
      exact this
  have HC1 : Hid (∀ W, Calls Try.prog 17 #[.int .i64 F, .int .i64 G, .int .i64 1] W fun e W' => e = .returned (.tuple #[.int .i64 (176 * (u : Int)), .int .i64 (48 * (v : Int)), .int .i64 0]) ∧ Below W.heap.size W W') := fun W => by
    obtain ⟨e1, e2, e3⟩ := hat 0 (by omega)
    have := corner13_ans F G 1 W
    simp at e1 e2 e3
    rw [e1, e2, e3] at this
    exact this
  obtain ⟨c1, c2, c3⟩ := hat i hi
  have HPl := Lib.hid (fun b (hb : 1 ≤ b ∧ b ≤ 6) => pA_at (F := F) (G := G) (a := 1 + (i : Int)) (b := b) c3 hb)
  have C1 := Lib.hid c1
  have C2 := Lib.hid c2
  have C3 := Lib.hid c3
  have HK := Lib.hid (fun W => known13_any W)
  have HS := Lib.hid (fun W => size13_ans F W)
  clear c1 c2 c3 hat hFe hie hpe hG hm
  have B0 := Lib.hid (Below.refl w.heap.size w)
  have hm1 : ((m : Int) == 0) = false := by rw [beq_eq_false_iff_ne]; omega
  rcases hF with rfl | rfl
  · replace HS : Hid (∀ W, Calls Try.prog 8 #[.int .i64 0] W fun e W' => e = .returned (.tuple #[.int .i64 176, .int .i64 144, .int .i64 38016, .int .i64 0]) ∧ W = W') := HS
    have PL : Hid (∀ b : Int, 1 ≤ b ∧ b ≤ 4 → pA 0 G (1 + (i : Int)) b = (48 * (v : Int) + 16 * ((i : Int) / 11) + 8 * ((b - 1) / 2)) * 176 + (176 * (u : Int) + 16 * ((i : Int) % 11)) + 8 * ((b - 1) % 2) ∧ pW 0 G (1 + (i : Int)) b = 176 ∧ pE 0 G (1 + (i : Int)) b = 0) := fun b hb => by
      obtain ⟨e1, e2, e3⟩ := HPl.out b (by omega)
      rw [if_pos (by omega)] at e3
      refine ⟨?_, e3, e1⟩
      rw [e2, C1.out, C2.out]
      unfold atP
      rw [if_pos (by omega)]
      rfl
    have PC : Hid (∀ b : Int, 5 ≤ b ∧ b ≤ 6 → pA 0 G (1 + (i : Int)) b = 176 * 144 + (b - 5) * (176 * 144 / 4) + (48 * (v : Int) + 16 * ((i : Int) / 11)) / 2 * (176 / 2) + (176 * (u : Int) + 16 * ((i : Int) % 11)) / 2 ∧ pW 0 G (1 + (i : Int)) b = 176 / 2 ∧ pE 0 G (1 + (i : Int)) b = 0) := fun b hb => by
      obtain ⟨e1, e2, e3⟩ := HPl.out b (by omega)
      rw [if_neg (by omega)] at e3
      refine ⟨?_, e3, e1⟩
      rw [e2, C1.out, C2.out]
      unfold atP
      rw [if_neg (by omega)]
      rfl
    go_enter Try.func7, Try.ntmps7
    go_wp2_with fail
    refine (HK.out _).mono ?_
    rintro e w1 ⟨rfl, hb⟩
    have B1 := Lib.hid (below_chain B0.out (Nat.le_refl _) hb)
    clear hb
    go_wp2_with fail
    refine (HP0.out _).mono ?_
    rintro e w' ⟨rfl, rfl⟩
    go_wp2_with fail
    refine (HP2.out _).mono ?_
    rintro e w' ⟨rfl, rfl⟩
    go_wp2_with fail
    refine (HG.out _).mono ?_
    rintro e w2 ⟨b, off, cap, rfl, cG, hb⟩
    have B2 := Lib.hid (below_chain B1.out (Nat.le_refl _) hb)
    clear hb
    have hp1 : (p : Int) < (m : Int) := by omega
    go_wp2_with fail
    refine (HP1.out _).mono ?_
    rintro e w' ⟨rfl, rfl⟩
    go_wp2_with fail
    refine (HC1.out _).mono ?_
    rintro e w3 ⟨rfl, hb⟩
    have B3 := Lib.hid (below_chain B2.out (Nat.le_refl _) hb)
    clear hb cG hm1 hp1
    go_wp2_with (go_at_call 8; refine (HS.out _).mono ?_; rintro e w' ⟨rfl, rfl⟩)
    refine (corner13_true (by rw [C1.out]; omega) (by rw [C2.out]; omega) C3.out _).mono ?_
    rintro e w4 ⟨rfl, hb⟩
    have B4 := Lib.hid (below_chain B3.out (Nat.le_refl _) hb)
    clear hb
    go_wp2_with fail
    refine (place13_true (by rw [(PL.out 1 (by omega)).1]; omega) (by rw [(PL.out 1 (by omega)).2.1]; try omega) (PL.out 1 (by omega)).2.2 _).mono ?_
    rintro e w5 ⟨rfl, hb⟩
    have B5 := Lib.hid (below_chain B4.out (Nat.le_refl _) hb)
    clear hb
    go_wp2_with fail
    refine (place13_true (by rw [(PL.out 2 (by omega)).1]; omega) (by rw [(PL.out 2 (by omega)).2.1]; try omega) (PL.out 2 (by omega)).2.2 _).mono ?_
    rintro e w6 ⟨rfl, hb⟩
    have B6 := Lib.hid (below_chain B5.out (Nat.le_refl _) hb)
    clear hb
    go_wp2_with fail
    refine (place13_true (by rw [(PL.out 3 (by omega)).1]; omega) (by rw [(PL.out 3 (by omega)).2.1]; try omega) (PL.out 3 (by omega)).2.2 _).mono ?_
    rintro e w7 ⟨rfl, hb⟩
    have B7 := Lib.hid (below_chain B6.out (Nat.le_refl _) hb)
    clear hb
    go_wp2_with fail
    refine (place13_true (by rw [(PL.out 4 (by omega)).1]; omega) (by rw [(PL.out 4 (by omega)).2.1]; try omega) (PL.out 4 (by omega)).2.2 _).mono ?_
    rintro e w8 ⟨rfl, hb⟩
    have B8 := Lib.hid (below_chain B7.out (Nat.le_refl _) hb)
    clear hb
    go_wp2_with fail
    refine (place13_true (by rw [(PC.out 5 (by omega)).1]; omega) (by rw [(PC.out 5 (by omega)).2.1]; try omega) (PC.out 5 (by omega)).2.2 _).mono ?_
    rintro e w9 ⟨rfl, hb⟩
    have B9 := Lib.hid (below_chain B8.out (Nat.le_refl _) hb)
    clear hb
    go_wp2_with fail
    refine (place13_true (by rw [(PC.out 6 (by omega)).1]; omega) (by rw [(PC.out 6 (by omega)).2.1]; try omega) (PC.out 6 (by omega)).2.2 _).mono ?_
    rintro e w10 ⟨rfl, hb⟩
    have B10 := Lib.hid (below_chain B9.out (Nat.le_refl _) hb)
    clear hb
    go_wp2
    go_ret
    exact ⟨rfl, B10.out⟩
  · replace HS : Hid (∀ W, Calls Try.prog 8 #[.int .i64 1] W fun e W' => e = .returned (.tuple #[.int .i64 352, .int .i64 288, .int .i64 152064, .int .i64 0]) ∧ W = W') := HS
    have PL : Hid (∀ b : Int, 1 ≤ b ∧ b ≤ 4 → pA 1 G (1 + (i : Int)) b = (48 * (v : Int) + 16 * ((i : Int) / 11) + 8 * ((b - 1) / 2)) * 352 + (176 * (u : Int) + 16 * ((i : Int) % 11)) + 8 * ((b - 1) % 2) ∧ pW 1 G (1 + (i : Int)) b = 352 ∧ pE 1 G (1 + (i : Int)) b = 0) := fun b hb => by
      obtain ⟨e1, e2, e3⟩ := HPl.out b (by omega)
      rw [if_pos (by omega)] at e3
      refine ⟨?_, e3, e1⟩
      rw [e2, C1.out, C2.out]
      unfold atP
      rw [if_pos (by omega)]
      rfl
    have PC : Hid (∀ b : Int, 5 ≤ b ∧ b ≤ 6 → pA 1 G (1 + (i : Int)) b = 352 * 288 + (b - 5) * (352 * 288 / 4) + (48 * (v : Int) + 16 * ((i : Int) / 11)) / 2 * (352 / 2) + (176 * (u : Int) + 16 * ((i : Int) % 11)) / 2 ∧ pW 1 G (1 + (i : Int)) b = 352 / 2 ∧ pE 1 G (1 + (i : Int)) b = 0) := fun b hb => by
      obtain ⟨e1, e2, e3⟩ := HPl.out b (by omega)
      rw [if_neg (by omega)] at e3
      refine ⟨?_, e3, e1⟩
      rw [e2, C1.out, C2.out]
      unfold atP
      rw [if_neg (by omega)]
      rfl
    go_enter Try.func7, Try.ntmps7
    go_wp2_with fail
    refine (HK.out _).mono ?_
    rintro e w1 ⟨rfl, hb⟩
    have B1 := Lib.hid (below_chain B0.out (Nat.le_refl _) hb)
    clear hb
    go_wp2_with fail
    refine (HP0.out _).mono ?_
    rintro e w' ⟨rfl, rfl⟩
    go_wp2_with fail
    refine (HP2.out _).mono ?_
    rintro e w' ⟨rfl, rfl⟩
    go_wp2_with fail
    refine (HG.out _).mono ?_
    rintro e w2 ⟨b, off, cap, rfl, cG, hb⟩
    have B2 := Lib.hid (below_chain B1.out (Nat.le_refl _) hb)
    clear hb
    have hp1 : (p : Int) < (m : Int) := by omega
    go_wp2_with fail
    refine (HP1.out _).mono ?_
    rintro e w' ⟨rfl, rfl⟩
    go_wp2_with fail
    refine (HC1.out _).mono ?_
    rintro e w3 ⟨rfl, hb⟩
    have B3 := Lib.hid (below_chain B2.out (Nat.le_refl _) hb)
    clear hb cG hm1 hp1
    go_wp2_with (go_at_call 8; refine (HS.out _).mono ?_; rintro e w' ⟨rfl, rfl⟩)
    refine (corner13_true (by rw [C1.out]; omega) (by rw [C2.out]; omega) C3.out _).mono ?_
    rintro e w4 ⟨rfl, hb⟩
    have B4 := Lib.hid (below_chain B3.out (Nat.le_refl _) hb)
    clear hb
    go_wp2_with fail
    refine (place13_true (by rw [(PL.out 1 (by omega)).1]; omega) (by rw [(PL.out 1 (by omega)).2.1]; try omega) (PL.out 1 (by omega)).2.2 _).mono ?_
    rintro e w5 ⟨rfl, hb⟩
    have B5 := Lib.hid (below_chain B4.out (Nat.le_refl _) hb)
    clear hb
    go_wp2_with fail
    refine (place13_true (by rw [(PL.out 2 (by omega)).1]; omega) (by rw [(PL.out 2 (by omega)).2.1]; try omega) (PL.out 2 (by omega)).2.2 _).mono ?_
    rintro e w6 ⟨rfl, hb⟩
    have B6 := Lib.hid (below_chain B5.out (Nat.le_refl _) hb)
    clear hb
    go_wp2_with fail
    refine (place13_true (by rw [(PL.out 3 (by omega)).1]; omega) (by rw [(PL.out 3 (by omega)).2.1]; try omega) (PL.out 3 (by omega)).2.2 _).mono ?_
    rintro e w7 ⟨rfl, hb⟩
    have B7 := Lib.hid (below_chain B6.out (Nat.le_refl _) hb)
    clear hb
    go_wp2_with fail
    refine (place13_true (by rw [(PL.out 4 (by omega)).1]; omega) (by rw [(PL.out 4 (by omega)).2.1]; try omega) (PL.out 4 (by omega)).2.2 _).mono ?_
    rintro e w8 ⟨rfl, hb⟩
    have B8 := Lib.hid (below_chain B7.out (Nat.le_refl _) hb)
    clear hb
    go_wp2_with fail
    refine (place13_true (by rw [(PC.out 5 (by omega)).1]; omega) (by rw [(PC.out 5 (by omega)).2.1]; try omega) (PC.out 5 (by omega)).2.2 _).mono ?_
    rintro e w9 ⟨rfl, hb⟩
    have B9 := Lib.hid (below_chain B8.out (Nat.le_refl _) hb)
    clear hb
    go_wp2_with fail
    refine (place13_true (by rw [(PC.out 6 (by omega)).1]; omega) (by rw [(PC.out 6 (by omega)).2.1]; try omega) (PC.out 6 (by omega)).2.2 _).mono ?_
    rintro e w10 ⟨rfl, hb⟩
    have B10 := Lib.hid (below_chain B9.out (Nat.le_refl _) hb)
    clear hb
    go_wp2
    go_ret
    exact ⟨rfl, B10.out⟩

end Go.Proofs.Ytidllgcdbohocaa
