/- The walk of BlockFlat (praxinoscopelaw12). -/
import Derived.Test.YtbcfiafgolcbpaaGreatDoorYLaw4
namespace Go.Proofs.YtbcfiafgolcbpaaGreatDoor
open Go.RowKit Go.Shelf
set_option linter.unusedVariables false

set_option maxRecDepth 100000 in
set_option maxHeartbeats 4000000 in
theorem blockFlat_walk (I : BlockI) (w : World) (hT : Lay8 w) (code quant : Int) : Calls Tryz.prog 9 #[.int .i64 code, .int .i64 quant] w fun e w' => e = .returned (.bool true) ∧ Below w.heap.size w w' := by
  have HK := Lib.hid (known12_any I w hT)
  have HPc := Lib.hid (fun W => pick_any code 255 W (by omega) (by omega))
  have HPq := Lib.hid (fun W => pick_any quant 31 W (by omega) (by omega))
  obtain ⟨c, hc, c1, c2⟩ : ∃ c, code % 255 = c ∧ 0 ≤ c ∧ c < 255 := ⟨_, rfl, by omega, by omega⟩
  obtain ⟨q, hq, q1, q2⟩ : ∃ q, quant % 31 = q ∧ 0 ≤ q ∧ q < 31 := ⟨_, rfl, by omega, by omega⟩
  rw [hc] at HPc
  rw [hq] at HPq
  clear hc hq
  have HT := Lib.hid hT
  clear hT
  have HOk : Hid (okQU (1 + q) = true) := (okQU_iff _).2 (by omega)
  by_cases h128 : 1 + c = 128
  · have e1 : (1 + c == 128) = true := by simp; omega
    go_enter Tryz.func9, Tryz.ntmps9
    go_wp2_with fail
    refine HK.out.mono ?_
    rintro e w1 ⟨rfl, b1⟩
    have B1 := Lib.hid b1
    clear b1
    go_wp2_with fail
    refine (HPc.out _).mono ?_
    rintro e w2 ⟨rfl, rfl⟩
    go_wp2_with fail
    refine (HPq.out _).mono ?_
    rintro e w2 ⟨rfl, rfl⟩
    go_wp2_with fail
    refine (of12_nil w1 128).mono ?_
    rintro e w3 ⟨av, cv, rfl, hr, b3⟩
    have R := Lib.hid hr
    have B3 := Lib.hid (below_chain B1.out (Nat.le_refl _) b3)
    have T3 := Lib.hid (HT.out.below B3.out)
    clear hr b3
    go_wp2_with fail
    refine (check12_lit I R.out (Nat.le_refl _) (by omega) T3.out 128 true 10 (by decide +kernel)).mono ?_
    rintro e w4 ⟨rfl, b4⟩
    have B4 := Lib.hid (below_chain B3.out (Nat.le_refl _) b4)
    clear b4
    go_wp2_with fail
    go_ret
    exact ⟨rfl, B4.out⟩
  · have e1 : (1 + c == 128) = false := by simp; omega
    have hdc : dcOk (1 + c) = true := (dcOk_iff _).2 (by omega)
    have hfl := flatY hdc HOk.out
    generalize hX : residY (1 + c) [] (1 + q) true = X at hfl
    have HX := Lib.hid hX
    clear hX
    by_cases h255 : 1 + c = 255
    · have hf2 := flatY (c := 255) (by decide +kernel) HOk.out
      rw [if_pos rfl] at hf2
      have HF := Lib.hid hf2
      clear hf2 hfl HX hdc
      have e2 : (1 + c == 255) = true := by simp; omega
      go_enter Tryz.func9, Tryz.ntmps9
      go_wp2_with fail
      refine HK.out.mono ?_
      rintro e w1 ⟨rfl, b1⟩
      have B1 := Lib.hid b1
      clear b1
      go_wp2_with fail
      refine (HPc.out _).mono ?_
      rintro e w2 ⟨rfl, rfl⟩
      go_wp2_with fail
      refine (HPq.out _).mono ?_
      rintro e w2 ⟨rfl, rfl⟩
      go_wp2_with fail
      refine (of12_nil w1 255).mono ?_
      rintro e w3 ⟨av, cv, rfl, hr, b3⟩
      have R := Lib.hid hr
      have B3 := Lib.hid (below_chain B1.out (Nat.le_refl _) b3)
      have T3 := Lib.hid (HT.out.below B3.out)
      clear hr b3
      go_wp2_with fail
      refine (flat12_any I R.out (Nat.le_refl _) (by omega) T3.out 255 (1 + q) 128 HF.out).mono ?_
      rintro e w4 ⟨rfl, b4⟩
      have B4 := Lib.hid (below_chain B3.out (Nat.le_refl _) b4)
      clear b4
      go_wp2_with fail
      go_ret
      exact ⟨rfl, B4.out⟩
    · rw [if_neg h255] at hfl
      have HF := Lib.hid (HX.out.trans hfl)
      clear hfl HX hdc
      have e2 : (1 + c == 255) = false := by simp; omega
      go_enter Tryz.func9, Tryz.ntmps9
      go_wp2_with fail
      refine HK.out.mono ?_
      rintro e w1 ⟨rfl, b1⟩
      have B1 := Lib.hid b1
      clear b1
      go_wp2_with fail
      refine (HPc.out _).mono ?_
      rintro e w2 ⟨rfl, rfl⟩
      go_wp2_with fail
      refine (HPq.out _).mono ?_
      rintro e w2 ⟨rfl, rfl⟩
      go_wp2_with fail
      refine (of12_nil w1 (1 + c)).mono ?_
      rintro e w3 ⟨av, cv, rfl, hr, b3⟩
      have R := Lib.hid hr
      have B3 := Lib.hid (below_chain B1.out (Nat.le_refl _) b3)
      have T3 := Lib.hid (HT.out.below B3.out)
      clear hr b3
      go_wp2_with fail
      refine (flat12_any I R.out (Nat.le_refl _) (by omega) T3.out (1 + c) (1 + q) (1 + c) HF.out).mono ?_
      rintro e w4 ⟨rfl, b4⟩
      have B4 := Lib.hid (below_chain B3.out (Nat.le_refl _) b4)
      clear b4
      go_wp2_with fail
      go_ret
      exact ⟨rfl, B4.out⟩

end Go.Proofs.YtbcfiafgolcbpaaGreatDoor
