/- The walk of BlockKnown (praxinoscopelaw12). -/
import Derived.Test.YtbcfiafgolcbpaaGreatDoorYLaw
import Derived.Test.YtbcfiafgolcbpaaGreatDoorELaw
namespace Go.Proofs.YtbcfiafgolcbpaaGreatDoor
open Go.RowKit Go.Shelf
set_option linter.unusedVariables false

theorem resid12_err (I : BlockI) {n₀ : Nat} {w : World} {av : Option Addr} {len cap : Nat} {ps : List (Int × Int)} (hR : RowP n₀ w av len cap ps) (hn : n₀ ≤ w.heap.size) (hlen : len ≤ 1000000) (hT : Lay8 w) (dc q : Int) (intra : Bool) (err : Int) (h : (residY dc ps q intra).1 = err) :
    Calls Tryz.prog 26 #[blkV dc (.slice av len cap), .int .i64 q, .bool intra] w fun e w' => ∃ v, e = .returned (.tuple #[v, .int .i64 err]) ∧ Below w.heap.size w w' := by
  have := I.resid hR hn hlen hT dc q intra
  rw [h] at this
  exact this.mono (fun e w' hh => by obtain ⟨v, h1, _, h3⟩ := hh; exact ⟨v, h1, h3⟩)
theorem levels12_at (I : BlockI) {n₀ : Nat} {w : World} {av : Option Addr} {len cap : Nat} {ps : List (Int × Int)} (hR : RowP n₀ w av len cap ps) (hn : n₀ ≤ w.heap.size) (hlen : len ≤ 1000000) (hT : Lay8 w) (dc : Int) (intra : Bool) (h : (levelsY dc ps intra).1 = 0) (h2 : (levelsY dc ps intra).2.length = 64) :
    Calls Tryz.prog 20 #[blkV dc (.slice av len cap), .bool intra] w fun e w' => ∃ g c, e = .returned (.tuple #[.slice (some ⟨g, 0, none⟩) 64 c, .int .i64 0]) ∧ g < w'.heap.size ∧ (∀ k, k < 64 → w'.cell? ⟨g, k, none⟩ = some (.int .i64 ((levelsY dc ps intra).2[k]?.getD 0))) ∧ Below w.heap.size w w' := by
  have := I.levels hR hn hlen hT dc intra
  rw [h] at this
  refine Calls.mono this ?_
  rintro e w' ⟨v, rfl, ⟨t, ho⟩, hb⟩
  rw [h2] at ho
  obtain ⟨g, c, rfl, h1, h3, h4⟩ := own_cellsC ho (by omega)
  exact ⟨g, c, rfl, h3, h4, hb⟩

set_option maxRecDepth 100000 in
set_option maxHeartbeats 8000000 in
theorem known12_any (I : BlockI) (w : World) (hT : Lay8 w) : Calls Tryz.prog 6 #[] w fun e w' => e = .returned (.bool true) ∧ Below w.heap.size w w' := by
  have B0 := Lib.hid (Below.refl w.heap.size w)
  have T0 := Lib.hid hT
  replace hT := Lib.hid hT
  go_enter Tryz.func6, Tryz.ntmps6
  go_wp2_with fail
  refine (of12_lit w 0 [0, 1, 0, 1] _ 4 [(0, 1), (0, 1)] 2 rfl rfl (by omega) (by decide +kernel) (by decide)).mono ?_
  rintro e w1 ⟨av, cv, rfl, hr, b⟩
  have R := Lib.hid hr
  clear hr
  have B1 := Lib.hid (below_chain B0.out (Nat.le_refl _) b)
  have T1 := Lib.hid (hT.out.below B1.out)
  clear b
  go_wp2_with fail
  refine (puts12_any I R.out (Nat.le_refl _) (by omega) T1.out 0 false ⟨#[49, 48, 49, 49, 48, 49, 48]⟩ 0 (by decide +kernel) (by decide +kernel)).mono ?_
  rintro e w2 ⟨rfl, b⟩
  have B2 := Lib.hid (below_chain B1.out (Nat.le_refl _) b)
  have T2 := Lib.hid (hT.out.below B2.out)
  clear b
  go_wp2_with fail
  refine (of12_nil w2 0).mono ?_
  rintro e w3 ⟨av, cv, rfl, hr, b⟩
  have R := Lib.hid hr
  clear hr
  have B3 := Lib.hid (below_chain B2.out (Nat.le_refl _) b)
  have T3 := Lib.hid (hT.out.below B3.out)
  clear b
  go_wp2_with fail
  refine (puts12_any I R.out (Nat.le_refl _) (by omega) T3.out 0 false ⟨#[]⟩ 2 (by decide +kernel) (by decide +kernel)).mono ?_
  rintro e w4 ⟨rfl, b⟩
  have B4 := Lib.hid (below_chain B3.out (Nat.le_refl _) b)
  have T4 := Lib.hid (hT.out.below B4.out)
  clear b
  go_wp2_with fail
  refine (of12_nil w4 128).mono ?_
  rintro e w5 ⟨av, cv, rfl, hr, b⟩
  have R := Lib.hid hr
  clear hr
  have B5 := Lib.hid (below_chain B4.out (Nat.le_refl _) b)
  have T5 := Lib.hid (hT.out.below B5.out)
  clear b
  go_wp2_with fail
  refine (puts12_any I R.out (Nat.le_refl _) (by omega) T5.out 128 true ⟨#[]⟩ 10 (by decide +kernel) (by decide +kernel)).mono ?_
  rintro e w6 ⟨rfl, b⟩
  have B6 := Lib.hid (below_chain B5.out (Nat.le_refl _) b)
  have T6 := Lib.hid (hT.out.below B6.out)
  clear b
  go_wp2_with fail
  refine (of12_nil w6 5).mono ?_
  rintro e w7 ⟨av, cv, rfl, hr, b⟩
  have R := Lib.hid hr
  clear hr
  have B7 := Lib.hid (below_chain B6.out (Nat.le_refl _) b)
  have T7 := Lib.hid (hT.out.below B7.out)
  clear b
  go_wp2_with fail
  refine (gets12_lit I w7 T7.out [5, 128] _ 2 rfl rfl (by omega) true R.out (by omega) 5 10 0 (by kernel_rfl) _).mono ?_
  rintro e w8 ⟨rfl, b⟩
  have B8 := Lib.hid (below_chain B7.out (Nat.le_refl _) b)
  have T8 := Lib.hid (hT.out.below B8.out)
  clear b
  go_wp2_with fail
  refine (of12_nil w8 0).mono ?_
  rintro e w9 ⟨av, cv, rfl, hr, b⟩
  have R := Lib.hid hr
  clear hr
  have B9 := Lib.hid (below_chain B8.out (Nat.le_refl _) b)
  have T9 := Lib.hid (hT.out.below B9.out)
  clear b
  go_wp2_with fail
  refine (gets12_lit I w9 T9.out [128, 0] _ 2 rfl rfl (by omega) true R.out (by omega) 0 0 10 (by kernel_rfl) _).mono ?_
  rintro e w10 ⟨rfl, b⟩
  have B10 := Lib.hid (below_chain B9.out (Nat.le_refl _) b)
  have T10 := Lib.hid (hT.out.below B10.out)
  clear b
  go_wp2_with fail
  refine (of12_nil w10 0).mono ?_
  rintro e w11 ⟨av, cv, rfl, hr, b⟩
  have R := Lib.hid hr
  clear hr
  have B11 := Lib.hid (below_chain B10.out (Nat.le_refl _) b)
  have T11 := Lib.hid (hT.out.below B11.out)
  clear b
  go_wp2_with fail
  refine (gets12_lit I w11 T11.out [5] _ 1 rfl rfl (by omega) true R.out (by omega) 0 0 5 (by kernel_rfl) _).mono ?_
  rintro e w12 ⟨rfl, b⟩
  have B12 := Lib.hid (below_chain B11.out (Nat.le_refl _) b)
  have T12 := Lib.hid (hT.out.below B12.out)
  clear b
  go_wp2_with fail
  refine (of12_lit w12 1 [62, 1] _ 2 [(62, 1)] 1 rfl rfl (by omega) (by decide +kernel) (by decide)).mono ?_
  rintro e w13 ⟨av, cv, rfl, hr, b⟩
  have R := Lib.hid hr
  clear hr
  have B13 := Lib.hid (below_chain B12.out (Nat.le_refl _) b)
  have T13 := Lib.hid (hT.out.below B13.out)
  clear b
  go_wp2_with fail
  refine (check12_lit I R.out (Nat.le_refl _) (by omega) T13.out 1 true 0 (by decide +kernel)).mono ?_
  rintro e w14 ⟨rfl, b⟩
  have B14 := Lib.hid (below_chain B13.out (Nat.le_refl _) b)
  have T14 := Lib.hid (hT.out.below B14.out)
  clear b
  go_wp2_with fail
  refine (of12_lit w14 0 [63, 1] _ 2 [(63, 1)] 1 rfl rfl (by omega) (by decide +kernel) (by decide)).mono ?_
  rintro e w15 ⟨av, cv, rfl, hr, b⟩
  have R := Lib.hid hr
  clear hr
  have B15 := Lib.hid (below_chain B14.out (Nat.le_refl _) b)
  have T15 := Lib.hid (hT.out.below B15.out)
  clear b
  go_wp2_with fail
  refine (check12_lit I R.out (Nat.le_refl _) (by omega) T15.out 0 false 0 (by decide +kernel)).mono ?_
  rintro e w16 ⟨rfl, b⟩
  have B16 := Lib.hid (below_chain B15.out (Nat.le_refl _) b)
  have T16 := Lib.hid (hT.out.below B16.out)
  clear b
  go_wp2_with fail
  refine (of12_lit w16 0 [63, 1, 0, 1] _ 4 [(63, 1), (0, 1)] 2 rfl rfl (by omega) (by decide +kernel) (by decide)).mono ?_
  rintro e w17 ⟨av, cv, rfl, hr, b⟩
  have R := Lib.hid hr
  clear hr
  have B17 := Lib.hid (below_chain B16.out (Nat.le_refl _) b)
  have T17 := Lib.hid (hT.out.below B17.out)
  clear b
  go_wp2_with fail
  refine (check12_lit I R.out (Nat.le_refl _) (by omega) T17.out 0 false 11 (by decide +kernel)).mono ?_
  rintro e w18 ⟨rfl, b⟩
  have B18 := Lib.hid (below_chain B17.out (Nat.le_refl _) b)
  have T18 := Lib.hid (hT.out.below B18.out)
  clear b
  go_wp2_with fail
  refine (of12_nil w18 5).mono ?_
  rintro e w19 ⟨av, cv, rfl, hr, b⟩
  have R := Lib.hid hr
  clear hr
  have B19 := Lib.hid (below_chain B18.out (Nat.le_refl _) b)
  have T19 := Lib.hid (hT.out.below B19.out)
  clear b
  go_wp2_with fail
  refine (resid12_err I R.out (Nat.le_refl _) (by omega) T19.out 5 0 true 3 (by decide +kernel)).mono ?_
  rintro e w20 ⟨v3, rfl, b⟩
  have B20 := Lib.hid (below_chain B19.out (Nat.le_refl _) b)
  have T20 := Lib.hid (hT.out.below B20.out)
  clear b
  go_wp2_with fail
  refine (of12_lit w20 0 [1, -2] _ 2 [(1, -2)] 1 rfl rfl (by omega) (by decide +kernel) (by decide)).mono ?_
  rintro e w21 ⟨av, cv, rfl, hr, b⟩
  have R := Lib.hid hr
  clear hr
  have B21 := Lib.hid (below_chain B20.out (Nat.le_refl _) b)
  have T21 := Lib.hid (hT.out.below B21.out)
  clear b
  go_wp2_with fail
  refine (levels12_at I R.out (Nat.le_refl _) (by omega) T21.out 0 false (by decide +kernel) (by decide +kernel)).mono ?_
  rintro e w22 ⟨g, c, rfl, hg, hcl, b⟩
  have HCl := Lib.hid hcl
  clear hcl
  have B22 := Lib.hid (below_chain B21.out (Nat.le_refl _) b)
  have T22 := Lib.hid (hT.out.below B22.out)
  clear b
  have c0 : w22.cell? ⟨g, 0, none⟩ = some (.int .i64 0) := HCl.out 0 (by omega)
  have c1 : w22.cell? ⟨g, 1, none⟩ = some (.int .i64 (-2)) := HCl.out 1 (by omega)
  have c2 : w22.cell? ⟨g, 2, none⟩ = some (.int .i64 0) := HCl.out 2 (by omega)
  clear HCl
  go_wp2_with fail
  refine (awake12_any I w22 T22.out).mono ?_
  rintro e w23 ⟨rfl, b⟩
  clear c0 c1 c2
  have B23 := Lib.hid (below_chain B22.out (Nat.le_refl _) b)
  have T23 := Lib.hid (hT.out.below B23.out)
  clear b
  go_wp2_with fail
  refine (of12_nil w23 255).mono ?_
  rintro e w24 ⟨av, cv, rfl, hr, b⟩
  have R := Lib.hid hr
  clear hr
  have B24 := Lib.hid (below_chain B23.out (Nat.le_refl _) b)
  have T24 := Lib.hid (hT.out.below B24.out)
  clear b
  go_wp2_with fail
  refine (flat12_any I R.out (Nat.le_refl _) (by omega) T24.out 255 1 128 (flatY (by decide +kernel) (by decide +kernel))).mono ?_
  rintro e w25 ⟨rfl, b⟩
  have B25 := Lib.hid (below_chain B24.out (Nat.le_refl _) b)
  have T25 := Lib.hid (hT.out.below B25.out)
  clear b
  go_wp2_with fail
  go_ret
  exact ⟨rfl, B25.out⟩

end Go.Proofs.YtbcfiafgolcbpaaGreatDoor
