/- The walks of FrameTells and FramePlaces (praxinoscopelaw13). -/
import Derived.Test.YtidllgcdbohocaaGLaw
namespace Go.Proofs.Ytidllgcdbohocaa
open Go.RowKit Go.Shelf Go.Sort
set_option linter.unusedVariables false

theorem CellsAt.bar {S : Nat → Prop} {w w' : World} {v : Value} {vs : List Value} (h : CellsAt w v vs) (hb : Bar S w w') (hS : ∀ k, v.ownBlock = some k → ¬ S k) : CellsAt w' v vs := by
  obtain ⟨a, cap, rfl, h⟩ := h
  refine ⟨a, cap, rfl, ?_⟩
  rcases h with h | ⟨b, off, rfl, h⟩
  · exact .inl h
  · refine .inr ⟨b, off, rfl, fun j u hj => ?_⟩
    have hc := h j u hj
    exact (World.cell?_of_block (hb.block b (World.block_lt_of_cell? w _ hc) (hS b rfl))).trans hc

set_option maxRecDepth 100000 in
set_option maxHeartbeats 4000000 in
theorem places13_any (f g a b : Int) (w : World) (hg : -9223372036854775808 ≤ g ∧ g ≤ 9223372036854775807) (ha : -9223372036854775808 ≤ a ∧ a ≤ 9223372036854775807) :
    Calls Try.prog 4 #[.int .i64 f, .int .i64 g, .int .i64 a, .int .i64 b] w fun e w' => e = .returned (.bool true) ∧ Below w.heap.size w w' := by
  have HC := Lib.hid (fun W => corner13_ans f g a W)
  have HRC := Lib.hid (fun W => rcorner13_any f g a W hg ha)
  have HP := Lib.hid (fun W => place13_ans f g a b W)
  have HRP := Lib.hid (fun W => rplace13_any f g a b W hg ha)
  clear hg ha
  generalize cX f g a = x at *
  generalize cY f g a = y at *
  generalize cE f g a = z at *
  generalize pA f g a b = p at *
  generalize pW f g a b = q at *
  generalize pE f g a b = s at *
  have B0 := Lib.hid (Below.refl w.heap.size w)
  go_enter Try.func4, Try.ntmps4
  go_wp2_with fail
  refine (HC.out _).mono ?_
  rintro e w1 ⟨rfl, hb⟩
  have B1 := Lib.hid (below_chain B0.out (Nat.le_refl _) hb)
  clear hb
  go_wp2_with fail
  refine (HRC.out _).mono ?_
  rintro e w2 ⟨rfl, hb⟩
  have B2 := Lib.hid (below_chain B1.out (Nat.le_refl _) hb)
  clear hb
  go_wp2_with fail
  refine (HP.out _).mono ?_
  rintro e w3 ⟨rfl, hb⟩
  have B3 := Lib.hid (below_chain B2.out (Nat.le_refl _) hb)
  clear hb
  go_wp2_with fail
  refine (HRP.out _).mono ?_
  rintro e w4 ⟨rfl, hb⟩
  have B4 := Lib.hid (below_chain B3.out (Nat.le_refl _) hb)
  clear hb
  go_wp2_with fail
  refine (awake13_any _).mono ?_
  rintro e w5 ⟨rfl, hb⟩
  have B5 := Lib.hid (below_chain B4.out (Nat.le_refl _) hb)
  clear hb
  go_wp2
  go_ret
  exact ⟨rfl, B5.out⟩

set_option maxRecDepth 100000 in
set_option maxHeartbeats 4000000 in
theorem tells13_any (f g : Int) (w : World) :
    Calls Try.prog 3 #[.int .i64 f, .int .i64 g] w fun e w' => e = .returned (.bool true) ∧ Below w.heap.size w w' := by
  have HS := Lib.hid (fun W => size13_ans f W)
  have HRS := Lib.hid (fun W => rsize13_any f W)
  have HG := Lib.hid (fun W => groups13_ans f W)
  have HRG := Lib.hid (fun W => rgroups13_any f W)
  have HN := Lib.hid (fun W => next13_ans f g W)
  have HRN := Lib.hid (fun W => rnext13_any f g W)
  have hlen := gL_short f
  generalize sW f = sw at *
  generalize sH f = sh at *
  generalize sN f = sn at *
  generalize sE f = se at *
  generalize nX f g = nx at *
  generalize nE f g = ne at *
  generalize gL f = xs at *
  have B0 := Lib.hid (Below.refl w.heap.size w)
  go_enter Try.func3, Try.ntmps3
  go_wp2_with (first | (go_at_call 8; refine (HS.out _).mono ?_; rintro e w' ⟨rfl, rfl⟩) | (go_at_call 9; refine (HRS.out _).mono ?_; rintro e w' ⟨rfl, rfl⟩))
  refine (HG.out _).mono ?_
  rintro e w1 ⟨v1, rfl, ho1, hb⟩
  have B1 := Lib.hid (below_chain B0.out (Nat.le_refl _) hb)
  have O1 := Lib.hid ho1
  have LT1 := Lib.hid ho1.lt
  have hz1 := hb.size
  clear hb ho1
  go_wp2_with fail
  refine (HRG.out _).mono ?_
  rintro e w2 ⟨v2, rfl, hc2, hl2, hb2⟩
  have B2 := Lib.hid (below_chain B1.out (Nat.le_refl _) hb2)
  have O1 := Lib.hid (ownsRow_bar O1.out (bar_of_below (S := fun _ => False) hb2) (fun _ _ e => e))
  have C2 := Lib.hid hc2
  have L2 := Lib.hid hl2
  clear hb2 hc2 hl2
  go_wp2_with fail
  refine (HN.out _).mono ?_
  rintro e w3 ⟨rfl, hb⟩
  have B3 := Lib.hid (below_chain B2.out (Nat.le_refl _) hb)
  have O1 := Lib.hid (ownsRow_bar O1.out (bar_of_below (S := fun _ => False) hb) (fun _ _ e => e))
  have C2 := Lib.hid (C2.out.below hb)
  clear hb
  go_wp2_with fail
  refine (HRN.out _).mono ?_
  rintro e w4 ⟨rfl, hb⟩
  have B4 := Lib.hid (below_chain B3.out (Nat.le_refl _) hb)
  have O1 := Lib.hid (ownsRow_bar O1.out (bar_of_below (S := fun _ => False) hb) (fun _ _ e => e))
  have C2 := Lib.hid (C2.out.below hb)
  clear hb
  go_wp2_with fail
  refine (sameInts_any (cellsAt_own O1.out) C2.out (by omega) (by omega)).mono ?_
  rintro e w5 ⟨rfl, hb⟩
  rw [show decide (xs = xs) = true by simp]
  have B5 := Lib.hid (below_chain B4.out (Nat.le_refl _) hb)
  have O1 := Lib.hid (ownsRow_bar O1.out (bar_of_below (S := fun _ => False) hb) (fun _ _ e => e))
  have C2 := Lib.hid (C2.out.below hb)
  clear hb
  go_wp2_with fail
  refine (overInts_any O1.out (by omega)).mono ?_
  rintro e w6 ⟨rfl, hb⟩
  have B6 := Lib.hid (B5.out.trans (hb.below B5.out.size (fun k hk e => by have := (LT1.out k e).1; omega)))
  have C2 := Lib.hid (C2.out.bar hb (fun k e e2 => by have := (LT1.out k e2).2; have := L2.out k e; omega))
  clear hb O1
  go_wp2_with fail
  refine (HG.out _).mono ?_
  rintro e w7 ⟨v3, rfl, ho3, hb⟩
  have B7 := Lib.hid (below_chain B6.out (Nat.le_refl _) hb)
  have O3 := Lib.hid ho3
  have C2 := Lib.hid (C2.out.below hb)
  clear hb ho3
  go_wp2_with fail
  refine (sameInts_any (cellsAt_own O3.out) C2.out (by omega) (by omega)).mono ?_
  rintro e w8 ⟨rfl, hb⟩
  rw [show decide (xs = xs) = true by simp]
  have B8 := Lib.hid (below_chain B7.out (Nat.le_refl _) hb)
  clear hb
  go_wp2_with fail
  refine (awake13_any _).mono ?_
  rintro e w9 ⟨rfl, hb⟩
  have B9 := Lib.hid (below_chain B8.out (Nat.le_refl _) hb)
  clear hb
  go_wp2
  go_ret
  exact ⟨rfl, B9.out⟩

end Go.Proofs.Ytidllgcdbohocaa
