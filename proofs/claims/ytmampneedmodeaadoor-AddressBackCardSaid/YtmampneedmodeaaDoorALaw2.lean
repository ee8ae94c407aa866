/- The walks of AddressGets, AddressPuts, AddressKnown. -/
import Derived.Test.YtmampneedmodeaaDoorALaw
namespace Go.Proofs.YtmampneedmodeaaDoor
open Go.RowKit Go.Shelf
set_option linter.unusedVariables false

set_option maxRecDepth 100000 in
set_option maxHeartbeats 2000000 in
theorem addressPuts_walk (d a : Int) (w : World) (hT : Tab2 w) :
    Calls Tryd.prog 4 #[.int .i64 d, .int .i64 a] w fun e w' => e = .returned (.bool true) ∧ Below w.heap.size w w' := by
  have HT := Lib.hid (fun w' (hb : Below w.heap.size w w') => hT.below hb)
  have HP := Lib.hid (aput_any d w hT)
  have HR := Lib.hid (fun w' => r4put_any d w')
  have HN := Lib.hid (fun w' => anext_any a d w')
  have HM := Lib.hid (fun w' => r4next_any a d w')
  have HW := Lib.hid (fun w' => arow_any a w')
  have HX := Lib.hid (fun w' => r4row_any a w')
  clear hT
  generalize putS4 d = s at *
  generalize putE4 d = e at *
  generalize nextN a d = n at *
  generalize nextE a d = f at *
  generalize rowR a = r at *
  generalize rowC a = c at *
  generalize rowE a = g at *
  go_enter Tryd.func4, Tryd.ntmps4
  go_wp2_with fail
  refine HP.out.mono ?_
  rintro e1 w1 ⟨rfl, b1⟩
  go_wp2_with fail
  refine (HR.out w1).mono ?_
  rintro e2 w2 ⟨rfl, b2⟩
  have B2 := below_chain b1 (Nat.le_refl _) b2
  have HB := Lib.hid B2
  have HA := Lib.hid (awake4_any w2 (HT.out w2 B2))
  clear b1 b2 B2
  go_wp2_with (first
    | (go_at_call 16; refine (HN.out _).mono ?_; rintro e w' ⟨rfl, rfl⟩)
    | (go_at_call 17; refine (HM.out _).mono ?_; rintro e w' ⟨rfl, rfl⟩)
    | (go_at_call 18; refine (HW.out _).mono ?_; rintro e w' ⟨rfl, rfl⟩)
    | (go_at_call 19; refine (HX.out _).mono ?_; rintro e w' ⟨rfl, rfl⟩)
    | (go_at_call 9; refine HA.out.mono ?_; rintro e w' ⟨rfl, b3⟩))
  go_ret
  exact ⟨rfl, below_chain HB.out (Nat.le_refl _) b3⟩

set_option maxRecDepth 100000 in
set_option maxHeartbeats 2000000 in
theorem addressGets_walk {a : Option Addr} {len cap : Nat} {zs : List UInt8} {w : World} (hR : Row8 w.heap.size w a len cap zs) (x : Int) (hx : x ≤ 9223372036854775807) (hT : Tab2 w) :
    Calls Tryd.prog 3 #[.slice a len cap, .int .i64 x] w fun e w' => e = .returned (.bool true) ∧ Below w.heap.size w w' := by
  have HT := Lib.hid (fun w' (hb : Below w.heap.size w w') => awake4_any w' (hT.below hb))
  clear hT
  by_cases h : 100 < len
  · clear hR
    have HA := Lib.hid (HT.out w (Below.refl _ _))
    go_enter Tryd.func3, Tryd.ntmps3
    go_wp2_with (go_at_call 9; refine HA.out.mono ?_; rintro e w' ⟨rfl, b3⟩)
    go_ret
    exact ⟨rfl, b3⟩
  · have hl := hR.1
    subst hl
    have HSrc : Hid (Src w a zs.length (u8s zs)) := by
      have h := hR.src (n := zs.length) (Nat.le_refl _)
      rw [List.take_length] at h
      exact h
    have HB : Hid (∀ w', Below w.heap.size w w' → Byt w.heap.size w' (.slice a zs.length cap) zs) := fun w' hb => by
      have h := hR.byt (Nat.le_refl _) (k := zs.length) (Nat.le_refl _) (by omega)
      rw [List.take_length] at h
      exact h.below hb
    have HNc := Lib.hid hR.nocap
    clear hR
    go_enter Tryd.func3, Tryd.ntmps3
    go_wp2_with fail
    refine (lent_any HSrc.out HNc.out (by omega)).mono ?_
    rintro e w1 ⟨vi, rfl, hLe, b1⟩
    have HLe := Lib.hid hLe
    have HB1 := Lib.hid b1
    have HG := Lib.hid (aget_any (hLe.byt (by omega)) (Nat.le_refl _) x hx)
    have hs1 := b1.size
    clear hLe b1
    generalize hg1 : gN zs x = g1 at *
    generalize hg2 : gM zs x = g2 at *
    generalize hg3 : gE zs x = g3 at *
    have HQ : Hid (gN zs x = g1 ∧ gM zs x = g2 ∧ gE zs x = g3) := ⟨hg1, hg2, hg3⟩
    clear hg1 hg2 hg3
    go_wp2_with fail
    refine HG.out.mono ?_
    rintro e w2 ⟨rfl, b2⟩
    have HB2 := Lib.hid (below_chain HB1.out (Nat.le_refl _) b2)
    have HLe2 := Lib.hid (HLe.out.bar (bar_of_below (S := fun _ => False) b2) (fun _ _ e => e))
    clear b2
    have HG2 := Lib.hid (r4get_any (HB.out w2 HB2.out) HB2.out.size (by omega) x hx)
    rw [HQ.out.1, HQ.out.2.1, HQ.out.2.2] at HG2
    go_wp2_with fail
    refine HG2.out.mono ?_
    rintro e w3 ⟨rfl, b3⟩
    have HB3 := Lib.hid (below_chain HB2.out (Nat.le_refl _) b3)
    have HLe3 := Lib.hid (HLe2.out.bar (bar_of_below (S := fun _ => False) b3) (fun _ _ e => e))
    clear b3
    go_wp2_with fail
    refine (kept_any HLe3.out (HB.out w3 HB3.out) (by omega)).mono ?_
    rintro e w4 ⟨rfl, b4⟩
    have HB4 := Lib.hid (below_chain HB3.out (Nat.le_refl _) b4)
    have HA := Lib.hid (HT.out w4 HB4.out)
    clear b4
    go_wp2_with (go_at_call 9; refine HA.out.mono ?_; rintro e w' ⟨rfl, b5⟩)
    go_ret
    exact ⟨rfl, below_chain HB4.out (Nat.le_refl _) b5⟩

theorem anext_lit (a d n e : Int) (hn : nextN a d = n) (he : nextE a d = e) (w : World) :
    Calls Tryd.prog 16 #[.int .i64 a, .int .i64 d] w fun r w' => r = .returned (.tuple #[.int .i64 n, .int .i64 e]) ∧ w = w' := by
  have h := anext_any a d w
  rw [hn, he] at h
  exact h
theorem arow_lit (a r c e : Int) (hr : rowR a = r) (hc : rowC a = c) (he : rowE a = e) (w : World) :
    Calls Tryd.prog 18 #[.int .i64 a] w fun r' w' => r' = .returned (.tuple #[.int .i64 r, .int .i64 c, .int .i64 e]) ∧ w = w' := by
  have h := arow_any a w
  rw [hr, hc, he] at h
  exact h
theorem aput_lit (d : Int) (s : ByteArray) (e : Int) (hs : putS4 d = s) (he : putE4 d = e) (w : World) (hT : Tab2 w) :
    Calls Tryd.prog 14 #[.int .i64 d] w fun r w' => r = .returned (.tuple #[.string s, .int .i64 e]) ∧ Below w.heap.size w w' := by
  have h := aput_any d w hT
  rw [hs, he] at h
  exact h

set_option maxRecDepth 100000 in
set_option maxHeartbeats 8000000 in
theorem known4_any (w : World) (hT : Tab2 w) : Calls Tryd.prog 5 #[] w fun e w' => e = .returned (.bool true) ∧ Below w.heap.size w w' := by
  have HT := Lib.hid (fun w' (hb : Below w.heap.size w w') => hT.below hb)
  have HT0 := Lib.hid hT
  clear hT
  go_enter Tryd.func5, Tryd.ntmps5
  go_wp2_with fail
  refine (aput_lit 34 ⟨#[]⟩ 3 (by decide +kernel) (by decide +kernel) w HT0.out).mono ?_
  rintro e w1 ⟨rfl, b1⟩
  go_wp2_with fail
  refine (aput_lit (-1) ⟨#[]⟩ 3 (by decide +kernel) (by decide +kernel) w1 (HT.out _ b1)).mono ?_
  rintro e w2 ⟨rfl, b2⟩
  have B2 := Lib.hid (below_chain b1 (Nat.le_refl _) b2)
  clear b1 b2
  go_wp2_with fail
  refine (gets4_lit w2 [128] _ 1 1 (by rfl) rfl 0 1 1 0 (by omega) (by omega) (by decide +kernel) _).mono ?_
  rintro e w3 ⟨rfl, b3⟩
  go_wp2_with fail
  refine (gets4_lit w3 [4] _ 1 1 (by rfl) rfl 0 0 0 5 (by omega) (by omega) (by decide +kernel) _).mono ?_
  rintro e w4 ⟨rfl, b4⟩
  go_wp2_with fail
  refine (gets4_lit w4 [1, 224] _ 2 2 (by rfl) rfl 0 0 11 0 (by omega) (by omega) (by decide +kernel) _).mono ?_
  rintro e w5 ⟨rfl, b5⟩
  go_wp2_with fail
  refine (gets4_lit w5 [0] _ 1 1 (by rfl) rfl 0 0 0 5 (by omega) (by omega) (by decide +kernel) _).mono ?_
  rintro e w6 ⟨rfl, b6⟩
  go_wp2_with fail
  refine (gets4_lit w6 [0, 4] _ 2 2 (by rfl) rfl 0 0 0 7 (by omega) (by omega) (by decide +kernel) _).mono ?_
  rintro e w7 ⟨rfl, b7⟩
  have B7 := Lib.hid (below_chain (below_chain (below_chain (below_chain (below_chain B2.out (Nat.le_refl _) b3) (Nat.le_refl _) b4) (Nat.le_refl _) b5) (Nat.le_refl _) b6) (Nat.le_refl _) b7)
  clear b3 b4 b5 b6 b7
  go_wp2_with fail
  refine (puts4_true 1 _ (by decide +kernel) (by decide +kernel) w7 (HT.out _ B7.out)).mono ?_
  rintro e w8 ⟨rfl, b8⟩
  have B8 := Lib.hid (below_chain B7.out (Nat.le_refl _) b8)
  clear b8
  go_wp2_with fail
  refine (puts4_true 0 _ (by decide +kernel) (by decide +kernel) w8 (HT.out _ B8.out)).mono ?_
  rintro e w9 ⟨rfl, b9⟩
  have B9 := Lib.hid (below_chain B8.out (Nat.le_refl _) b9)
  clear b9
  go_wp2_with fail
  refine (anext_lit 0 1 1 0 (by decide) (by decide) w9).mono ?_
  rintro e w' ⟨rfl, rfl⟩
  go_wp2_with fail
  refine (anext_lit 30 3 33 0 (by decide) (by decide) w9).mono ?_
  rintro e w' ⟨rfl, rfl⟩
  go_wp2_with fail
  refine (anext_lit 30 4 0 13 (by decide) (by decide) w9).mono ?_
  rintro e w' ⟨rfl, rfl⟩
  go_wp2_with fail
  refine (anext_lit 3 0 0 3 (by decide) (by decide) w9).mono ?_
  rintro e w' ⟨rfl, rfl⟩
  go_wp2_with fail
  refine (arow_lit 12 1 0 0 (by decide) (by decide) (by decide) w9).mono ?_
  rintro e w' ⟨rfl, rfl⟩
  go_wp2_with fail
  refine (arow_lit 33 2 10 0 (by decide) (by decide) (by decide) w9).mono ?_
  rintro e w' ⟨rfl, rfl⟩
  go_wp2_with fail
  refine (arow_lit 0 0 0 3 (by decide) (by decide) (by decide) w9).mono ?_
  rintro e w' ⟨rfl, rfl⟩
  go_wp2_with fail
  refine (arow_lit 1 0 0 0 (by decide) (by decide) (by decide) w9).mono ?_
  rintro e w' ⟨rfl, rfl⟩
  go_wp2_with (go_at_call 9; refine (awake4_any w9 (HT.out _ B9.out)).mono ?_; rintro e w' ⟨rfl, b10⟩)
  go_ret
  exact ⟨rfl, below_chain B9.out (Nat.le_refl _) b10⟩

end Go.Proofs.YtmampneedmodeaaDoor
