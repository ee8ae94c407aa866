/- The contract of the law's alike: a queue and the reference's queue that hold the same are told to be alike. -/
import Derived.Test.YtglnmaekhpaffaaKit
namespace Go.Proofs.Ytglnmaekhpaffaa
open Go.RowKit Go.Shelf
set_option linter.unusedVariables false

/-- what holds in every world of alike's long test -/
abbrev AlikeS (w2 w' : World) (b2 : Nat) (v : Value) (r : Nat) (o : Bool) : Prop :=
  Below w2.heap.size w2 w' ∧ w'.cell? ⟨b2, 1, none⟩ = some v ∧ w'.cell? ⟨b2, 2, none⟩ = some (.int .i64 r) ∧ w'.cell? ⟨b2, 3, none⟩ = some (.bool o)
theorem alike_keep {w2 wx wy : World} {b2 r : Nat} {v : Value} {o : Bool} (hlt : b2 < w2.heap.size) (h : AlikeS w2 wx b2 v r o) (hb : Below wx.heap.size wx wy) : AlikeS w2 wy b2 v r o := by
  have hs := h.1.size
  obtain ⟨h0, h1, h2, h3⟩ := h
  exact ⟨below_chain h0 (Nat.le_refl _) hb, (hb.cell (p := ⟨b2, 1, none⟩) (by simp only; omega)).trans h1, (hb.cell (p := ⟨b2, 2, none⟩) (by simp only; omega)).trans h2, (hb.cell (p := ⟨b2, 3, none⟩) (by simp only; omega)).trans h3⟩

set_option maxRecDepth 100000 in
set_option maxHeartbeats 8000000 in
theorem alike_any {n₀ : Nat} {w : World} {b g b2 : Nat} {v : Value} {q : Qs} (hq : IsQueue w b g q) (hw : IsW n₀ w b2 v q) :
    Calls Try.prog 33 #[.pointer (some ⟨b, 0, none⟩), .pointer (some ⟨b2, 0, none⟩)] w fun e w' => e = .returned (.bool true) ∧ Below w.heap.size w w' := by
  have HQ := Lib.hid hq
  have HW := Lib.hid hw
  have hlen := hq.1.len
  have hlen2 : (q.all.drop (q.gone / 8)).length ≤ 1099511627776 := by simp; omega
  clear hq hw
  go_enter Try.func33, Try.ntmps33
  go_wp2_with fail
  refine (qbits_any HQ.out).mono ?_
  rintro e w1 ⟨va, rfl, hra, b1⟩
  have HRa := Lib.hid hra
  clear hra
  go_wp2_with fail
  refine (wbits_any (HW.out.later b1)).mono ?_
  rintro e w2 ⟨vb, rfl, hrb, b2'⟩
  have B2 := below_chain b1 (Nat.le_refl _) b2'
  have HQ2 := HQ.out.later B2
  have HW2 := HW.out.later B2
  have hlt := HW2.lt
  obtain ⟨c0, c1, c2, c3⟩ := w_cells HW2.2.2.1
  obtain ⟨av, cv, rfl⟩ := row_form HW2.2.2.2
  have HRa2 := Lib.hid (ownsRow_bar HRa.out (bar_of_below (S := fun _ => False) b2') (fun _ _ e => e))
  have HBa := byt_own (n₀ := w2.heap.size) HRa2.out (by omega) (Nat.le_refl _)
  have HBb := byt_own (n₀ := w2.heap.size) hrb (by omega) (Nat.le_refl _)
  have AS := fun w' => AlikeS w2 w' b2 (.slice av q.all.length cv) q.gone q.ended
  have LT : ∀ {w' : World}, Below w2.heap.size w2 w' → IsQueue w' b g q ∧ IsW n₀ w' b2 (.slice av q.all.length cv) q := fun h => ⟨HQ2.later h, HW2.later h⟩
  have HS : Hid (∀ w', AlikeS w2 w' b2 (.slice av q.all.length cv) q.gone q.ended → Calls Try.prog 18 #[va, vb] w' fun e w'' => e = .returned (.bool true) ∧ w' = w'') := fun w' h =>
    (same_any (HBa.below h.1) (HBb.below h.1)).mono (by rintro e w'' ⟨rfl, rfl⟩; exact ⟨by simp, rfl⟩)
  have HL : Hid (∀ w', AlikeS w2 w' b2 (.slice av q.all.length cv) q.gone q.ended → Calls Try.prog 35 #[.pointer (some ⟨b, 0, none⟩)] w' fun e w'' => e = .returned (.int .i64 ((8 * q.all.length - q.gone : Nat) : Int)) ∧ Below w'.heap.size w' w'') := fun w' h => qleft_any (LT h.1).1
  have HL2 : Hid (∀ w', AlikeS w2 w' b2 (.slice av q.all.length cv) q.gone q.ended → Calls Try.prog 59 #[.pointer (some ⟨b2, 0, none⟩)] w' fun e w'' => e = .returned (.int .i64 ((8 * q.all.length - q.gone : Nat) : Int)) ∧ Below w'.heap.size w' w'') := fun w' h => wleft_any (LT h.1).2
  have HF : Hid (∀ w', AlikeS w2 w' b2 (.slice av q.all.length cv) q.gone q.ended → Calls Try.prog 36 #[.pointer (some ⟨b, 0, none⟩)] w' fun e w'' => e = .returned (.int .i64 ((q.most - (q.all.length - q.gone / 8) : Nat) : Int)) ∧ Below w'.heap.size w' w'') := fun w' h => qfree_any (LT h.1).1
  have HF2 : Hid (∀ w', AlikeS w2 w' b2 (.slice av q.all.length cv) q.gone q.ended → Calls Try.prog 57 #[.pointer (some ⟨b2, 0, none⟩)] w' fun e w'' => e = .returned (.int .i64 ((q.most - (q.all.length - q.gone / 8) : Nat) : Int)) ∧ Below w'.heap.size w' w'') := fun w' h => wfree_any (LT h.1).2
  have HE : Hid (∀ w', AlikeS w2 w' b2 (.slice av q.all.length cv) q.gone q.ended → Calls Try.prog 39 #[.pointer (some ⟨b, 0, none⟩)] w' fun e w'' => e = .returned (.bool q.ended) ∧ w' = w'') := fun w' h => qended_any (LT h.1).1
  have HC : Hid (∀ w', AlikeS w2 w' b2 (.slice av q.all.length cv) q.gone q.ended → Calls Try.prog 37 #[.pointer (some ⟨b, 0, none⟩)] w' fun e w'' => e = .returned (.int .i64 q.all.length) ∧ Below w'.heap.size w' w'') := fun w' h => qcame_any (LT h.1).1
  have HG : Hid (∀ w', AlikeS w2 w' b2 (.slice av q.all.length cv) q.gone q.ended → Calls Try.prog 38 #[.pointer (some ⟨b, 0, none⟩)] w' fun e w'' => e = .returned (.int .i64 q.gone) ∧ Below w'.heap.size w' w'') := fun w' h => qgone_any (LT h.1).1
  have HKeep : Hid (∀ wx wy, AlikeS w2 wx b2 (.slice av q.all.length cv) q.gone q.ended → Below wx.heap.size wx wy → AlikeS w2 wy b2 (.slice av q.all.length cv) q.gone q.ended) := fun _ _ h hb => alike_keep hlt h hb
  have H0 : Hid (AlikeS w2 w2.drew b2 (.slice av q.all.length cv) q.gone q.ended) := ⟨below_undrew (Below.refl _ w2.drew), c1, c2, c3⟩
  generalize ((8 * q.all.length - q.gone : Nat) : Int) = L at HL HL2
  generalize ((q.most - (q.all.length - q.gone / 8) : Nat) : Int) = F at HF HF2
  clear LT HQ2 HW2 HBa HBb hrb b1 b2' AS
  have HB2 := Lib.hid B2
  clear B2
  generalize q.ended = eo at *
  go_wp2_with fail
  go_region_held3 (fun w' => AlikeS w2 w' b2 (.slice av q.all.length cv) q.gone eo)
    (first | exact H0.out | assumption | exact HKeep.out _ _ (by assumption) hbl)
    (first
     | (go_at_call 18; refine (HS.out _ (by assumption)).mono ?_; rintro e wl ⟨rfl, rfl⟩)
     | (go_at_call 35; refine (HL.out _ (by assumption)).mono ?_; rintro e wl ⟨rfl, hbl⟩)
     | (go_at_call 59; refine (HL2.out _ (by assumption)).mono ?_; rintro e wl ⟨rfl, hbl⟩)
     | (go_at_call 36; refine (HF.out _ (by assumption)).mono ?_; rintro e wl ⟨rfl, hbl⟩)
     | (go_at_call 57; refine (HF2.out _ (by assumption)).mono ?_; rintro e wl ⟨rfl, hbl⟩)
     | (go_at_call 39; refine (HE.out _ (by assumption)).mono ?_; rintro e wl ⟨rfl, rfl⟩)
     | (go_at_call 37; refine (HC.out _ (by assumption)).mono ?_; rintro e wl ⟨rfl, hbl⟩)
     | (go_at_call 38; refine (HG.out _ (by assumption)).mono ?_; rintro e wl ⟨rfl, hbl⟩))
  rename_i hHeld
  have B3 := below_chain HB2.out (Nat.le_refl _) hHeld.1
  have HR3 := Lib.hid (ownsRow_bar HRa2.out (bar_of_below (S := fun _ => False) hHeld.1) (fun _ _ e => e))
  clear hHeld
  go_wp2_with fail
  refine (over_any HR3.out hlen2).mono ?_
  rintro e w4 ⟨rfl, hb4⟩
  have B4 := B3.trans (hb4.below B3.size (fun k hk e => by have := (HR3.out.lt k e).1; omega))
  go_wp2
  go_ret
  exact ⟨rfl, B4⟩

end Go.Proofs.Ytglnmaekhpaffaa
