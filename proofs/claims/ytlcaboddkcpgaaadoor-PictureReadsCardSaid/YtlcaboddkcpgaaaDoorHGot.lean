/- picture: a cursor's header (a range over its spare bytes), and Get, over the landed code. -/
import Derived.Test.YtlcaboddkcpgaaaDoorHIter
import Derived.Test.YtlcaboddkcpgaaaDoorHRef2
import Derived.RangeFuncLeaves
namespace Go.Proofs.YtlcaboddkcpgaaaDoor
open Go.RowKit Go.Shelf
set_option linter.unusedVariables false
attribute [local go_sem] Oper.semAt_some

/-! ### the spare bytes so far, plainly -/
def splH (zs : List UInt8) (A x : Nat) : List UInt8 := (List.range x).map fun i => UInt8.ofNat (num zs (A + 9 * i + 1) 8)
theorem splH_length (zs : List UInt8) (A x : Nat) : (splH zs A x).length = x := by simp [splH]
theorem splH_succ (zs : List UInt8) (A x : Nat) : splH zs A (x + 1) = splH zs A x ++ [UInt8.ofNat (num zs (A + 9 * x + 1) 8)] := by simp [splH, List.range_succ]
theorem splH_more {zs : List UInt8} {A x : Nat} {R : List UInt8 × Nat × Int} (h : spJ (splH zs A x) (spG zs (32 - x) (A + 9 * x)) = R) (hm : moreH zs (A + 9 * x) x) : spJ (splH zs A (x + 1)) (spG zs (32 - (x + 1)) (A + 9 * (x + 1))) = R := by
  obtain ⟨h1, h2, h3⟩ := hm
  obtain ⟨l, hl⟩ : ∃ l, 32 - x = l + 1 := ⟨31 - x, by omega⟩
  rw [hl, spG_more h3 h2, spJ_spJ] at h
  rw [splH_succ, show 32 - (x + 1) = l by omega, show A + 9 * (x + 1) = A + 9 * x + 9 by omega]
  exact h
theorem splH_end {zs : List UInt8} {A x : Nat} {R : List UInt8 × Nat × Int} (hx : x ≤ 32) (h : spJ (splH zs A x) (spG zs (32 - x) (A + 9 * x)) = R) (hm : ¬ moreH zs (A + 9 * x) x) : (endH zs (A + 9 * x) x = 0 ∧ R = (splH zs A x, 9 * x + 1, 0)) ∨ (endH zs (A + 9 * x) x ≠ 0 ∧ R = ([], 0, endH zs (A + 9 * x) x)) := by
  have hbt := bt_lt2 zs (A + 9 * x)
  unfold endH
  by_cases h1 : 8 * zs.length ≤ A + 9 * x
  · rw [if_pos h1]
    rw [spG_out h1, spJ_err _ (by decide)] at h
    exact .inr ⟨by decide, h.symm⟩
  · rw [if_neg h1]
    by_cases h2 : bt zs (A + 9 * x) = 0
    · rw [if_pos h2]
      rw [spG_end (by omega) h2, spJ_end, splH_length] at h
      exact .inl ⟨rfl, h.symm⟩
    · rw [if_neg h2]
      have h2' : bt zs (A + 9 * x) = 1 := by omega
      by_cases h3 : x = 32
      · rw [if_pos h3]
        rw [show 32 - x = 0 by omega, spG_long (by omega) h2', spJ_err _ (by decide)] at h
        exact .inr ⟨by decide, h.symm⟩
      · rw [if_neg h3]
        obtain ⟨l, hl⟩ : ∃ l, 32 - x = l + 1 := ⟨31 - x, by omega⟩
        rw [hl, spG_few (by omega) h2' (by false_or_by_contra; rename_i h4; exact hm ⟨by omega, by omega, h2'⟩), spJ_err _ (by decide)] at h
        exact .inr ⟨by decide, h.symm⟩

/-! ### between two rounds -/
structure HInv (w : World) (c : Nat) (t y : Int) (zs : List UInt8) (A : Nat) (R : List UInt8 × Nat × Int) (x : Nat) (W : World) : Prop where
  bar : Bar (fun k => k = c) w W
  r : W.heap[w.heap.size]? = some (.cells #[.int .i64 0, .int .i64 0, .slice none 0 0] 24 (0, 0))
  h : ∃ v, W.heap[w.heap.size + 1]? = some (.cells #[.int .i64 t, .int .i64 y, v] 24 (0, 0)) ∧ W.ownsRow (w.heap.size + 6) 5 1 v x (u8s (splH zs A x))
  le : x ≤ 32
  rem : spJ (splH zs A x) (spG zs (32 - x) (A + 9 * x)) = R
theorem HInv.move {w : World} {c : Nat} {t y : Int} {zs : List UInt8} {A : Nat} {R : List UInt8 × Nat × Int} {x : Nat} {W W' : World} (h : HInv w c t y zs A R x W) (hb : Bar (fun k => (k = c ∨ k = w.heap.size + 2) ∨ k = w.heap.size + 5) W W') (hc : c < w.heap.size) : HInv w c t y zs A R x W' := by
  obtain ⟨h1, h2, ⟨v, h5, h6⟩, h7, h8⟩ := h
  refine ⟨h1.trans hb (fun j hj e => by omega), (hb.block _ (Array.getElem?_eq_some_iff.1 h2).1 (by omega)).trans h2, ⟨v, (hb.block _ (Array.getElem?_eq_some_iff.1 h5).1 (by omega)).trans h5, ?_⟩, h7, h8⟩
  exact ownsRow_barN h6 hb (fun k e => by have := (h6.lt k e).1; omega)

/-- one more byte: it is appended -/
theorem HInv.next {w : World} {c : Nat} {t y : Int} {zs : List UInt8} {A : Nat} {R : List UInt8 × Nat × Int} {x : Nat} {W : World} (h : HInv w c t y zs A R x W) (hc : c < w.heap.size) (hWs : w.heap.size + 6 ≤ W.heap.size) {av : Option Addr} {cv : Nat} {w6 : World} {v5 : Value} {tb : TypeId}
    (hv : W.heap[w.heap.size + 1]? = some (.cells #[.int .i64 t, .int .i64 y, .slice av x cv] 24 (0, 0))) (hrow : W.ownsRow (w.heap.size + 6) 5 1 (.slice av x cv) x (u8s (splH zs A x)))
    {u : Value} (hu : u = .int .u8 ((UInt8.ofNat (num zs (A + 9 * x + 1) 8)).toNat : Nat))
    (hap : AppendedV 5 (W.alloc (.cells #[u] tb (0, 0))) w6 (w.heap.size + 6) (.slice av x cv) v5 (x + 1) (u8s (splH zs A x) ++ [u]))
    (hm : moreH zs (A + 9 * x) x) :
    w6.heap[w.heap.size + 1]? = some (.cells #[.int .i64 t, .int .i64 y, .slice av x cv] 24 (0, 0)) ∧ w.heap.size + 1 < w6.heap.size ∧
    Keep2 (w.heap.size + 4) W (w6.setCell ⟨w.heap.size + 1, 2, none⟩ v5) ∧ (∀ m, m ≤ w.heap.size → KpH m c (w.heap.size + 2) (w.heap.size + 3) W (w6.setCell ⟨w.heap.size + 1, 2, none⟩ v5)) ∧ HInv w c t y zs A R (x + 1) (w6.setCell ⟨w.heap.size + 1, 2, none⟩ v5) := by
  have hH := h
  obtain ⟨h1, h2, _, h7, h8⟩ := h
  obtain ⟨o1, g1, _⟩ := hap
  have hsz : (W.alloc (.cells #[u] tb (0, 0))).heap.size = W.heap.size + 1 := by simp
  have key : ∀ k, k < w.heap.size + 6 → w6.heap[k]? = W.heap[k]? := fun k h5 => by
    rw [g1.block k (by omega) (fun e => by have := (hrow.lt k e.symm).1; omega)]
    exact Below.heap_alloc _ _ _ (by omega)
  have hsz6 := g1.size
  rw [hsz] at hsz6
  have hother : ∀ k, k ≠ w.heap.size + 1 → (w6.setCell ⟨w.heap.size + 1, 2, none⟩ v5).heap[k]? = w6.heap[k]? := fun k hk => heap_setCell_other _ _ _ _ (by simpa using hk)
  have hfull : ∀ k, k < w.heap.size + 6 → k ≠ w.heap.size + 1 → (w6.setCell ⟨w.heap.size + 1, 2, none⟩ v5).heap[k]? = W.heap[k]? := fun k a d => (hother k d).trans (key k a)
  have hszf : (w6.setCell ⟨w.heap.size + 1, 2, none⟩ v5).heap.size = w6.heap.size := by simp
  have hv6 := (key (w.heap.size + 1) (by omega)).trans hv
  have hbar : Bar (fun k => k = w.heap.size + 1 ∨ w.heap.size + 6 ≤ k) W (w6.setCell ⟨w.heap.size + 1, 2, none⟩ v5) :=
    ⟨g1.os, g1.tape, g1.output, by omega, fun k hk hn => hfull k (by omega) (by omega)⟩
  refine ⟨hv6, by omega, ⟨by omega, hfull _ (by omega) (by omega), hfull _ (by omega) (by omega)⟩, fun m hm' => ⟨hbar.below (by omega) (fun k hk e => by omega), hfull _ (by omega) (by omega), hfull _ (by omega) (by omega), hfull _ (by omega) (by omega)⟩, ?_⟩
  refine ⟨h1.trans hbar (fun j hj e => by omega), (hfull _ (by omega) (by omega)).trans h2, ⟨v5, ?_, ?_⟩, by have := hm.1; omega, splH_more h8 hm⟩
  · rw [heap_setCell_same _ (w.heap.size + 1) 2 _ _ _ hv6]
    rfl
  · have e : u8s (splH zs A (x + 1)) = u8s (splH zs A x) ++ [u] := by rw [splH_succ, hu]; simp [u8s]
    rw [e]
    exact ownsRow_barN (S := fun k => k = w.heap.size + 1) o1 (Bar.setCell (S := fun k => k = w.heap.size + 1) (Bar.refl _ w6) (p := ⟨w.heap.size + 1, 2, none⟩) (fun _ => rfl) v5) (fun k e => by have := (o1.lt k e).1; omega)

/-- what a cursor's head answers -/
def HRes (w : World) (c : Nat) (sv : Value) (A : Nat) (g : Hdg) (e : Ending) (w' : World) : Prop :=
  ∃ v, e = .returned (.tuple #[headV g.time g.type v, .int .i64 g.err]) ∧ w'.ownsRow w.heap.size 5 1 v g.spare.length (u8s g.spare) ∧ Bar (fun k => k = c) w w' ∧ (g.err = 0 → ∃ m, w'.heap[c]? = some (curH sv ((A : Int) + g.many) m))
theorem three_set {W : World} {g : Nat} {a b d a' b' d' : Value} {t : TypeId} (h : W.heap[g]? = some (.cells #[a, b, d] t (0, 0))) : (((W.setCell ⟨g, 0, none⟩ a').setCell ⟨g, 1, none⟩ b').setCell ⟨g, 2, none⟩ d').heap[g]? = some (.cells #[a', b', d'] t (0, 0)) := by
  rw [heap_setCell_same _ g 2 _ _ d' (heap_setCell_same _ g 1 _ _ b' (heap_setCell_same W g 0 _ _ a' h))]
  rfl
theorem three_froz {W : World} {g : Nat} {a b d : Value} {t : TypeId} (h : W.heap[g]? = some (.cells #[a, b, d] t (0, 0))) : W.frozen? ⟨g, 0, none⟩ = false ∧ W.frozen? ⟨g, 1, none⟩ = false ∧ W.frozen? ⟨g, 2, none⟩ = false ∧ g < W.heap.size := ⟨Lib.frozen_of_heap h 0, Lib.frozen_of_heap h 1, Lib.frozen_of_heap h 2, (Array.getElem?_eq_some_iff.1 h).1⟩
theorem three_cellsH {w : World} {g : Nat} {a b c : Value} {t : TypeId} (h : w.heap[g]? = some (.cells #[a, b, c] t (0, 0))) : w.cell? ⟨g, 0, none⟩ = some a ∧ w.cell? ⟨g, 1, none⟩ = some b ∧ w.cell? ⟨g, 2, none⟩ = some c := by simp [World.cell?, h]
theorem bar_three {S : Nat → Prop} {a W : World} (h : Bar S a W) {g : Nat} (hg : a.heap.size ≤ g) (x y z : Value) : Bar S a (((W.setCell ⟨g, 0, none⟩ x).setCell ⟨g, 1, none⟩ y).setCell ⟨g, 2, none⟩ z) :=
  Bar.setCell (Bar.setCell (Bar.setCell h (p := ⟨g, 0, none⟩) (fun e => absurd e (by simp; omega)) _) (p := ⟨g, 1, none⟩) (fun e => absurd e (by simp; omega)) _) (p := ⟨g, 2, none⟩) (fun e => absurd e (by simp; omega)) _

set_option maxRecDepth 100000 in
set_option maxHeartbeats 4000000 in
/-- too few bits for the time and the type -/
theorem hhead_few (n : Nat) (hn : 12 ≤ n) {n₁ : Nat} {w0 w : World} {sv : Value} {zs : List UInt8} (hB : Byt n₁ w0 sv zs) (hn1 : n₁ ≤ w0.heap.size) (hl : zs.length ≤ 1000000) (hb0 : Below w0.heap.size w0 w) (c A : Nat) (hA : (A : Int) ≤ 9223372036854775807) (hc : w0.heap.size ≤ c) (W0 : Int) (hcur : w.heap[c]? = some (curH sv A W0)) (h : 8 * zs.length < A + 11) :
    CallsIn Fence.wide n Tryd.prog 35 #[.pointer (some ⟨c, 0, none⟩)] w fun e w' => HRes w c sv A (badH 5) e w' := by
  have hcx : c < w.heap.size := (Array.getElem?_eq_some_iff.1 hcur).1
  have hb1 : Below w.heap.size w (w.alloc (.cells #[.int .i64 0, .int .i64 0, .slice none 0 0] 24 (0, 0))) := (Below.refl _ w).alloc (Nat.le_refl _) _
  have hx1 := World.alloc_heap_new w (.cells #[.int .i64 0, .int .i64 0, .slice none 0 0] 24 (0, 0))
  have hz1 : (w.alloc (.cells #[.int .i64 0, .int .i64 0, .slice none 0 0] 24 (0, 0))).heap.size = w.heap.size + 1 := by simp
  have hcur1 := (hb1.block c hcx).trans hcur
  have hbw := hb0.trans (hb1.mono hb0.size)
  refine callsIn_of_wp_marks Tryd.func35 rfl trivial ?_ rfl
  simp only [Tryd.ntmps35, List.size_toArray, List.length_cons, List.length_nil, Nat.reduceAdd, Nat.reduceSub, Array.replicate_succ, Array.replicate_zero, List.push_toArray, List.append_toArray, List.nil_append, List.cons_append]
  gi_wp2_with fail
  generalize w.alloc (.cells #[.int .i64 0, .int .i64 0, .slice none 0 0] 24 (0, 0)) = w1 at *
  have HFin : Hid (∀ (w2 : World), Bar (fun k => k = c) w1 w2 → w2.heap[w.heap.size]? = some (.cells #[.int .i64 0, .int .i64 0, .slice none 0 0] 24 (0, 0)) → Bar (fun k => k = c) w (((w2.setCell ⟨w.heap.size, 0, none⟩ (.int .i64 0)).setCell ⟨w.heap.size, 1, none⟩ (.int .i64 0)).setCell ⟨w.heap.size, 2, none⟩ (.slice none 0 0)) ∧ (((w2.setCell ⟨w.heap.size, 0, none⟩ (.int .i64 0)).setCell ⟨w.heap.size, 1, none⟩ (.int .i64 0)).setCell ⟨w.heap.size, 2, none⟩ (.slice none 0 0)).heap[w.heap.size]? = some (.cells #[.int .i64 0, .int .i64 0, .slice none 0 0] 24 (0, 0))) := fun w2 hb hx =>
    ⟨bar_three ((bar_of_below hb1).trans hb (fun j hj e => e)) (Nat.le_refl _) _ _ _, three_set hx⟩
  by_cases h5 : 8 * zs.length < A + 5
  · have HN := Lib.hid (hnum_few hB hn1 hl c hc hbw A 5 (by omega) (by omega) (by omega) h5 W0 hcur1)
    clear hB hcur hcur1 hb0 hbw hb1
    refine ⟨trivial, fun _ => by omega, ?_⟩
    refine (callsIn_wide.2 HN.out).mono ?_
    rintro e w2 ⟨rfl, A', W', hC2⟩
    have hx2 := (hC2.bar.block _ (by omega) (by omega)).trans hx1
    obtain ⟨p0, p1, p2⟩ := three_cellsH hx2
    obtain ⟨g0, g1, g2, gl⟩ := three_froz hx2
    obtain ⟨hF1, hF2⟩ := HFin.out w2 hC2.bar hx2
    have HF1 := Lib.hid hF1
    have HF2 := Lib.hid hF2
    clear hC2 hF1 hF2 hx2 hx1
    gi_wp2_with fail
    obtain ⟨q0, q1, q2⟩ := three_cellsH HF2.out
    refine leaves_none ⟨.tuple #[headV 0 0 (.slice none 0 0), .int .i64 5], by simp [results, Tryd.f35, go_sem, q0, q1, q2], .slice none 0 0, rfl, World.ownsRow_nil _ _ _ _, HF1.out, fun h => absurd h (by decide)⟩
  · have HN := Lib.hid (hnum_ok hB hn1 hl c hc hbw A 5 (by omega) (by omega) (by omega) W0 hcur1)
    have HN2 := Lib.hid (fun (w2 : World) (W' : Int) (h : CurAt w1 w2 c sv ((A : Int) + (5 : Nat)) W') => hnum_few hB hn1 hl c hc (hbw.trans (h.bar.below hbw.size (fun k hk e => by omega))) (A + 5) 6 (by omega) (by omega) (by omega) (by omega) W' h.cur)
    generalize num zs A 5 = t at *
    clear hB hcur hcur1 hb0 hbw hb1
    refine ⟨trivial, fun _ => by omega, ?_⟩
    refine (callsIn_wide.2 HN.out).mono ?_
    rintro e w2 ⟨rfl, hC2⟩
    have HN3 := Lib.hid (HN2.out w2 0 hC2)
    have HC2 := Lib.hid hC2
    clear hC2 HN2
    gi_wp2_with fail
    refine ⟨trivial, fun _ => by omega, ?_⟩
    refine (callsIn_wide.2 HN3.out).mono ?_
    rintro e w3 ⟨rfl, A', W', hC3⟩
    have hb3 := HC2.out.bar.trans hC3.bar (fun j hj e => e)
    have hx3 := (hb3.block _ (by omega) (by omega)).trans hx1
    obtain ⟨p0, p1, p2⟩ := three_cellsH hx3
    obtain ⟨g0, g1, g2, gl⟩ := three_froz hx3
    obtain ⟨hF1, hF2⟩ := HFin.out w3 hb3 hx3
    have HF1 := Lib.hid hF1
    have HF2 := Lib.hid hF2
    clear hC3 hF1 hF2 hx3 hx1 hb3
    gi_wp2_with fail
    obtain ⟨q0, q1, q2⟩ := three_cellsH HF2.out
    refine leaves_none ⟨.tuple #[headV 0 0 (.slice none 0 0), .int .i64 5], by simp [results, Tryd.f35, go_sem, q0, q1, q2], .slice none 0 0, rfl, World.ownsRow_nil _ _ _ _, HF1.out, fun h => absurd h (by decide)⟩

set_option maxRecDepth 100000 in
set_option maxHeartbeats 8000000 in
theorem hhead_in (n : Nat) (hn : 12 ≤ n) {n₁ : Nat} {w0 w : World} {sv : Value} {zs : List UInt8} (hB : Byt n₁ w0 sv zs) (hn1 : n₁ ≤ w0.heap.size) (hl : zs.length ≤ 1000000) (hb0 : Below w0.heap.size w0 w) (c A : Nat) (hc : w0.heap.size ≤ c) (W0 : Int) (hcur : w.heap[c]? = some (curH sv A W0)) (h : A + 11 ≤ 8 * zs.length) :
    CallsIn Fence.wide n Tryd.prog 35 #[.pointer (some ⟨c, 0, none⟩)] w fun e w' => HRes w c sv A (gtH zs A) e w' := by
  have hn1' : 1 ≤ n := by omega
  have hcx : c < w.heap.size := (Array.getElem?_eq_some_iff.1 hcur).1
  obtain ⟨R, hR⟩ : ∃ R, spG zs 32 (A + 11) = R := ⟨_, rfl⟩
  have hR0 : spJ [] (spG zs 32 (A + 11)) = R := by rw [spJ_nil _ (spG_bad zs 32 (A + 11))]; exact hR
  have hRb := spG_bad zs 32 (A + 11)
  rw [gtH_nat h, hR]
  rw [hR] at hRb
  obtain ⟨t, ht⟩ : ∃ t, num zs A 5 = t := ⟨_, rfl⟩
  obtain ⟨y, hy⟩ : ∃ y, num zs (A + 5) 6 = y := ⟨_, rfl⟩
  rw [ht, hy]
  have hb1 : Below w.heap.size w (w.alloc (.cells #[.int .i64 0, .int .i64 0, .slice none 0 0] 24 (0, 0))) := (Below.refl _ w).alloc (Nat.le_refl _) _
  have hx1 := World.alloc_heap_new w (.cells #[.int .i64 0, .int .i64 0, .slice none 0 0] 24 (0, 0))
  have hz1 : (w.alloc (.cells #[.int .i64 0, .int .i64 0, .slice none 0 0] 24 (0, 0))).heap.size = w.heap.size + 1 := by simp
  have hcur1 := (hb1.block c hcx).trans hcur
  have hbw := hb0.trans (hb1.mono hb0.size)
  refine callsIn_of_wp_marks Tryd.func35 rfl trivial ?_ rfl
  simp only [Tryd.ntmps35, List.size_toArray, List.length_cons, List.length_nil, Nat.reduceAdd, Nat.reduceSub, Array.replicate_succ, Array.replicate_zero, List.push_toArray, List.append_toArray, List.nil_append, List.cons_append]
  gi_wp2_with fail
  generalize w.alloc (.cells #[.int .i64 0, .int .i64 0, .slice none 0 0] 24 (0, 0)) = w1 at *
  have HN := Lib.hid (hnum_ok hB hn1 hl c hc hbw A 5 (by omega) (by omega) (by omega) W0 hcur1)
  have HN2 := Lib.hid (fun (w2 : World) (W' : Int) (h : CurAt w1 w2 c sv ((A : Int) + (5 : Nat)) W') => hnum_ok hB hn1 hl c hc (hbw.trans (h.bar.below hbw.size (fun k hk e => by omega))) (A + 5) 6 (by omega) (by omega) (by omega) W' h.cur)
  rw [ht] at HN
  rw [hy] at HN2
  clear ht hy
  have HR0 := Lib.hid hR0
  have HRb := Lib.hid hRb
  clear hcur hcur1 hR hR0 hRb
  refine ⟨trivial, ?_⟩
  refine (callsIn_wide.2 HN.out).mono ?_
  rintro e w2 ⟨rfl, hC2⟩
  have HN3 := Lib.hid (HN2.out w2 0 hC2)
  have HC2 := Lib.hid hC2
  clear hC2 HN2 HN
  gi_wp2_with fail
  refine ⟨trivial, ?_⟩
  refine (callsIn_wide.2 HN3.out).mono ?_
  rintro e w3 ⟨rfl, hC3⟩
  have hz3 : w3.heap.size = w.heap.size + 1 := by rw [hC3.size, HC2.out.size]; exact hz1
  have hb3 := HC2.out.bar.trans hC3.bar (fun j hj e => e)
  have hx3 := (hb3.block _ (by omega) (by omega)).trans hx1
  have hc3 : w3.heap[c]? = some (curH sv ((A + 11 : Nat) : Int) 0) := by
    have := hC3.cur
    rwa [show ((A + 5 : Nat) : Int) + (6 : Nat) = ((A + 11 : Nat) : Int) by omega] at this
  have hB3 := (bar_of_below (S := fun k => k = c) hb1).trans hb3 (fun j hj e => e)
  have hw3 := hbw.trans (hb3.below hbw.size (fun k hk e => by omega))
  have HHa := Lib.hid (fun W => hall_any (w.heap.size + 2) W)
  clear hC3 HN3 hbw hb1 hb3 HC2 hx1 hz1
  have hA6 : ∃ w6, (((w3.alloc (.cells #[.int .i64 (t : Nat), .int .i64 (y : Nat), .slice none 0 0] 24 (0, 0))).alloc (spO c 0)).alloc (.cells #[.pointer (some ⟨w.heap.size + 2, 0, none⟩)] 89 (0, 0))) = w6 := ⟨_, rfl⟩
  obtain ⟨w6, hw6⟩ := hA6
  have hW6 : Below w3.heap.size w3 w6 := by rw [← hw6]; exact (((Below.refl _ w3).alloc (Nat.le_refl _) _).alloc (by simp) _).alloc (by simp; omega) _
  have hz6 : w6.heap.size = w.heap.size + 4 := by rw [← hw6]; simp; omega
  have h60 : w6.heap[w.heap.size]? = some (.cells #[.int .i64 0, .int .i64 0, .slice none 0 0] 24 (0, 0)) := (hW6.block _ (by omega)).trans hx3
  have h61 : w6.heap[w.heap.size + 1]? = some (.cells #[.int .i64 (t : Nat), .int .i64 (y : Nat), .slice none 0 0] 24 (0, 0)) := by rw [← hw6]; exact heap_keep (heap_keep (heap_new _ hz3 _) _) _
  have h62 : w6.heap[w.heap.size + 2]? = some (spO c 0) := by rw [← hw6]; exact heap_keep (heap_new _ (by simp; omega) _) _
  have h63 : w6.heap[w.heap.size + 3]? = some (.cells #[.pointer (some ⟨w.heap.size + 2, 0, none⟩)] 89 (0, 0)) := by rw [← hw6]; exact heap_new _ (by simp; omega) _
  have h6c := (hW6.block c (by omega)).trans hc3
  have hB6 := hB3.trans (bar_of_below (S := fun k => k = c) hW6) (fun j hj e => e)
  have hb06 := hw3.trans (hW6.mono hw3.size)
  have hI6 : HInv w c t y zs (A + 11) R 0 w6 := ⟨hB6, h60, ⟨.slice none 0 0, h61, World.ownsRow_nil _ _ _ _⟩, by omega, HR0.out⟩
  have hcs6 : CurI w0 c (w.heap.size + 2) (w.heap.size + 3) sv ((A + 11 : Nat) : Int) 0 0 w6 := ⟨hb06, h6c, h62, h63⟩
  have HW6 := Lib.hid hw6
  clear hw6 hx3 hc3 hB3 hw3 hW6 h60 h61 h62 h6c hB6
  gi_wp2_with fail
  refine ⟨trivial, ?_⟩
  refine (callsIn_wide.2 (HHa.out _)).mono ?_
  rintro e w7 ⟨rfl, rfl⟩
  gi_wp2_with fail
  rw [HW6.out]
  have HI6 := Lib.hid hI6
  refine wpIn_range_M rfl hn1' (gf := 60) (lb := #[.pointer (some ⟨w.heap.size + 1 + 1 + 1, 0, none⟩)]) rfl trivial (enters_of Tryd.func60 (by kernel_rfl) rfl)
    (hall_M (n - 1) (by omega) c (w.heap.size + 2) (w.heap.size + 3) (A + 11) sv zs n₁ w0 w6 hB hn1 hl (by omega) hc (by have := hb0.size; omega) (by omega) (by omega) (by omega) 0 hcs6)
    (fun k e => by omega)
    KpH.t (fun W' o' h => ⟨(bar_putObj (S := fun k => k = w6.heap.size + 1) rfl o').below (by have := hb0.size; omega) (fun k hk e => by have := hb0.size; omega), World.putObj_heap_other (by omega), World.putObj_heap_other (by omega), World.putObj_heap_other (by omega)⟩) (Below.refl _ _) (fun _ => rfl)
    (fun x W' o' h hc' => by
      obtain ⟨n', m', er', hci, h1, h2⟩ := hc'
      exact ⟨n', m', er', ⟨hci.below.trans ((bar_putObj (S := fun k => k = w6.heap.size + 1) rfl o').below (by have := hb0.size; omega) (fun k hk e => by have := hb0.size; omega)), (World.putObj_heap_other (by omega)).trans hci.cur, (World.putObj_heap_other (by omega)).trans hci.sp, (World.putObj_heap_other (by omega)).trans hci.box⟩, h1, h2⟩)
    (fun x Wx => HInv w c t y zs (A + 11) R x Wx)
    (fun co x Wx => False)
    ?hI ?hIx ?h0 ?hround ?hdone ?hstop
  case hI =>
    intro x X Y h hb
    rw [hz6] at hb
    exact h.move hb hcx
  case hIx =>
    intro co x X Y h hb
    exact h
  case h0 =>
    intro W' hb
    exact HI6.out.move ⟨hb.os, hb.tape, hb.output, hb.size, fun k hk hn => hb.block k hk (fun e => hn (.inl e))⟩ hcx
  case hround =>
    intro x Wx hI hcu hxz hmore
    simp only [encH]
    gi_wp2
    refine ⟨keep2_bar (S := fun _ => False) (Bar.refl _ Wx) (by omega) id id, ⟨Below.refl _ Wx, rfl, rfl, rfl⟩, fun W2 hb2 hz2 hot => ?_⟩
    have hWW : Bar (fun k => (k = c ∨ k = w.heap.size + 2) ∨ k = w.heap.size + 5) Wx W2 := ⟨hb2.os, hb2.tape, hb2.output, hb2.size, fun k hk hn => hb2.block k hk (fun e => hn (.inr (by omega)))⟩
    have hI2 := hI.move hWW hcx
    obtain ⟨v, i6, i7⟩ := hI2.h
    obtain ⟨av, cv, rfl⟩ : ∃ av cv, v = .slice av x cv := by
      rcases id i7.2 with ⟨rfl, h0⟩ | ⟨g, cap, cur, hv, _⟩
      · exact ⟨none, 0, by rw [h0]⟩
      · exact ⟨_, _, hv⟩
    obtain ⟨p0, p1, p2⟩ := three_cellsH i6
    obtain ⟨g0, g1, g2, gl⟩ := three_froz i6
    obtain ⟨i0, hi, hzz0, hzz1, hzz2⟩ := info_parts Tryd.info5
    have hnl := num_lt zs (A + 11 + 9 * x + 1) 8
    have hu : Value.int .u8 (num zs (A + 11 + 9 * x + 1) 8 : Nat) = .int .u8 ((UInt8.ofNat (num zs (A + 11 + 9 * x + 1) 8)).toNat : Nat) := by
      rw [UInt8.toNat_ofNat_of_lt' (by show _ < 256; omega)]
    have HU := Lib.hid hu
    have hx32 := hI2.le
    have hWs : w.heap.size + 6 ≤ W2.heap.size := by omega
    have HI2 := Lib.hid hI2
    have H6 := Lib.hid i6
    have H7 := Lib.hid i7
    have HM := Lib.hid hmore
    obtain ⟨q, hq⟩ : ∃ q, num zs (A + 11 + 9 * x + 1) 8 = q := ⟨_, rfl⟩
    have HQ := Lib.hid hq
    rw [hq] at hnl
    rw [hq]
    clear hq
    clear hu hI2 hWW hI hcu hb2 hot i6 i7 hmore hI6 hcs6 HI6
    gi_wp2_with (gi_at_builtin; refine wpListIn_append_v rfl (.tmp 36) (.tmp 38) 22 5 i0 (.int .u8 0) 1 rfl Tryd.underlying22 hi hzz0 hzz1 hzz2 rfl (w.heap.size + 6) (.slice av x cv) x _ rfl (H7.out.alloc _) (some ⟨Wx.heap.size, 0, none⟩) 1 1 [.int .u8 (q : Nat)] rfl (src_at (heap_new _ hz2 _)) (fun e => nomatch e) (by simp [Value.oneCell']) (by omega) (by omega) (by simp; omega) ?_; intro v5 w8 hap; have HAp := Lib.hid hap; clear hap; refine Hid.out ?_)
    refine Lib.hid ?_
    obtain ⟨n1, n2, n3, n4, n5⟩ := HI2.out.next hcx hWs H6.out H7.out (by rw [← HQ.out]; exact HU.out) HAp.out HM.out
    obtain ⟨a5, c5, rfl⟩ : ∃ a5 c5, v5 = .slice a5 (x + 1) c5 := by
      rcases id HAp.out.1.2 with ⟨rfl, h0⟩ | ⟨g, cap, cur, hv, _⟩
      · exact ⟨none, 0, by rw [h0]⟩
      · exact ⟨_, _, hv⟩
    obtain ⟨t0, t1, t2⟩ := three_cellsH n1
    obtain ⟨s0, s1, s2, sl⟩ := three_froz n1
    have N := Lib.hid (And.intro n3 (And.intro (n4 w0.heap.size hb0.size) n5))
    clear n1 n3 n4 n5
    gi_wp2
    exact ⟨by rw [hz6]; exact N.out.1, N.out.2.1, trivial, N.out.2.2⟩
  case hdone =>
    intro D x W' hD hmore hI hcu hDm
    subst hD
    rw [hz6] at hDm
    obtain ⟨n', m', er, hci, _, hend⟩ := hcu
    obtain ⟨he, hn'⟩ := hend hmore
    subst he
    have hfin := splH_end hI.le hI.rem hmore
    obtain ⟨i1, i2, ⟨v, i5, i6⟩, i7, i8⟩ := hI
    obtain ⟨av, cv, rfl⟩ : ∃ av cv, v = .slice av x cv := by
      rcases id i6.2 with ⟨rfl, h0⟩ | ⟨g, cap, cur, hv, _⟩
      · exact ⟨none, 0, by rw [h0]⟩
      · exact ⟨_, _, hv⟩
    obtain ⟨d0, d1, d2⟩ := three_cellsH i5
    obtain ⟨e0, e1, e2⟩ := three_cellsH i2
    obtain ⟨f0, f1, f2, fl⟩ := three_froz i2
    have s1 : W'.cell? ⟨w.heap.size + 1 + 1, 1, none⟩ = some (.int .i64 (endH zs (A + 11 + 9 * x) x)) := by simp [World.cell?, show W'.heap[w.heap.size + 1 + 1]? = _ from hci.sp]
    have HSx : Hid (spJ (splH zs (A + 11) x) (spG zs (32 - x) (A + 11 + 9 * x)) = R) := i8
    have H6 := Lib.hid i6
    have HI1 := Lib.hid i1
    have HC := Lib.hid hci.cur
    have HI2 := Lib.hid i2
    have HN' := Lib.hid hn'
    clear i8 i6 hci i5 i1 i2 hn' hI6 hcs6 HI6 hmore
    obtain ⟨h0, hR⟩ | ⟨h0, hR⟩ := hfin
    · rw [h0] at s1
      subst hR
      have hn2 := HN'.out h0
      subst hn2
      clear h0 HSx HN'
      have k1 := three_set (a' := .int .i64 (t : Nat)) (b' := .int .i64 (y : Nat)) (d' := .slice av x cv) HI2.out
      have mD := (show ((((W'.setCell ⟨w.heap.size, 0, none⟩ (.int .i64 (t : Nat))).setCell ⟨w.heap.size, 1, none⟩ (.int .i64 (y : Nat))).setCell ⟨w.heap.size, 2, none⟩ (.slice av x cv)).heap[w.heap.size + 4]? = some (.deferred (some []))) from by
        rw [heap_setCell_other _ _ _ _ (by simp), heap_setCell_other _ _ _ _ (by simp), heap_setCell_other _ _ _ _ (by simp)]
        exact hDm)
      have mC := (show ((((W'.setCell ⟨w.heap.size, 0, none⟩ (.int .i64 (t : Nat))).setCell ⟨w.heap.size, 1, none⟩ (.int .i64 (y : Nat))).setCell ⟨w.heap.size, 2, none⟩ (.slice av x cv)).heap[c]? = some (curH sv ((A + 11 + 9 * x + 1 : Nat) : Int) m')) from by
        rw [heap_setCell_other _ _ _ _ (by simp; omega), heap_setCell_other _ _ _ _ (by simp; omega), heap_setCell_other _ _ _ _ (by simp; omega)]
        exact HC.out)
      have mR := ownsRow_barN (S := fun k => k = w.heap.size) H6.out (Bar.setCell (S := fun k => k = w.heap.size) (Bar.setCell (S := fun k => k = w.heap.size) (Bar.setCell (S := fun k => k = w.heap.size) (Bar.refl _ W') (p := ⟨w.heap.size, 0, none⟩) (fun _ => rfl) (.int .i64 (t : Nat))) (p := ⟨w.heap.size, 1, none⟩) (fun _ => rfl) (.int .i64 (y : Nat))) (p := ⟨w.heap.size, 2, none⟩) (fun _ => rfl) (.slice av x cv)) (fun k e => by have := (H6.out.lt k e).1; omega)
      have mB := bar_three HI1.out (Nat.le_refl _) (.int .i64 (t : Nat)) (.int .i64 (y : Nat)) (.slice av x cv)
      have HK := Lib.hid (And.intro k1 (And.intro mD (And.intro mC (And.intro mR mB))))
      clear k1 mD mC mR mB
      gi_wp2_with fail
      obtain ⟨k1, mD, mC, mR, mB⟩ := HK.out
      refine leaves_one mD (fun W3 hb => ?_)
      have n0 := (hb.block w.heap.size (Array.getElem?_eq_some_iff.1 k1).1 (by omega)).trans k1
      have nC := (hb.block c (Array.getElem?_eq_some_iff.1 mC).1 (by omega)).trans mC
      obtain ⟨q0, q1, q2⟩ := three_cellsH n0
      refine ⟨.tuple #[headV t y (.slice av x cv), .int .i64 0], by simp [results, Tryd.f35, go_sem, q0, q1, q2], .slice av x cv, rfl, ?_, ?_, ?_⟩
      · show W3.ownsRow _ _ _ _ (splH zs (A + 11) x).length _
        rw [splH_length]
        exact ownsRow_baseN (ownsRow_barN mR hb (fun k e => by have := (mR.lt k e).1; omega)) (by omega)
      · exact mB.trans hb (fun j hj e => by omega)
      · intro _
        have e : (A : Int) + (11 + ((9 * x + 1 : Nat) : Int)) = ((A + 11 + 9 * x + 1 : Nat) : Int) := by omega
        refine ⟨m', ?_⟩
        show W3.heap[c]? = some (curH sv ((A : Int) + (11 + ((9 * x + 1 : Nat) : Int))) m')
        rw [e]
        exact nC
    · have qe : (endH zs (A + 11 + 9 * x) x != 0) = true := by simpa using h0
      obtain ⟨er, her⟩ : ∃ er, endH zs (A + 11 + 9 * x) x = er := ⟨_, rfl⟩
      rw [her] at s1 h0 hR qe
      subst hR
      have H0 := Lib.hid h0
      clear h0
      clear HSx HN' HC H6 her HRb
      have k1 := three_set (a' := .int .i64 0) (b' := .int .i64 0) (d' := .slice none 0 0) HI2.out
      have mD := (show ((((W'.setCell ⟨w.heap.size, 0, none⟩ (.int .i64 0)).setCell ⟨w.heap.size, 1, none⟩ (.int .i64 0)).setCell ⟨w.heap.size, 2, none⟩ (.slice none 0 0)).heap[w.heap.size + 4]? = some (.deferred (some []))) from by
        rw [heap_setCell_other _ _ _ _ (by simp), heap_setCell_other _ _ _ _ (by simp), heap_setCell_other _ _ _ _ (by simp)]
        exact hDm)
      have mB := bar_three HI1.out (Nat.le_refl _) (.int .i64 0) (.int .i64 0) (.slice none 0 0)
      have HK := Lib.hid (And.intro k1 (And.intro mD mB))
      clear k1 mD mB
      gi_wp2_with fail
      refine wpIn_wide.2 ?_
      go_region
      gi_wp2_with fail
      obtain ⟨k1, mD, mB⟩ := HK.out
      refine leaves_one (D := w.heap.size + 4) (by exact mD) (fun W3 hb => ?_)
      have n0 := (hb.block w.heap.size (Array.getElem?_eq_some_iff.1 k1).1 (by omega)).trans k1
      obtain ⟨q0, q1, q2⟩ := three_cellsH n0
      refine ⟨.tuple #[headV 0 0 (.slice none 0 0), .int .i64 er], by simp [results, Tryd.f35, go_sem, q0, q1, q2], ?_⟩
      refine ⟨.slice none 0 0, rfl, World.ownsRow_nil _ _ _ _, (mB.drew).trans hb (fun j hj e => by omega), fun h => absurd h H0.out⟩
  case hstop =>
    intro D co x W' hD hmore hE hDm
    exact hE.elim

theorem hhead_any {n₁ : Nat} {w0 w : World} {sv : Value} {zs : List UInt8} (hB : Byt n₁ w0 sv zs) (hn1 : n₁ ≤ w0.heap.size) (hl : zs.length ≤ 1000000) (hb0 : Below w0.heap.size w0 w) (c A : Nat) (hA : (A : Int) ≤ 9223372036854775807) (hc : w0.heap.size ≤ c) (W0 : Int) (hcur : w.heap[c]? = some (curH sv A W0)) :
    Calls Tryd.prog 35 #[.pointer (some ⟨c, 0, none⟩)] w fun e w' => HRes w c sv A (gtH zs A) e w' := by
  by_cases h : A + 11 ≤ 8 * zs.length
  · exact callsIn_wide.1 (hhead_in 12 (by omega) hB hn1 hl hb0 c A hc W0 hcur h)
  · have e : gtH zs A = badH 5 := by unfold gtH; rw [if_neg (by omega), if_pos (by omega)]
    rw [e]
    exact callsIn_wide.1 (hhead_few 12 (by omega) hB hn1 hl hb0 c A hA hc W0 hcur (by omega))

set_option maxRecDepth 100000 in
set_option maxHeartbeats 2000000 in
theorem hGet_any {n₁ : Nat} {w : World} {sv : Value} {zs : List UInt8} (hB : Byt n₁ w sv zs) (hn1 : n₁ ≤ w.heap.size) (hl : zs.length ≤ 1000000) (x : Int) (hx : x ≤ 9223372036854775807) :
    Calls Tryd.prog 17 #[sv, .int .i64 x] w fun e w' => HeadGot w w' e (gtH zs x) := by
  have hx0 := World.alloc_heap_new w (.cells #[.int .i64 0, .int .i64 0, .slice none 0 0] 24 (0, 0))
  have hb0 : Below w.heap.size w (w.alloc (.cells #[.int .i64 0, .int .i64 0, .slice none 0 0] 24 (0, 0))) := (Below.refl _ w).alloc (Nat.le_refl _) _
  by_cases h0 : x < 0
  · have e : gtH zs x = badH 3 := by unfold gtH; rw [if_pos h0]
    rw [e]
    obtain ⟨a, cap, rfl, _, _⟩ := hB
    obtain ⟨p0, p1, p2⟩ := three_cellsH hx0
    obtain ⟨g0, g1, g2, gl⟩ := three_froz hx0
    have hF := three_set (a' := .int .i64 0) (b' := .int .i64 0) (d' := .slice none 0 0) hx0
    have HF := Lib.hid hF
    have HB0 := Lib.hid hb0
    clear hF hb0
    go_enter Tryd.func17, Tryd.ntmps17
    go_wp2_with fail
    refine bodyPost_ret (v := .tuple #[headV 0 0 (.slice none 0 0), .int .i64 0, .int .i64 3]) (by simp [results, Tryd.f17, go_sem, p0, p1, p2]) rfl ⟨.slice none 0 0, rfl, World.ownsRow_nil _ _ _ _, HB0.out⟩
  · obtain ⟨A, rfl⟩ : ∃ A : Nat, x = A := ⟨x.toNat, by omega⟩
    have hb2 : Below w.heap.size w ((w.alloc (.cells #[.int .i64 0, .int .i64 0, .slice none 0 0] 24 (0, 0))).alloc (curH sv A 0)) := hb0.alloc (by simp) _
    have hc2 : ((w.alloc (.cells #[.int .i64 0, .int .i64 0, .slice none 0 0] 24 (0, 0))).alloc (curH sv A 0)).heap[w.heap.size + 1]? = some (curH sv A 0) := heap_new _ (by simp) _
    have hr2 : ((w.alloc (.cells #[.int .i64 0, .int .i64 0, .slice none 0 0] 24 (0, 0))).alloc (curH sv A 0)).heap[w.heap.size]? = some (.cells #[.int .i64 0, .int .i64 0, .slice none 0 0] 24 (0, 0)) := heap_keep (heap_new _ rfl _) _
    have hz2 : ((w.alloc (.cells #[.int .i64 0, .int .i64 0, .slice none 0 0] 24 (0, 0))).alloc (curH sv A 0)).heap.size = w.heap.size + 2 := by simp
    have HBk := Lib.hid (hhead_any hB hn1 hl hb2 (w.heap.size + 1) A hx (by omega) 0 hc2)
    have hmany : (gtH zs A).err = 0 → 0 ≤ (gtH zs A).many ∧ (A : Int) + (gtH zs A).many ≤ 9223372036854775807 := fun h => by
      obtain ⟨h1, h2, h3⟩ := gtH_stand h
      have h4 := h2.1
      rw [txH_size h1] at h4
      omega
    have hbad : (gtH zs A).err ≠ 0 → gtH zs A = badH (gtH zs A).err := fun h => by
      rcases gtH_err zs A with ⟨h0, _⟩ | h0 | h0
      · exact absurd h0 h
      · rw [h0]; rfl
      · rw [h0]; rfl
    generalize gtH zs (A : Int) = R at *
    have hA0 : (0 : Int) ≤ A := by omega
    obtain ⟨a, cap, rfl, hzl, _⟩ := hB
    by_cases he : R.err = 0
    · obtain ⟨rt, ry, rs, rm, rerr⟩ := R
      simp only at he hmany hbad HBk ⊢
      subst he
      obtain ⟨m1, m2⟩ := hmany rfl
      clear hbad hmany
      go_enter Tryd.func17, Tryd.ntmps17
      go_wp2_with fail
      generalize (w.alloc (.cells #[.int .i64 0, .int .i64 0, .slice none 0 0] 24 (0, 0))).alloc (curH (.slice a zs.length cap) A 0) = w2 at *
      refine HBk.out.mono ?_
      rintro e w3 ⟨v, rfl, hrow, hbar, hcu⟩
      obtain ⟨av, cv, rfl⟩ : ∃ av cv, v = .slice av rs.length cv := by
        rcases id hrow.2 with ⟨rfl, h0⟩ | ⟨g, cap, cur, hv, _⟩
        · exact ⟨none, 0, by rw [h0]⟩
        · exact ⟨_, _, hv⟩
      obtain ⟨m', hcu3⟩ := hcu rfl
      have hr3 := (hbar.block w.heap.size (by omega) (by omega)).trans hr2
      have hsz3 := hbar.size
      have hB3 := hb2.trans (hbar.below (B := w.heap.size) (by omega) (fun k hk e => by omega))
      have hn4 := World.alloc_heap_new w3 (.cells #[.int .i64 rt, .int .i64 ry, .slice av rs.length cv] 24 (0, 0))
      obtain ⟨p0, p1, p2⟩ := three_cellsH hn4
      have hr4 := heap_keep hr3 (.cells #[.int .i64 rt, .int .i64 ry, .slice av rs.length cv] 24 (0, 0))
      obtain ⟨e0, e1, e2⟩ := three_cellsH hr4
      obtain ⟨f0, f1, f2, fl⟩ := three_froz hr4
      obtain ⟨d0, d1, d2⟩ := three_cellsH (heap_keep hcu3 (.cells #[.int .i64 rt, .int .i64 ry, .slice av rs.length cv] 24 (0, 0)))
      have hsz4 : w3.heap.size < (w3.alloc (.cells #[.int .i64 rt, .int .i64 ry, .slice av rs.length cv] 24 (0, 0))).heap.size := by simp
      have HR4 := Lib.hid hr4
      have HRow := Lib.hid (hrow.alloc (.cells #[.int .i64 rt, .int .i64 ry, .slice av rs.length cv] 24 (0, 0)))
      have HB4 := Lib.hid (hB3.alloc (by omega) (.cells #[.int .i64 rt, .int .i64 ry, .slice av rs.length cv] 24 (0, 0)))
      have hwr : IntKind.i64.wrap ((A : Int) + rm - A) = rm := by rw [IntKind.wrap_i64]; omega
      clear hrow hbar hcu hcu3 hr3 hB3 hn4 HBk hr4
      go_wp2_with fail
      generalize w3.alloc (.cells #[.int .i64 rt, .int .i64 ry, .slice av rs.length cv] 24 (0, 0)) = w4 at *
      go_region
      all_goals
        go_wp2
        refine bodyPost_ret (v := .tuple #[headV rt ry (.slice av rs.length cv), .int .i64 rm, .int .i64 0]) (by simp [results, Tryd.f17, go_sem, e0, e1, e2]) rfl ⟨.slice av rs.length cv, rfl, ?_, ?_⟩
        · have hb := Bar.setCell (S := fun k => k = w.heap.size) (Bar.setCell (S := fun k => k = w.heap.size) (Bar.setCell (S := fun k => k = w.heap.size) (Bar.refl (fun k => k = w.heap.size) w4) (p := ⟨w.heap.size, 0, none⟩) (fun _ => rfl) (.int .i64 rt)) (p := ⟨w.heap.size, 1, none⟩) (fun _ => rfl) (.int .i64 ry)) (p := ⟨w.heap.size, 2, none⟩) (fun _ => rfl) (.slice av rs.length cv)
          exact ownsRow_baseN (ownsRow_barN HRow.out (hb.drew) (fun k e => by have := (HRow.out.lt k e).1; omega)) (by omega)
        · exact (((HB4.out.setCell (p := ⟨w.heap.size, 0, none⟩) (Nat.le_refl _) _).setCell (p := ⟨w.heap.size, 1, none⟩) (Nat.le_refl _) _).setCell (p := ⟨w.heap.size, 2, none⟩) (Nat.le_refl _) _).drew
    · have hq : (R.err != 0) = true := by simpa using he
      obtain ⟨er, her⟩ : ∃ er, R.err = er := ⟨_, rfl⟩
      rw [hbad he, her]
      rw [hbad he, her] at HBk
      rw [her] at hq
      clear hbad hmany he her
      show Calls _ _ _ _ fun e w' => ∃ v, e = .returned (.tuple #[headV 0 0 v, .int .i64 0, .int .i64 er]) ∧ w'.ownsRow w.heap.size 5 1 v 0 [] ∧ _
      go_enter Tryd.func17, Tryd.ntmps17
      go_wp2_with fail
      generalize (w.alloc (.cells #[.int .i64 0, .int .i64 0, .slice none 0 0] 24 (0, 0))).alloc (curH (.slice a zs.length cap) A 0) = w2 at *
      refine (show Calls Tryd.prog _ _ _ (fun e w' => ∃ v, e = .returned (.tuple #[headV 0 0 v, .int .i64 er]) ∧ w'.ownsRow w2.heap.size 5 1 v 0 [] ∧ Bar (fun k => k = w.heap.size + 1) w2 w') from HBk.out.mono (fun e w' h => by obtain ⟨v, h1, h2, h3, _⟩ := h; exact ⟨v, h1, h2, h3⟩)).mono ?_
      rintro e w3 ⟨v, rfl, hrow, hbar⟩
      obtain ⟨av, cv, rfl⟩ : ∃ av cv, v = .slice av 0 cv := by
        rcases id hrow.2 with ⟨rfl, h0⟩ | ⟨g, cap, cur, hv, _⟩
        · exact ⟨none, 0, rfl⟩
        · exact ⟨_, _, hv⟩
      have hr3 := (hbar.block w.heap.size (by omega) (by omega)).trans hr2
      have hsz3 := hbar.size
      have hB3 := hb2.trans (hbar.below (B := w.heap.size) (by omega) (fun k hk e => by omega))
      have hr4 := heap_keep hr3 (.cells #[.int .i64 0, .int .i64 0, .slice av 0 cv] 24 (0, 0))
      obtain ⟨e0, e1, e2⟩ := three_cellsH hr4
      obtain ⟨f0, f1, f2, fl⟩ := three_froz hr4
      have HR5 := Lib.hid (three_set (a' := .int .i64 0) (b' := .int .i64 0) (d' := .slice none 0 0) hr4)
      have HB4 := Lib.hid (hB3.alloc (by omega) (.cells #[.int .i64 0, .int .i64 0, .slice av 0 cv] 24 (0, 0)))
      clear hrow hbar hr3 hB3 HBk hr4
      go_wp2_with fail
      generalize w3.alloc (.cells #[.int .i64 0, .int .i64 0, .slice av 0 cv] 24 (0, 0)) = w4 at *
      obtain ⟨q0, q1, q2⟩ := three_cellsH HR5.out
      refine bodyPost_ret (v := .tuple #[headV 0 0 (.slice none 0 0), .int .i64 0, .int .i64 er]) (by simp [results, Tryd.f17, go_sem, q0, q1, q2]) rfl ⟨.slice none 0 0, rfl, World.ownsRow_nil _ _ _ _, ?_⟩
      exact ((HB4.out.setCell (p := ⟨w.heap.size, 0, none⟩) (Nat.le_refl _) _).setCell (p := ⟨w.heap.size, 1, none⟩) (Nat.le_refl _) _).setCell (p := ⟨w.heap.size, 2, none⟩) (Nat.le_refl _) _

end Go.Proofs.YtlcaboddkcpgaaaDoor
