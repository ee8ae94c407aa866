/- The walk of BlockGets (praxinoscopelaw12). -/
import Derived.Test.YtbcfiafgolcbpaaGreatDoorYLaw
import Derived.Test.YtbcfiafgolcbpaaGreatDoorYCopy
import Derived.Test.YtbcfiafgolcbpaaGreatDoorYRefG
namespace Go.Proofs.YtbcfiafgolcbpaaGreatDoor
open Go.RowKit Go.Shelf
set_option linter.unusedVariables false

theorem pairsY_len (zs : List UInt8) (A : Nat) (dc : Int) : ∀ (f bits : Nat) (first : Bool) (place : Nat) (acc : List (Int × Int)), (pairsY zs A dc f bits first place acc).ps.length ≤ acc.length + f
  | 0, bits, first, place, acc => Nat.zero_le _
  | f + 1, bits, first, place, acc => by
    unfold pairsY
    split
    · exact Nat.zero_le _
    · split
      · show acc.length ≤ _
        omega
      · split
        · exact Nat.zero_le _
        · have := pairsY_len zs A dc f (bits + (got first zs ((A + bits : Nat) : Int)).many.toNat) false (place + (got first zs ((A + bits : Nat) : Int)).run.toNat + 1) (acc ++ [((got first zs ((A + bits : Nat) : Int)).run, (got first zs ((A + bits : Nat) : Int)).level)])
          simp only [List.length_append, List.length_cons, List.length_nil] at this
          omega
theorem gotY_len (zs : List UInt8) (x : Int) (intra : Bool) : (gotY zs x intra).ps.length ≤ 1000 := by
  unfold gotY
  split
  · exact Nat.zero_le _
  · split
    · split
      · exact Nat.zero_le _
      · split
        · exact Nat.zero_le _
        · have := pairsY_len zs x.toNat (num zs x.toNat 8 : Nat) 65 8 false 1 []
          simp only [List.length_nil] at this
          omega
    · have := pairsY_len zs x.toNat 0 65 0 true 0 []
      simp only [List.length_nil] at this
      omega
theorem Lent.lt {base : Nat} {w : World} {v : Value} {zs : List UInt8} (h : Lent base w v zs) : ∀ k, v.ownBlock = some k → k < w.heap.size := by
  obtain ⟨g, cap, rfl, hg, hr⟩ := h
  exact fun k e => (hr.lt k (by simpa [Value.ownBlock] using e)).2

set_option maxRecDepth 100000 in
set_option maxHeartbeats 4000000 in
theorem blockGets_walk (I : BlockI) {a : Option Addr} {len cap : Nat} {zs : List UInt8} {w : World} (hR : Row8 w.heap.size w a len cap zs) (x : Int) (intra : Bool) (hx : x ≤ 9223372036854775807) (hT : Lay8 w) :
    Calls Tryz.prog 3 #[.slice a len cap, .int .i64 x, .bool intra] w fun e w' => e = .returned (.bool true) ∧ Below w.heap.size w w' := by
  have HT := Lib.hid (fun w' (hb : Below w.heap.size w w') => hT.below hb)
  clear hT
  by_cases h : 200 < len
  · clear hR
    go_enter Tryz.func3, Tryz.ntmps3
    go_wp2_with (go_at_call 10; refine (awake12_any I w (HT.out w (Below.refl _ _))).mono ?_; rintro e w' ⟨rfl, b3⟩)
    go_ret
    exact ⟨rfl, b3⟩
  · have hl := hR.1
    subst hl
    have HSrc : Hid (Src w a zs.length (u8s zs)) := by
      have h := hR.src (n := zs.length) (Nat.le_refl _)
      rw [List.take_length] at h
      exact h
    have HB : Hid (∀ w', Below w.heap.size w w' → Byt w.heap.size w' (.slice a zs.length cap) zs) := fun w' hb => by
      have h := hR.byt (Nat.le_refl _) (k := zs.length) (Nat.le_refl _) (by omega)
      rw [List.take_length] at h
      exact h.below hb
    have HNc := Lib.hid hR.nocap
    have HG0 := Lib.hid (fun (n₁ : Nat) (W : World) (sv : Value) (hB : Byt n₁ W sv zs) (hn : n₁ ≤ W.heap.size) (hT : Lay8 W) => I.get hB hn (by omega) hT x intra hx)
    have HR0 := Lib.hid (fun (n₁ : Nat) (W : World) (sv : Value) (hB : Byt n₁ W sv zs) (hn : n₁ ≤ W.heap.size) => r12get_any hB hn (by omega) x intra hx)
    have hps : (gotY zs x intra).ps.length ≤ 1000 := gotY_len zs x intra
    clear hR
    generalize gotY zs x intra = R at *
    obtain ⟨dc, ps, many, er⟩ := R
    simp only at hps
    go_enter Tryz.func3, Tryz.ntmps3
    go_wp2_with fail
    refine (lent_any HSrc.out HNc.out (by omega)).mono ?_
    rintro e w1 ⟨vi, rfl, hLe, b1⟩
    have HLe := Lib.hid hLe
    have HLt := Lib.hid hLe.lt
    have HB1 := Lib.hid b1
    have HG := Lib.hid (HG0.out _ _ _ (hLe.byt (by omega)) (Nat.le_refl _) (HT.out w1 b1))
    clear hLe b1
    go_wp2_with fail
    refine HG.out.mono ?_
    rintro e w2 ⟨v2, rfl, ho2, b2⟩
    obtain ⟨a2, c2, rfl, _⟩ := rowP_own ho2
    simp only at ho2 ⊢
    have b2' := b2.alloc (o := .cells #[.int .i64 dc, .slice a2 ps.length c2] 27 (0, 0)) b2.size
    have HB2 := Lib.hid (below_chain HB1.out (Nat.le_refl _) b2')
    have HLe2 := Lib.hid (HLe.out.bar (bar_of_below (S := fun _ => False) b2') (fun _ _ e => e))
    obtain ⟨y0, y1⟩ := two_cells w2 (.int .i64 dc) (.slice a2 ps.length c2) 27
    have hs2 : w2.heap.size < (w2.alloc (.cells #[.int .i64 dc, .slice a2 ps.length c2] 27 (0, 0))).heap.size := by simp
    have HO2 := Lib.hid (ho2.alloc (.cells #[.int .i64 dc, .slice a2 ps.length c2] 27 (0, 0)))
    have hs12 := b2.size
    clear b2 b2' HG ho2
    have HG2 := Lib.hid (HR0.out _ _ _ (HB.out _ HB2.out) HB2.out.size)
    go_wp2_with fail
    generalize w2.alloc (.cells #[.int .i64 dc, .slice a2 ps.length c2] 27 (0, 0)) = w2' at *
    refine HG2.out.mono ?_
    rintro e w3 ⟨v3, rfl, ho3, b3⟩
    obtain ⟨a3, c3, rfl, _⟩ := rowP_own ho3
    simp only at ho3 ⊢
    have b3' := b3.alloc (o := .cells #[.int .i64 dc, .slice a3 ps.length c3] 27 (0, 0)) b3.size
    have HB3 := Lib.hid (below_chain HB2.out (Nat.le_refl _) b3')
    have HLe3 := Lib.hid (HLe2.out.bar (bar_of_below (S := fun _ => False) b3') (fun _ _ e => e))
    have u0 := (b3'.cell (p := ⟨w2.heap.size, 0, none⟩) (by simp; omega)).trans y0
    have u1 := (b3'.cell (p := ⟨w2.heap.size, 1, none⟩) (by simp; omega)).trans y1
    obtain ⟨v0, v1⟩ := two_cells w3 (.int .i64 dc) (.slice a3 ps.length c3) 27
    have HO2b := Lib.hid (ownsRow_belowN HO2.out b3')
    have HO3 := Lib.hid (ho3.alloc (.cells #[.int .i64 dc, .slice a3 ps.length c3] 27 (0, 0)))
    have hs3 : w3.heap.size < (w3.alloc (.cells #[.int .i64 dc, .slice a3 ps.length c3] 27 (0, 0))).heap.size := by simp
    have hs23 := b3'.size
    clear b3 b3' HG2 y0 y1 ho3
    go_wp2_with fail
    generalize w3.alloc (.cells #[.int .i64 dc, .slice a3 ps.length c3] 27 (0, 0)) = w3' at *
    have HSm := Lib.hid (sameBlock_any (cellsP_own HO2b.out) (cellsP_own HO3.out) (by omega) (by omega) dc dc)
    simp only [beq_self_eq_true, decide_true, Bool.and_self] at HSm
    refine HSm.out.mono ?_
    rintro e w4 ⟨rfl, b4⟩
    have HB4 := Lib.hid (below_chain HB3.out (Nat.le_refl _) b4)
    have HLe4 := Lib.hid (HLe3.out.bar (bar_of_below (S := fun _ => False) b4) (fun _ _ e => e))
    have HO4 := Lib.hid (ownsRow_belowN HO2b.out b4)
    have t0 := (b4.cell (p := ⟨w2.heap.size, 0, none⟩) (by simp; omega)).trans u0
    have t1 := (b4.cell (p := ⟨w2.heap.size, 1, none⟩) (by simp; omega)).trans u1
    have hs4 := b4.size
    clear b4 u0 u1 v0 v1
    go_wp2_with fail
    refine (over12_any HO4.out (by omega) dc).mono ?_
    rintro e w5 ⟨rfl, b5⟩
    have hl5 : ∀ k, (Value.slice a2 ps.length c2).ownBlock = some k → w1.heap.size ≤ k := fun k e => (HO4.out.lt k e).1
    have HB5 := Lib.hid (HB4.out.trans (b5.below (B := w.heap.size) HB4.out.size (fun k hk e => by have := hl5 k e; have := HB1.out.size; omega)))
    have HLe5 := Lib.hid (HLe4.out.bar b5 (fun k e e' => by have := hl5 k e'; have := HLt.out k e; omega))
    clear b5 t0 t1
    go_wp2_with fail
    refine (kept_any HLe5.out (HB.out _ HB5.out) (by omega)).mono ?_
    rintro e w6 ⟨rfl, b6⟩
    have HB6 := Lib.hid (below_chain HB5.out (Nat.le_refl _) b6)
    clear b6
    go_wp2_with (go_at_call 10; refine (awake12_any I w6 (HT.out w6 HB6.out)).mono ?_; rintro e w' ⟨rfl, b7⟩)
    go_ret
    exact ⟨rfl, below_chain HB6.out (Nat.le_refl _) b7⟩

end Go.Proofs.YtbcfiafgolcbpaaGreatDoor
