/- The walk of BlockSamples (praxinoscopelaw12). -/
import Derived.Test.YtbcfiafgolcbpaaGreatDoorYLaw
import Derived.Test.YtbcfiafgolcbpaaGreatDoorYCopy
import Derived.Test.YtbcfiafgolcbpaaGreatDoorYRefP
namespace Go.Proofs.YtbcfiafgolcbpaaGreatDoor
open Go.RowKit Go.Shelf
set_option linter.unusedVariables false

theorem residY_len (dc : Int) (ps : List (Int × Int)) (q : Int) (intra : Bool) : (residY dc ps q intra).2.length ≤ 64 := by
  unfold residY
  split
  · simp
  · split
    · simp
    · unfold invR
      split
      · show (ofC 64 _).length ≤ 64
        rw [ofC_length]
        omega
      · simp

set_option maxRecDepth 100000 in
set_option maxHeartbeats 4000000 in
theorem blockSamples_walk (I : BlockI) {av : Option Addr} {len cap : Nat} {ps : List (Int × Int)} {w : World} (hR : RowP w.heap.size w av len cap ps) (dc q : Int) (intra : Bool) (hT : Lay8 w) :
    Calls Tryz.prog 5 #[blkV dc (.slice av len cap), .int .i64 q, .bool intra] w fun e w' => e = .returned (.bool true) ∧ Below w.heap.size w w' := by
  have HT := Lib.hid (fun w' (hb : Below w.heap.size w w') => hT.below hb)
  have hb0 : Below w.heap.size w (w.alloc (.cells #[.int .i64 dc, .slice av len cap] 27 (0, 0))) := (Below.refl _ w).alloc (Nat.le_refl _) _
  obtain ⟨x0, x1⟩ := two_cells w (.int .i64 dc) (.slice av len cap) 27
  have HB0 := Lib.hid hb0
  clear hT
  by_cases h : 80 < len
  · clear hR
    go_enter Tryz.func5, Tryz.ntmps5
    go_wp2_with (go_at_call 10; refine (awake12_any I _ (HT.out _ HB0.out)).mono ?_; rintro e w' ⟨rfl, b3⟩)
    go_ret
    exact ⟨rfl, below_chain HB0.out (Nat.le_refl _) b3⟩
  · have hpl := hR.1
    have HRB := Lib.hid (fun w' (hb : Below w.heap.size w w') => hR.below hb)
    have HCo := Lib.hid (copyBlock_any (hR.below hb0) hb0.size (by omega) dc)
    have hlt0 : w.heap.size < (w.alloc (.cells #[.int .i64 dc, .slice av len cap] 27 (0, 0))).heap.size := by simp
    have hrl := residY_len dc ps q intra
    have HI := Lib.hid (fun n₀ W av len cap (hR : RowP n₀ W av len cap ps) (hn : n₀ ≤ W.heap.size) (hlen : len ≤ 1000000) (hT : Lay8 W) => I.resid hR hn hlen hT dc q intra)
    have HJ := Lib.hid (fun n₀ W av len cap (hR : RowP n₀ W av len cap ps) (hn : n₀ ≤ W.heap.size) (hlen : len ≤ 1000000) => r12resid_any hR hn hlen dc q intra)
    clear hR hb0
    generalize residY dc ps q intra = R at *
    obtain ⟨er, rs⟩ := R
    simp only at hrl
    go_enter Tryz.func5, Tryz.ntmps5
    go_wp2_with fail
    generalize w.alloc (.cells #[.int .i64 dc, .slice av len cap] 27 (0, 0)) = w0 at *
    refine HCo.out.mono ?_
    rintro e w1 ⟨v1, rfl, ho1, b1⟩
    obtain ⟨a1, c1, rfl, hr1⟩ := rowP_own ho1
    have y0 := (b1.cell (p := ⟨w.heap.size, 0, none⟩) hlt0).trans x0
    have y1 := (b1.cell (p := ⟨w.heap.size, 1, none⟩) hlt0).trans x1
    have hba := b1.alloc (o := .cells #[.int .i64 dc, .slice a1 len c1] 27 (0, 0)) b1.size
    have z0 := (World.cell?_alloc_old w1 (.cells #[.int .i64 dc, .slice a1 len c1] 27 (0, 0)) ⟨w.heap.size, 0, none⟩ (by have := b1.size; simp; omega)).trans y0
    have z1 := (World.cell?_alloc_old w1 (.cells #[.int .i64 dc, .slice a1 len c1] 27 (0, 0)) ⟨w.heap.size, 1, none⟩ (by have := b1.size; simp; omega)).trans y1
    obtain ⟨p0, p1⟩ := two_cells w1 (.int .i64 dc) (.slice a1 len c1) 27
    have hs1 : w1.heap.size < (w1.alloc (.cells #[.int .i64 dc, .slice a1 len c1] 27 (0, 0))).heap.size := by simp
    have hs01 := b1.size
    have HO1 := Lib.hid (ho1.alloc (.cells #[.int .i64 dc, .slice a1 len c1] 27 (0, 0)))
    have HB1 := Lib.hid (HB0.out.trans (hba.mono HB0.out.size))
    clear b1 hba y0 y1 x0 x1 ho1 hr1 HCo
    go_wp2_with fail
    generalize w1.alloc (.cells #[.int .i64 dc, .slice a1 len c1] 27 (0, 0)) = w2 at *
    have HR2 : Hid (RowP w2.heap.size w2 a1 len c1 ps) := by
      obtain ⟨a', c', e, hr⟩ := rowP_own HO1.out
      cases e
      exact hr
    refine (HI.out _ w2 _ _ _ HR2.out (Nat.le_refl _) (by omega) (HT.out w2 HB1.out)).mono ?_
    rintro e w3 ⟨va, rfl, hoa, b3⟩
    have u0 := (b3.cell (p := ⟨w.heap.size, 0, none⟩) (by simp; omega)).trans z0
    have u1 := (b3.cell (p := ⟨w.heap.size, 1, none⟩) (by simp; omega)).trans z1
    have t0 := (b3.cell (p := ⟨w1.heap.size, 0, none⟩) hs1).trans p0
    have t1 := (b3.cell (p := ⟨w1.heap.size, 1, none⟩) hs1).trans p1
    have hs3 := b3.size
    have HB3 := Lib.hid (HB1.out.trans (b3.mono HB1.out.size))
    have HO3 := Lib.hid (ownsRow_belowN HO1.out b3)
    have HA3 := Lib.hid hoa
    clear b3 z0 z1 p0 p1 hoa
    go_wp2_with fail
    refine (HJ.out _ w3 _ _ _ (HRB.out w3 HB3.out) HB3.out.size (by omega)).mono ?_
    rintro e w4 ⟨vb, rfl, hob, b4⟩
    have x0 := (b4.cell (p := ⟨w.heap.size, 0, none⟩) (by simp; omega)).trans u0
    have x1 := (b4.cell (p := ⟨w.heap.size, 1, none⟩) (by simp; omega)).trans u1
    have p0 := (b4.cell (p := ⟨w1.heap.size, 0, none⟩) (by simp; omega)).trans t0
    have p1 := (b4.cell (p := ⟨w1.heap.size, 1, none⟩) (by simp; omega)).trans t1
    have hs4 := b4.size
    have HB4 := Lib.hid (HB3.out.trans (b4.mono HB3.out.size))
    have HO4 := Lib.hid (ownsRow_belowN HO3.out b4)
    obtain ⟨ta, hra⟩ := HA3.out
    have HA4 := Lib.hid (ownsRow_belowN hra b4)
    have HSm := Lib.hid (sameInts_any (HA3.out.cellsAt.below b4) hob.cellsAt (by omega) (by omega))
    simp only [decide_true] at HSm
    clear b4 u0 u1 t0 t1 hob hra
    go_wp2_with fail
    refine HSm.out.mono ?_
    rintro e w5 ⟨rfl, b5⟩
    have u0 := (b5.cell (p := ⟨w.heap.size, 0, none⟩) (by simp; omega)).trans x0
    have u1 := (b5.cell (p := ⟨w.heap.size, 1, none⟩) (by simp; omega)).trans x1
    have t0 := (b5.cell (p := ⟨w1.heap.size, 0, none⟩) (by simp; omega)).trans p0
    have t1 := (b5.cell (p := ⟨w1.heap.size, 1, none⟩) (by simp; omega)).trans p1
    have hs5 := b5.size
    have HB5 := Lib.hid (HB4.out.trans (b5.mono HB4.out.size))
    have HO5 := Lib.hid (ownsRow_belowN HO4.out b5)
    have HA5 := Lib.hid (ownsRow_belowN HA4.out b5)
    clear b5 x0 x1 p0 p1
    go_wp2_with fail
    refine (overZ_any HA5.out (by omega)).mono ?_
    rintro e w6 ⟨rfl, b6⟩
    have hl6 : ∀ k, va.ownBlock = some k → w2.heap.size ≤ k := fun k e => (HA5.out.lt k e).1
    have b6b : Below w2.heap.size w5 w6 := b6.below (by omega) (fun k hk e => by have := hl6 k e; omega)
    have x0 := (b6b.cell (p := ⟨w.heap.size, 0, none⟩) (by simp; omega)).trans u0
    have x1 := (b6b.cell (p := ⟨w.heap.size, 1, none⟩) (by simp; omega)).trans u1
    have p0 := (b6b.cell (p := ⟨w1.heap.size, 0, none⟩) hs1).trans t0
    have p1 := (b6b.cell (p := ⟨w1.heap.size, 1, none⟩) hs1).trans t1
    have hs6 := b6.size
    have HB6 := Lib.hid (HB5.out.trans (b6b.mono HB1.out.size))
    have HO6 := Lib.hid (ownsRow_barN HO5.out b6 (fun k e e' => by have := hl6 k e'; have := (HO1.out.lt k e).2; omega))
    have HSb := Lib.hid (sameBlock_any (cellsP_own HO6.out) (HRB.out w6 HB6.out).cellsP (by omega) (by omega) dc dc)
    simp only [beq_self_eq_true, decide_true, Bool.and_self] at HSb
    clear b6 b6b u0 u1 t0 t1
    go_wp2_with fail
    refine HSb.out.mono ?_
    rintro e w7 ⟨rfl, b7⟩
    have HB7 := Lib.hid (below_chain HB6.out (Nat.le_refl _) b7)
    clear b7
    go_wp2_with (go_at_call 10; refine (awake12_any I w7 (HT.out w7 HB7.out)).mono ?_; rintro e w' ⟨rfl, b8⟩)
    go_ret
    exact ⟨rfl, below_chain HB7.out (Nat.le_refl _) b8⟩

end Go.Proofs.YtbcfiafgolcbpaaGreatDoor
