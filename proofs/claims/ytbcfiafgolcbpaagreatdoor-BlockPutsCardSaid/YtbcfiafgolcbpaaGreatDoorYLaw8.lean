/- The walk of BlockPuts (praxinoscopelaw12). -/
import Derived.Test.YtbcfiafgolcbpaaGreatDoorYLaw
import Derived.Test.YtbcfiafgolcbpaaGreatDoorYCopy
import Derived.Test.YtbcfiafgolcbpaaGreatDoorYRefP
import Derived.Lib.QuietBelow
namespace Go.Proofs.YtbcfiafgolcbpaaGreatDoor
open Go.RowKit Go.Shelf Go.Sort
set_option linter.unusedVariables false
attribute [local go_sem] Oper.semAt_some

theorem levelsY_len (dc : Int) (ps : List (Int × Int)) (intra : Bool) : (levelsY dc ps intra).2.length ≤ 64 := by
  unfold levelsY
  split
  · simp
  · exact spr_len_le ps _ zeros64 (by decide)

set_option maxRecDepth 100000 in
set_option maxHeartbeats 4000000 in
theorem blockPuts_walk (I : BlockI) {av : Option Addr} {len cap : Nat} {ps : List (Int × Int)} {w : World} (hR : RowP w.heap.size w av len cap ps) (dc : Int) (intra : Bool) (hT : Lay8 w) :
    Calls Tryz.prog 4 #[blkV dc (.slice av len cap), .bool intra] w fun e w' => e = .returned (.bool true) ∧ Below w.heap.size w w' := by
  have HT := Lib.hid (fun w' (hb : Below w.heap.size w w') => hT.below hb)
  have hb0 : Below w.heap.size w (w.alloc (.cells #[.int .i64 dc, .slice av len cap] 27 (0, 0))) := (Below.refl _ w).alloc (Nat.le_refl _) _
  obtain ⟨x0, x1⟩ := two_cells w (.int .i64 dc) (.slice av len cap) 27
  have HB0 := Lib.hid hb0
  clear hT
  by_cases h : 80 < len
  · clear hR
    go_enter Tryz.func4, Tryz.ntmps4
    go_wp2_with (go_at_call 10; refine (awake12_any I _ (HT.out _ HB0.out)).mono ?_; rintro e w' ⟨rfl, b3⟩)
    go_ret
    exact ⟨rfl, below_chain HB0.out (Nat.le_refl _) b3⟩
  · have hpl := hR.1
    have HRB := Lib.hid (fun w' (hb : Below w.heap.size w w') => hR.below hb)
    have HCo := Lib.hid (copyBlock_any (hR.below hb0) hb0.size (by omega) dc)
    have hlt0 : w.heap.size < (w.alloc (.cells #[.int .i64 dc, .slice av len cap] 27 (0, 0))).heap.size := by simp
    have hrl := levelsY_len dc ps intra
    have HPu := Lib.hid (fun n₀ W av len cap (hR : RowP n₀ W av len cap ps) (hn : n₀ ≤ W.heap.size) (hlen : len ≤ 1000000) (hT : Lay8 W) => I.put hR hn hlen hT dc intra)
    have HPr := Lib.hid (fun n₀ W av len cap (hR : RowP n₀ W av len cap ps) (hn : n₀ ≤ W.heap.size) (hlen : len ≤ 1000000) => r12put_any hR hn hlen dc intra)
    have HLu := Lib.hid (fun n₀ W av len cap (hR : RowP n₀ W av len cap ps) (hn : n₀ ≤ W.heap.size) (hlen : len ≤ 1000000) (hT : Lay8 W) => I.levels hR hn hlen hT dc intra)
    have HLr := Lib.hid (fun n₀ W av len cap (hR : RowP n₀ W av len cap ps) (hn : n₀ ≤ W.heap.size) (hlen : len ≤ 1000000) => r12levels_any hR hn hlen dc intra)
    have HCu := Lib.hid (fun n₀ W av len cap (hR : RowP n₀ W av len cap ps) (hn : n₀ ≤ W.heap.size) (hlen : len ≤ 1000000) (hT : Lay8 W) => I.check hR hn hlen hT dc intra)
    have HCr := Lib.hid (fun n₀ W av len cap (hR : RowP n₀ W av len cap ps) (hn : n₀ ≤ W.heap.size) (hlen : len ≤ 1000000) => r12check_any hR hn hlen dc intra)
    clear hR hb0
    generalize levelsY dc ps intra = R at *
    obtain ⟨er, rs⟩ := R
    simp only at hrl
    generalize (if chkY dc ps intra = 0 then putTY dc ps intra else (⟨#[]⟩ : ByteArray)) = T at *
    generalize chkY dc ps intra = ck at *
    go_enter Tryz.func4, Tryz.ntmps4
    go_wp2_with fail
    generalize w.alloc (.cells #[.int .i64 dc, .slice av len cap] 27 (0, 0)) = w0 at *
    refine HCo.out.mono ?_
    rintro e w1 ⟨v1, rfl, ho1, b1⟩
    obtain ⟨a1, c1, rfl, hr1⟩ := rowP_own ho1
    have y0 := (b1.cell (p := ⟨w.heap.size, 0, none⟩) hlt0).trans x0
    have y1 := (b1.cell (p := ⟨w.heap.size, 1, none⟩) hlt0).trans x1
    have hba := b1.alloc (o := .cells #[.int .i64 dc, .slice a1 len c1] 27 (0, 0)) b1.size
    have z0 := (World.cell?_alloc_old w1 (.cells #[.int .i64 dc, .slice a1 len c1] 27 (0, 0)) ⟨w.heap.size, 0, none⟩ (by have := b1.size; simp; omega)).trans y0
    have z1 := (World.cell?_alloc_old w1 (.cells #[.int .i64 dc, .slice a1 len c1] 27 (0, 0)) ⟨w.heap.size, 1, none⟩ (by have := b1.size; simp; omega)).trans y1
    obtain ⟨p0, p1⟩ := two_cells w1 (.int .i64 dc) (.slice a1 len c1) 27
    have hs1 : w1.heap.size < (w1.alloc (.cells #[.int .i64 dc, .slice a1 len c1] 27 (0, 0))).heap.size := by simp
    have hs01 := b1.size
    have HO1 := Lib.hid (ho1.alloc (.cells #[.int .i64 dc, .slice a1 len c1] 27 (0, 0)))
    have HB1 := Lib.hid (HB0.out.trans (hba.mono HB0.out.size))
    clear b1 hba y0 y1 x0 x1 ho1 hr1 HCo
    go_wp2_with fail
    generalize w1.alloc (.cells #[.int .i64 dc, .slice a1 len c1] 27 (0, 0)) = w2 at *
    have HR2 : Hid (RowP w2.heap.size w2 a1 len c1 ps) := by
      obtain ⟨a', c', e, hr⟩ := rowP_own HO1.out
      cases e
      exact hr
    refine (HPu.out _ w2 _ _ _ HR2.out (Nat.le_refl _) (by omega) (HT.out w2 HB1.out)).mono ?_
    rintro e w3 ⟨rfl, b3⟩
    have u0 := (b3.cell (p := ⟨w.heap.size, 0, none⟩) (by simp; omega)).trans z0
    have u1 := (b3.cell (p := ⟨w.heap.size, 1, none⟩) (by simp; omega)).trans z1
    have t0 := (b3.cell (p := ⟨w1.heap.size, 0, none⟩) (by simp; omega)).trans p0
    have t1 := (b3.cell (p := ⟨w1.heap.size, 1, none⟩) (by simp; omega)).trans p1
    have hs3 := b3.size
    have HB3 := Lib.hid (HB1.out.trans (b3.mono HB1.out.size))
    have HO3 := Lib.hid (ownsRow_belowN HO1.out b3)
    have HR3 := Lib.hid (HR2.out.mono (show w2.heap.size ≤ w2.heap.size from Nat.le_refl _) |>.below (b3.mono (by omega)))
    clear b3 z0 z1 p0 p1
    go_wp2_with fail
    refine (HPr.out _ w3 _ _ _ (HRB.out w3 HB3.out) HB3.out.size (by omega)).mono ?_
    rintro e w4 ⟨rfl, b4⟩
    have z0 := (b4.cell (p := ⟨w.heap.size, 0, none⟩) (by simp; omega)).trans u0
    have z1 := (b4.cell (p := ⟨w.heap.size, 1, none⟩) (by simp; omega)).trans u1
    have p0 := (b4.cell (p := ⟨w1.heap.size, 0, none⟩) (by simp; omega)).trans t0
    have p1 := (b4.cell (p := ⟨w1.heap.size, 1, none⟩) (by simp; omega)).trans t1
    have hs4 := b4.size
    have HB4 := Lib.hid (HB3.out.trans (b4.mono HB3.out.size))
    have HO4 := Lib.hid (ownsRow_belowN HO3.out b4)
    have HR4 := Lib.hid (HR3.out.mono (show w2.heap.size ≤ w2.heap.size from Nat.le_refl _) |>.below (b4.mono (by omega)))
    clear b4 u0 u1 t0 t1
    go_wp2_with fail
    refine (HLu.out _ w4 _ _ _ HR4.out (by omega) (by omega) (HT.out w4 HB4.out)).mono ?_
    rintro e w5 ⟨va, rfl, hoa, b5⟩
    have u0 := (b5.cell (p := ⟨w.heap.size, 0, none⟩) (by simp; omega)).trans z0
    have u1 := (b5.cell (p := ⟨w.heap.size, 1, none⟩) (by simp; omega)).trans z1
    have t0 := (b5.cell (p := ⟨w1.heap.size, 0, none⟩) (by simp; omega)).trans p0
    have t1 := (b5.cell (p := ⟨w1.heap.size, 1, none⟩) (by simp; omega)).trans p1
    have hs5 := b5.size
    have HB5 := Lib.hid (HB4.out.trans (b5.mono HB4.out.size))
    have HO5 := Lib.hid (ownsRow_belowN HO4.out b5)
    have HR5 := Lib.hid (HR4.out.mono (show w2.heap.size ≤ w2.heap.size from Nat.le_refl _) |>.below (b5.mono (by omega)))
    have HA5 := Lib.hid hoa
    clear hoa
    clear b5 z0 z1 p0 p1
    go_wp2_with fail
    refine (HLr.out _ w5 _ _ _ (HRB.out w5 HB5.out) HB5.out.size (by omega)).mono ?_
    rintro e w6 ⟨vb, rfl, hob, b6⟩
    have z0 := (b6.cell (p := ⟨w.heap.size, 0, none⟩) (by simp; omega)).trans u0
    have z1 := (b6.cell (p := ⟨w.heap.size, 1, none⟩) (by simp; omega)).trans u1
    have p0 := (b6.cell (p := ⟨w1.heap.size, 0, none⟩) (by simp; omega)).trans t0
    have p1 := (b6.cell (p := ⟨w1.heap.size, 1, none⟩) (by simp; omega)).trans t1
    have hs6 := b6.size
    have HB6 := Lib.hid (HB5.out.trans (b6.mono HB5.out.size))
    have HO6 := Lib.hid (ownsRow_belowN HO5.out b6)
    have HR6 := Lib.hid (HR5.out.mono (show w2.heap.size ≤ w2.heap.size from Nat.le_refl _) |>.below (b6.mono (by omega)))
    obtain ⟨ta, hra⟩ := HA5.out
    have HA6 := Lib.hid (ownsRow_belowN hra b6)
    have HSm := Lib.hid (fun W (hb : Below w6.heap.size w6 W) => sameInts_any ((HA5.out.cellsAt.below b6).below hb) (hob.cellsAt.below hb) (by omega) (by omega))
    simp only [decide_true] at HSm
    clear hob hra
    clear b6 u0 u1 t0 t1
    have k0 := cell_regrown z0
    have k1 := cell_regrown z1
    have l0 := cell_regrown p0
    have l1 := cell_regrown p1
    have hTr : ∀ d os, Lay8 (grow (redrawn w6 d) os) := fun d os => HT.out _ (HB6.out.trans ((below_regrown w6 d os).mono HB6.out.size))
    have hsr : ∀ d os, w6.heap.size ≤ (grow (redrawn w6 d) os).heap.size := fun d os => (below_regrown w6 d os).size
    have C1 : ∀ d os, Calls Tryz.prog 22 #[va, vb] (grow (redrawn w6 d) os) fun e w'' => e = .returned (.bool true) ∧ ∃ p : Regrown, w'' = grow (redrawn w6 p.d) p.os := fun d os => Calls.regrown_of (HSm.out _ (below_regrown w6 d os))
    have C2 : ∀ d os, Calls Tryz.prog 23 #[blkV dc (.slice a1 len c1), .bool intra] (grow (redrawn w6 d) os) fun e w'' => e = .returned (.int .i64 ck) ∧ ∃ p : Regrown, w'' = grow (redrawn w6 p.d) p.os := fun d os => Calls.regrown_of (HCu.out _ _ _ _ _ (HR6.out.below ((below_regrown w6 d os).mono (by omega))) (by have := hsr d os; omega) (by omega) (hTr d os))
    have C3 : ∀ d os, Calls Tryz.prog 24 #[blkV dc (.slice av len cap), .bool intra] (grow (redrawn w6 d) os) fun e w'' => e = .returned (.int .i64 ck) ∧ ∃ p : Regrown, w'' = grow (redrawn w6 p.d) p.os := fun d os => Calls.regrown_of (HCr.out _ _ _ _ _ (HRB.out _ (HB6.out.trans ((below_regrown w6 d os).mono HB6.out.size))) (by have := hsr d os; have := HB6.out.size; omega) (by omega))
    clear HPu HPr HLu HLr HCu HCr HSm hTr hsr
    go_wp2
    refine wp_region_quiet_below (by kernel_rfl) (by kernel_rfl) ?_
    iterate 12 quiet_step ((go_at_call 22; exact C1 _ _))
    iterate 10 quiet_step ((go_at_call 23; exact C2 _ _))
    iterate 6 quiet_step ((go_at_call 24; exact C3 _ _))
    refine wpQuiet_nil ?_
    rintro _ ⟨⟨dq, osq⟩, rfl⟩
    have b7 := below_regrown w6 dq osq
    clear C1 C2 C3 k0 k1 l0 l1
    generalize grow (redrawn w6 dq) osq = w7 at *
    have u0 := (b7.cell (p := ⟨w.heap.size, 0, none⟩) (by simp; omega)).trans z0
    have u1 := (b7.cell (p := ⟨w.heap.size, 1, none⟩) (by simp; omega)).trans z1
    have t0 := (b7.cell (p := ⟨w1.heap.size, 0, none⟩) (by simp; omega)).trans p0
    have t1 := (b7.cell (p := ⟨w1.heap.size, 1, none⟩) (by simp; omega)).trans p1
    have hs7 := b7.size
    have HB7 := Lib.hid (HB6.out.trans (b7.mono HB6.out.size))
    have HO7 := Lib.hid (ownsRow_belowN HO6.out b7)
    have HA7 := Lib.hid (ownsRow_belowN HA6.out b7)
    clear b7 z0 z1 p0 p1
    go_wp2_with fail
    refine (overZ_any HA7.out (by omega)).mono ?_
    rintro e w8 ⟨rfl, b8⟩
    have hl8 : ∀ k, va.ownBlock = some k → w4.heap.size ≤ k := fun k e => (HA7.out.lt k e).1
    have b8b : Below w4.heap.size w7 w8 := b8.below (by omega) (fun k hk e => by have := hl8 k e; omega)
    have z0 := (b8b.cell (p := ⟨w.heap.size, 0, none⟩) (by simp; omega)).trans u0
    have z1 := (b8b.cell (p := ⟨w.heap.size, 1, none⟩) (by simp; omega)).trans u1
    have p0 := (b8b.cell (p := ⟨w1.heap.size, 0, none⟩) (by simp; omega)).trans t0
    have p1 := (b8b.cell (p := ⟨w1.heap.size, 1, none⟩) (by simp; omega)).trans t1
    have hs8 := b8.size
    have HB8 := Lib.hid (HB7.out.trans (b8b.mono (by have := HB1.out.size; omega)))
    have HO8 := Lib.hid (ownsRow_barN HO7.out b8 (fun k e e' => by have := hl8 k e'; have := (HO1.out.lt k e).2; omega))
    have HSb := Lib.hid (sameBlock_any (cellsP_own HO8.out) (HRB.out w8 HB8.out).cellsP (by omega) (by omega) dc dc)
    simp only [beq_self_eq_true, decide_true, Bool.and_self] at HSb
    clear b8 b8b u0 u1 t0 t1
    go_wp2_with fail
    refine HSb.out.mono ?_
    rintro e w9 ⟨rfl, b9⟩
    have HB9 := Lib.hid (below_chain HB8.out (Nat.le_refl _) b9)
    clear b9
    go_wp2_with (go_at_call 10; refine (awake12_any I w9 (HT.out w9 HB9.out)).mono ?_; rintro e w' ⟨rfl, b8⟩)
    go_ret
    exact ⟨rfl, below_chain HB9.out (Nat.le_refl _) b8⟩

end Go.Proofs.YtbcfiafgolcbpaaGreatDoor
