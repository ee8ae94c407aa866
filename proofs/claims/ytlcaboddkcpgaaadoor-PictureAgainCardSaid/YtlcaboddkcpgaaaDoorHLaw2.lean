/- picture: the walk of PictureTells (praxinoscopelaw17). -/
import Derived.Test.YtlcaboddkcpgaaaDoorHLaw
namespace Go.Proofs.YtlcaboddkcpgaaaDoor
open Go.RowKit Go.Shelf Go.Sort
set_option linter.unusedVariables false

theorem cells_set2 {w : World} {g : Nat} {a b c : Value} {t : TypeId} (h : w.heap[g]? = some (.cells #[a, b, c] t (0, 0))) (v : Value) : (w.setCell ⟨g, 2, none⟩ v).heap[g]? = some (.cells #[a, b, v] t (0, 0)) := by
  have := heap_setCell_same w g 2 _ _ v h
  rw [this]
  rfl

set_option maxRecDepth 100000 in
set_option maxHeartbeats 1000000 in
theorem tells17_walk (I : PictureI) (t y : Int) (ht : I64 t) (hy : I64 y) {w : World} {ra : Option Addr} {len cap : Nat} {zs : List UInt8} (hT : Tab2 w) (hR : Row8 w.heap.size w ra len cap zs) :
    Calls Tryd.prog 3 #[headV t y (.slice ra len cap)] w fun e w' => e = .returned (.bool true) ∧ Below w.heap.size w w' := by
  have HAw := Lib.hid (fun W (hW : Below w.heap.size w W) => awake17_any I W (hT.below hW))
  have hzl : zs.length = len := hR.1
  have hb0 : Below w.heap.size w (w.alloc (.cells #[.int .i64 t, .int .i64 y, .slice ra len cap] 24 (0, 0))) := (Below.refl _ w).alloc (Nat.le_refl _) _
  have hx0 := World.alloc_heap_new w (.cells #[.int .i64 t, .int .i64 y, .slice ra len cap] 24 (0, 0))
  have HB0 := Lib.hid hb0
  by_cases hl : 60 < len
  · have q1 : (60 : Int) < (len : Int) := by omega
    clear hR hzl
    go_enter Tryd.func3, Tryd.ntmps3
    go_wp2_with fail
    refine (HAw.out _ HB0.out).mono ?_
    rintro e w2 ⟨rfl, hb⟩
    have hB := HB0.out.trans (hb.mono HB0.out.size)
    clear hb
    go_wp2_with fail
    go_ret
    exact ⟨rfl, hB⟩
  · have q1 : ¬ (60 : Int) < (len : Int) := by omega
    have HBy : Hid (∀ W', Below w.heap.size w W' → Byt w.heap.size W' (.slice ra len cap) zs) := fun W' hb => Byt.below hb (row8_byt17 hR (by omega))
    have HSr : Hid (∀ W', Below w.heap.size w W' → Src W' ra zs.length (u8s zs)) := fun W' hb => by
      have := (hR.later hb).src (n := len) (Nat.le_refl _)
      rwa [List.take_of_length_le (by omega), ← hzl] at this
    have HNc := Lib.hid hR.nocap
    have hkv : Capped (.slice ra len cap) := ⟨_, _, _, rfl, hR.2.1⟩
    have HKv := Lib.hid hkv
    clear hR hkv
    have HZl := Lib.hid hzl
    obtain ⟨w0, hw0⟩ : ∃ w0, w.alloc (.cells #[.int .i64 t, .int .i64 y, .slice ra len cap] 24 (0, 0)) = w0 := ⟨_, rfl⟩
    have hz0 : w0.heap.size = w.heap.size + 1 := by rw [← hw0]; simp
    rw [hw0] at hb0 hx0
    obtain ⟨d0, d1, d2⟩ := three_cells hx0
    clear HB0
    go_enter Tryd.func3, Tryd.ntmps3
    go_wp2_with fail
    obtain ⟨w1, hw1⟩ : ∃ w1, w0.alloc (.cells #[.int .i64 t, .int .i64 y, .slice ra len cap] 24 (0, 0)) = w1 := ⟨_, rfl⟩
    have hb1 : Below w.heap.size w w1 := by rw [← hw1]; exact hb0.alloc hb0.size _
    have hx1 : w1.heap[w.heap.size]? = some (.cells #[.int .i64 t, .int .i64 y, .slice ra len cap] 24 (0, 0)) := by rw [← hw1]; exact heap_keep hx0 _
    have hx1b : w1.heap[w0.heap.size]? = some (.cells #[.int .i64 t, .int .i64 y, .slice ra len cap] 24 (0, 0)) := by rw [← hw1]; exact World.alloc_heap_new w0 _
    rw [hz0] at hx1b
    have hz1 : w1.heap.size = w.heap.size + 2 := by rw [← hw1]; simp; omega
    rw [hw1]
    have HLt := Lib.hid (lent_any (w := w1) (cap := cap) (HSr.out w1 hb1) HNc.out (by omega))
    rw [hzl] at HLt
    refine HLt.out.mono ?_
    rintro e w2 ⟨lv, rfl, hLn, hb⟩
    have hx2 := (hb.block _ (by omega)).trans hx1
    have hx2b := (hb.block _ (by omega)).trans hx1b
    have hB2 := hb1.trans (hb.mono hb1.size)
    have hlk := capped_lent hLn
    obtain ⟨g, cg, rfl, hg, hlg, hrow⟩ := id hLn
    have hL3 : Lent w1.heap.size (w2.setCell ⟨(w.heap.size + 1), 2, none⟩ (.slice (some ⟨g, 0, none⟩) zs.length cg)) (.slice (some ⟨g, 0, none⟩) zs.length cg) zs := hLn.bar (S := fun k => k = (w.heap.size + 1)) ((Bar.refl (fun k => k = (w.heap.size + 1)) w2).setCell (p := ⟨(w.heap.size + 1), 2, none⟩) (fun _ => rfl) _) (fun k e e2 => by
      simp [Value.ownBlock] at e
      omega)
    have hx3 := (heap_setCell_other w2 ⟨(w.heap.size + 1), 2, none⟩ w.heap.size (.slice (some ⟨g, 0, none⟩) zs.length cg) (by show w.heap.size ≠ (w.heap.size + 1); omega)).trans hx2
    have hx3b := cells_set2 hx2b (.slice (some ⟨g, 0, none⟩) zs.length cg)
    have hB3 := hB2.setCell (p := ⟨(w.heap.size + 1), 2, none⟩) (by show w.heap.size ≤ (w.heap.size + 1); omega) (.slice (some ⟨g, 0, none⟩) zs.length cg)
    obtain ⟨c0, c1, c2⟩ := three_cells hx2b
    have f2 : w2.frozen? ⟨(w.heap.size + 1), 2, none⟩ = false := by simp [World.frozen?, hx2b]
    obtain ⟨g0, g1, g2⟩ := three_cells hx3
    obtain ⟨g3, g4, g5⟩ := three_cells hx3b
    have HL3 := Lib.hid hL3
    have HB3 := Lib.hid hB3
    clear hb hx0 hx1 hx1b hx2 hx2b hB2 hb1 hLn hL3 hB3 hw1 hw0 hg hlg hrow hb0
    have hs3 := HB3.out.size
    rw [hzl] at g0 g1 g2 g3 g4 g5 hx3 hx3b HL3 HB3 hs3
    go_wp2_with fail
    generalize w2.setCell ⟨(w.heap.size + 1), 2, none⟩ (.slice (some ⟨g, 0, none⟩) len cg) = w3 at *
    have HK := Lib.hid hlk
    rw [hzl] at HK
    have hx3l := (Array.getElem?_eq_some_iff.1 hx3).1
    have hx3bl := (Array.getElem?_eq_some_iff.1 hx3b).1
    obtain ⟨lv, hlv⟩ : ∃ lv, lv = Value.slice (some ⟨g, 0, none⟩) len cg := ⟨_, rfl⟩
    rw [← hlv] at HL3 HK hx3b
    have HP := Lib.hid (I.put t y (hT.below HB3.out) (HL3.out.byt (by omega)) (Nat.le_refl _) HK.out (by omega) ht hy)
    rw [hlv] at HP
    clear g0 g1 g2 g3 g4 g5 c0 c1 c2 d0 d1 d2 f2
    refine HP.out.mono ?_
    rintro e w4 ⟨rfl, hb⟩
    have hx4 := (hb.block _ hx3l).trans hx3
    have hx4b := (hb.block _ hx3bl).trans hx3b
    have HB4 := Lib.hid (HB3.out.trans (hb.mono HB3.out.size))
    have HL4 := Lib.hid (HL3.out.bar (S := fun _ => False) (bar_of_below hb) (fun k _ e => e))
    have HP2 := Lib.hid (put17_any t y (HBy.out w4 HB4.out) HB4.out.size)
    obtain ⟨g0, g1, g2⟩ := three_cells hx4
    obtain ⟨g3, g4, g5⟩ := three_cells hx4b
    have hx4l := (Array.getElem?_eq_some_iff.1 hx4).1
    have hx4bl := (Array.getElem?_eq_some_iff.1 hx4b).1
    clear hb HP HB3 HL3 hx3 hx3b
    go_wp2_with fail
    refine HP2.out.mono ?_
    rintro e w5 ⟨rfl, hb⟩
    have hx5 := (hb.block _ hx4l).trans hx4
    have hx5b := (hb.block _ hx4bl).trans hx4b
    have HB5 := Lib.hid (HB4.out.trans (hb.mono HB4.out.size))
    have HL5 := Lib.hid (HL4.out.bar (S := fun _ => False) (bar_of_below hb) (fun k _ e => e))
    have HG : Hid (∀ d os, Below w5.heap.size w5 (Sort.grow (redrawn w5 d) os)) := fun d os => below_regrown w5 d os
    have HLg : Hid (∀ d os, Lent w1.heap.size (Sort.grow (redrawn w5 d) os) lv zs) := fun d os => HL5.out.bar (S := fun _ => False) (bar_of_below (HG.out d os)) (fun k _ e => e)
    have HSg : Hid (∀ d os, Byt w.heap.size (Sort.grow (redrawn w5 d) os) (.slice ra len cap) zs) := fun d os => HBy.out _ (HB5.out.trans ((HG.out d os).mono HB5.out.size))
    have HSz : Hid (∀ d os, w.heap.size ≤ (Sort.grow (redrawn w5 d) os).heap.size) := fun d os => Nat.le_trans HB5.out.size (HG.out d os).size
    have C1 : ∀ d os, Calls Tryd.prog 12 #[headV t y lv] (Sort.grow (redrawn w5 d) os) fun e w'' => e = .returned (.int .i64 (ckH t y zs.length)) ∧ ∃ p : Regrown, w'' = Sort.grow (redrawn w5 p.d) p.os := fun d os => Calls.regrown_of (I.check t y ((HLg.out d os).byt (by omega)) (Nat.le_refl _) HK.out (by omega) ht hy)
    have C2 : ∀ d os, Calls Tryd.prog 13 #[headV t y (.slice ra len cap)] (Sort.grow (redrawn w5 d) os) fun e w'' => e = .returned (.int .i64 (ckH t y zs.length)) ∧ ∃ p : Regrown, w'' = Sort.grow (redrawn w5 p.d) p.os := fun d os => Calls.regrown_of (check17_any t y (HSg.out d os))
    have C3 : ∀ d os, Calls Tryd.prog 14 #[headV t y lv] (Sort.grow (redrawn w5 d) os) fun e w'' => e = .returned (.int .i64 (fmH y)) ∧ ∃ p : Regrown, w'' = Sort.grow (redrawn w5 p.d) p.os := fun d os => Calls.regrown_of (I.format t y ((HLg.out d os).byt (by omega)) (Nat.le_refl _) HK.out (by omega) ht hy)
    have C4 : ∀ d os, Calls Tryd.prog 15 #[headV t y (.slice ra len cap)] (Sort.grow (redrawn w5 d) os) fun e w'' => e = .returned (.int .i64 (fmH y)) ∧ ∃ p : Regrown, w'' = Sort.grow (redrawn w5 p.d) p.os := fun d os => Calls.regrown_of (format17_any t y hy _ _)
    have C5 : ∀ d os, Calls Tryd.prog 16 #[lv, .slice ra len cap] (Sort.grow (redrawn w5 d) os) fun e w'' => e = .returned (.bool true) ∧ ∃ p : Regrown, w'' = Sort.grow (redrawn w5 p.d) p.os := fun d os => Calls.regrown_of (kept_any (HLg.out d os) (HSg.out d os) (by omega))
    have C6 : ∀ d os, Calls Tryd.prog 8 #[] (Sort.grow (redrawn w5 d) os) fun e w'' => e = .returned (.bool true) ∧ ∃ p : Regrown, w'' = Sort.grow (redrawn w5 p.d) p.os := fun d os => Calls.regrown_of (HAw.out _ (HB5.out.trans ((HG.out d os).mono HB5.out.size)))
    have k0 : ∀ d os, (Sort.grow (redrawn w5 d) os).cell? ⟨w.heap.size, 0, none⟩ = some (.int .i64 t) := fun d os => cell_regrown (three_cells hx5).1 d os
    have k1 : ∀ d os, (Sort.grow (redrawn w5 d) os).cell? ⟨w.heap.size, 1, none⟩ = some (.int .i64 y) := fun d os => cell_regrown (three_cells hx5).2.1 d os
    have k2 : ∀ d os, (Sort.grow (redrawn w5 d) os).cell? ⟨w.heap.size, 2, none⟩ = some (.slice ra len cap) := fun d os => cell_regrown (three_cells hx5).2.2 d os
    have k3 : ∀ d os, (Sort.grow (redrawn w5 d) os).cell? ⟨w.heap.size + 1, 0, none⟩ = some (.int .i64 t) := fun d os => cell_regrown (three_cells hx5b).1 d os
    have k4 : ∀ d os, (Sort.grow (redrawn w5 d) os).cell? ⟨w.heap.size + 1, 1, none⟩ = some (.int .i64 y) := fun d os => cell_regrown (three_cells hx5b).2.1 d os
    have k5 : ∀ d os, (Sort.grow (redrawn w5 d) os).cell? ⟨w.heap.size + 1, 2, none⟩ = some lv := fun d os => cell_regrown (three_cells hx5b).2.2 d os
    clear hb HP2 HB4 HL4 hx4 hx4b g0 g1 g2 g3 g4 g5 hx5 hx5b
    subst hlv
    go_wp2_with fail
    refine wp_region_quiet_below (by kernel_rfl) (by kernel_rfl) ?_
    iterate 33 quiet_step (first | (go_at_call 12; with_reducible exact C1 _ _) | (go_at_call 13; with_reducible exact C2 _ _) | (go_at_call 14; with_reducible exact C3 _ _) | (go_at_call 15; with_reducible exact C4 _ _) | (go_at_call 16; with_reducible exact C5 _ _) | (go_at_call 8; with_reducible exact C6 _ _))
    refine wpQuiet_nil ?_
    rintro _ ⟨⟨dq, osq⟩, rfl⟩
    have hB6 := HB5.out.trans ((HG.out dq osq).mono HB5.out.size)
    clear C1 C2 C3 C4 C5 C6 k0 k1 k2 k3 k4 k5
    go_wp2_with fail
    go_ret
    exact ⟨rfl, hB6⟩

end Go.Proofs.YtlcaboddkcpgaaaDoor
