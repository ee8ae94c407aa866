/- The walks of CoeffGets and CoeffPuts (praxinoscopelaw08). -/
import Derived.Test.YtejcgkplcbapfaaDoorELaw
import Derived.Lib.QuietBelow
namespace Go.Proofs.YtejcgkplcbapfaaDoor
open Go.RowKit Go.Shelf Go.Sort
set_option linter.unusedVariables false
attribute [local go_sem] Oper.semAt_some

set_option maxRecDepth 100000 in
set_option maxHeartbeats 4000000 in
theorem coeffGets_walk (I : CoeffI) {a : Option Addr} {len cap : Nat} {zs : List UInt8} {w : World} (hR : Row8 w.heap.size w a len cap zs) (x : Int) (first : Bool) (hx : x ≤ 9223372036854775807) (hT : Lay8 w) :
    Calls Tryd.prog 3 #[.slice a len cap, .int .i64 x, .bool first] w fun e w' => e = .returned (.bool true) ∧ Below w.heap.size w w' := by
  have HT := Lib.hid (fun w' (hb : Below w.heap.size w w') => hT.below hb)
  clear hT
  by_cases h : 100 < len
  · clear hR
    go_enter Tryd.func3, Tryd.ntmps3
    go_wp2_with (go_at_call 9; refine (awake8_any I w (HT.out w (Below.refl _ _))).mono ?_; rintro e w' ⟨rfl, b3⟩)
    go_ret
    exact ⟨rfl, b3⟩
  · have hl := hR.1
    subst hl
    have HSrc : Hid (Src w a zs.length (u8s zs)) := by
      have h := hR.src (n := zs.length) (Nat.le_refl _)
      rw [List.take_length] at h
      exact h
    have HB : Hid (∀ w', Below w.heap.size w w' → Byt w.heap.size w' (.slice a zs.length cap) zs) := fun w' hb => by
      have h := hR.byt (Nat.le_refl _) (k := zs.length) (Nat.le_refl _) (by omega)
      rw [List.take_length] at h
      exact h.below hb
    have HNc := Lib.hid hR.nocap
    obtain ⟨g, hg⟩ : ∃ g, g = got first zs x := ⟨_, rfl⟩
    have HGt := Lib.hid hg
    clear hR hg
    obtain ⟨R, L, O, M, E⟩ := g
    have heq := fun W => pair_eq R L R L W
    simp only [beq_self_eq_true, Bool.and_self] at heq
    go_enter Tryd.func3, Tryd.ntmps3
    go_wp2_with fail
    refine (lent_any HSrc.out HNc.out (by omega)).mono ?_
    rintro e w1 ⟨vi, rfl, hLe, b1⟩
    have HLe := Lib.hid hLe
    have HB1 := Lib.hid b1
    have HG := Lib.hid (I.get (hLe.byt (by omega)) (Nat.le_refl _) (by omega) (HT.out w1 b1) x first hx)
    rw [← HGt.out] at HG
    clear hLe b1
    go_wp2_with fail
    refine HG.out.mono ?_
    rintro e w2 ⟨rfl, b2⟩
    have b2' := b2.alloc (o := .cells #[.int .i64 R, .int .i64 L] 26 (0, 0)) b2.size
    have HB2 := Lib.hid (below_chain HB1.out (Nat.le_refl _) b2')
    have HLe2 := Lib.hid (HLe.out.bar (bar_of_below (S := fun _ => False) b2') (fun _ _ e => e))
    obtain ⟨y0, y1⟩ := two_cells w2 (.int .i64 R) (.int .i64 L) 26
    have hs2 : (w2.alloc (.cells #[.int .i64 R, .int .i64 L] 26 (0, 0))).heap.size = w2.heap.size + 1 := by simp
    clear b2 b2' HG
    have HG2 := Lib.hid (r8get_any (HB.out _ HB2.out) HB2.out.size (by omega) x hx first)
    rw [← HGt.out] at HG2
    go_wp2_with fail
    generalize w2.alloc (.cells #[.int .i64 R, .int .i64 L] 26 (0, 0)) = w2' at *
    refine HG2.out.mono ?_
    rintro e w3 ⟨rfl, b3⟩
    have b3' := b3.alloc (o := .cells #[.int .i64 R, .int .i64 L] 26 (0, 0)) b3.size
    have HB3 := Lib.hid (below_chain HB2.out (Nat.le_refl _) b3')
    have HLe3 := Lib.hid (HLe2.out.bar (bar_of_below (S := fun _ => False) b3') (fun _ _ e => e))
    have u0 := (b3'.cell (p := ⟨w2.heap.size, 0, none⟩) (by simp; omega)).trans y0
    have u1 := (b3'.cell (p := ⟨w2.heap.size, 1, none⟩) (by simp; omega)).trans y1
    obtain ⟨v0, v1⟩ := two_cells w3 (.int .i64 R) (.int .i64 L) 26
    clear b3 b3' HG2 y0 y1
    go_wp2_with fail
    generalize w3.alloc (.cells #[.int .i64 R, .int .i64 L] 26 (0, 0)) = w3' at *
    refine (kept_any HLe3.out (HB.out _ HB3.out) (by omega)).mono ?_
    rintro e w4 ⟨rfl, b4⟩
    have HB4 := Lib.hid (below_chain HB3.out (Nat.le_refl _) b4)
    clear b4
    go_wp2_with (go_at_call 9; refine (awake8_any I w4 (HT.out w4 HB4.out)).mono ?_; rintro e w' ⟨rfl, b5⟩)
    go_ret
    exact ⟨rfl, below_chain HB4.out (Nat.le_refl _) b5⟩

set_option maxRecDepth 100000 in
set_option maxHeartbeats 4000000 in
theorem coeffPuts_walk (I : CoeffI) (r l : Int) (w : World) (h1 : -9223372036854775808 ≤ l) (h2 : l ≤ 9223372036854775807) (hT : Lay8 w) :
    Calls Tryd.prog 4 #[pairV r l] w fun e w' => e = .returned (.bool true) ∧ Below w.heap.size w w' := by
  have HT := Lib.hid (fun w' (hb : Below w.heap.size w w') => hT.below hb)
  have HP := Lib.hid (fun f w hT => I.put r l f w hT h1 h2)
  have HP2 := Lib.hid (fun f w => r8put_any r l f w h1 h2)
  have HE := Lib.hid (fun w hT => I.esc r l w hT)
  have HE2 := Lib.hid (fun w => r8escape_any r l w)
  have HS := Lib.hid (fun w hT => I.short r l w hT h1 h2)
  have HS2 := Lib.hid (fun w => r8short_any r l w h1 h2)
  have HF := Lib.hid I.fin
  have HA := Lib.hid (fun w hT => awake8_any I w hT)
  clear hT h1 h2 I
  generalize putS8 = S at *
  generalize putE8 r l = E at *
  generalize escS8 r l = X at *
  generalize shortB r l = B at *
  have hb0 : Below w.heap.size w (w.alloc (.cells #[.int .i64 r, .int .i64 l] 26 (0, 0))) := (Below.refl _ w).alloc (Nat.le_refl _) _
  obtain ⟨z0, z1⟩ := two_cells w (.int .i64 r) (.int .i64 l) 26
  have hs0 : (w.alloc (.cells #[.int .i64 r, .int .i64 l] 26 (0, 0))).heap.size = w.heap.size + 1 := by simp
  have HB0 := Lib.hid hb0
  clear hb0
  go_enter Tryd.func4, Tryd.ntmps4
  go_wp2_with fail
  generalize w.alloc (.cells #[.int .i64 r, .int .i64 l] 26 (0, 0)) = w0 at *
  refine (HP.out true w0 (HT.out _ HB0.out)).mono ?_
  rintro e w1 ⟨rfl, b1⟩
  have x0 := (b1.cell (p := ⟨w.heap.size, 0, none⟩) (by simp; omega)).trans z0
  have x1 := (b1.cell (p := ⟨w.heap.size, 1, none⟩) (by simp; omega)).trans z1
  have hs1 : w.heap.size < w1.heap.size := by have := b1.size; omega
  have HB1 := Lib.hid (HB0.out.trans (b1.mono (by omega)))
  clear b1 z0 z1 hs0
  go_wp2_with fail
  refine (HP2.out true w1).mono ?_
  rintro e w2 ⟨rfl, b2⟩
  have y0 := (b2.cell (p := ⟨w.heap.size, 0, none⟩) (by simp; omega)).trans x0
  have y1 := (b2.cell (p := ⟨w.heap.size, 1, none⟩) (by simp; omega)).trans x1
  have hs2 : w.heap.size < w2.heap.size := by have := b2.size; omega
  have HB2 := Lib.hid (HB1.out.trans (b2.mono (by omega)))
  clear b2 x0 x1 hs1
  go_wp2_with fail
  refine (HP.out false w2 (HT.out _ HB2.out)).mono ?_
  rintro e w3 ⟨rfl, b3⟩
  have x0 := (b3.cell (p := ⟨w.heap.size, 0, none⟩) (by simp; omega)).trans y0
  have x1 := (b3.cell (p := ⟨w.heap.size, 1, none⟩) (by simp; omega)).trans y1
  have hs3 : w.heap.size < w3.heap.size := by have := b3.size; omega
  have HB3 := Lib.hid (HB2.out.trans (b3.mono (by omega)))
  clear b3 y0 y1 hs2
  go_wp2_with fail
  refine (HP2.out false w3).mono ?_
  rintro e w4 ⟨rfl, b4⟩
  have y0 := (b4.cell (p := ⟨w.heap.size, 0, none⟩) (by simp; omega)).trans x0
  have y1 := (b4.cell (p := ⟨w.heap.size, 1, none⟩) (by simp; omega)).trans x1
  have hs4 : w.heap.size < w4.heap.size := by have := b4.size; omega
  have HB4 := Lib.hid (HB3.out.trans (b4.mono (by omega)))
  clear b4 x0 x1 hs3
  go_wp2_with fail
  refine (HE.out w4 (HT.out _ HB4.out)).mono ?_
  rintro e w5 ⟨rfl, b5⟩
  have x0 := (b5.cell (p := ⟨w.heap.size, 0, none⟩) (by simp; omega)).trans y0
  have x1 := (b5.cell (p := ⟨w.heap.size, 1, none⟩) (by simp; omega)).trans y1
  have hs5 : w.heap.size < w5.heap.size := by have := b5.size; omega
  have HB5 := Lib.hid (HB4.out.trans (b5.mono (by omega)))
  clear b5 y0 y1 hs4
  go_wp2_with fail
  refine (HE2.out w5).mono ?_
  rintro e w6 ⟨rfl, b6⟩
  have y0 := (b6.cell (p := ⟨w.heap.size, 0, none⟩) (by simp; omega)).trans x0
  have y1 := (b6.cell (p := ⟨w.heap.size, 1, none⟩) (by simp; omega)).trans x1
  have hs6 : w.heap.size < w6.heap.size := by have := b6.size; omega
  have HB6 := Lib.hid (HB5.out.trans (b6.mono (by omega)))
  clear b6 x0 x1 hs5
  have k0 := cell_regrown y0
  have k1 := cell_regrown y1
  have hTr : ∀ d os, Lay8 (grow (redrawn w6 d) os) := fun d os => HT.out _ (HB6.out.trans ((below_regrown w6 d os).mono (by omega)))
  have C1 : ∀ d os, Calls Tryd.prog 18 #[pairV r l] (grow (redrawn w6 d) os) fun e w'' => e = .returned (.bool B) ∧ ∃ p : Regrown, w'' = grow (redrawn w6 p.d) p.os := fun d os => Calls.regrown_of (HS.out _ (hTr d os))
  have C2 : ∀ d os, Calls Tryd.prog 19 #[pairV r l] (grow (redrawn w6 d) os) fun e w'' => e = .returned (.bool B) ∧ ∃ p : Regrown, w'' = grow (redrawn w6 p.d) p.os := fun d os => Calls.regrown_of (HS2.out _)
  have C3 : ∀ d os, Calls Tryd.prog 20 #[] (grow (redrawn w6 d) os) fun e w'' => e = .returned (.string ⟨#[49, 48]⟩) ∧ ∃ p : Regrown, w'' = grow (redrawn w6 p.d) p.os := fun d os => Calls.regrown_of ((HF.out _).mono (fun e w' h => ⟨h.1, by rw [← h.2]; exact Below.refl _ _⟩))
  have C4 : ∀ d os, Calls Tryd.prog 9 #[] (grow (redrawn w6 d) os) fun e w'' => e = .returned (.bool true) ∧ ∃ p : Regrown, w'' = grow (redrawn w6 p.d) p.os := fun d os => Calls.regrown_of (HA.out _ (hTr d os))
  clear HP HP2 HE HE2 HS HS2 HF HA hTr y0 y1
  go_wp2
  refine wp_region_quiet_below (by kernel_rfl) (by kernel_rfl) ?_
  iterate 31 quiet_step ((go_at_call 18; exact C1 _ _))
  iterate 5 quiet_step ((go_at_call 19; exact C2 _ _))
  iterate 4 quiet_step ((go_at_call 20; exact C3 _ _))
  iterate 3 quiet_step ((go_at_call 9; exact C4 _ _))
  refine wpQuiet_nil ?_
  rintro _ ⟨⟨dq, osq⟩, rfl⟩
  go_wp2
  go_ret
  exact ⟨rfl, HB6.out.trans ((below_regrown w6 dq osq).mono (by omega))⟩

end Go.Proofs.YtejcgkplcbapfaaDoor
