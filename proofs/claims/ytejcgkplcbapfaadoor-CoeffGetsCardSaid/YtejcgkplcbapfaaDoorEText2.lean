/- coeff: escaped, Escape. -/
import Derived.Test.YtejcgkplcbapfaaDoorEText
namespace Go.Proofs.YtejcgkplcbapfaaDoor
open Go.RowKit Go.Shelf Go.Sort
set_option linter.unusedVariables false

theorem i8_fin : ∀ L : Fin 256, IntKind.i8.wrap (L.val : Int) = if 128 ≤ L.val then (L.val : Int) - 256 else L.val := by decide +kernel
/-- what escaped answers -/
abbrev threeV (g : Got) : Value := .tuple #[.agg #[.int .i64 g.run, .int .i64 g.level], .int .i64 g.many, .int .i64 g.err]

set_option maxRecDepth 100000 in
set_option maxHeartbeats 4000000 in
theorem escaped_any {n₁ : Nat} {w : World} {sv : Value} {zs : List UInt8} (hB : Byt n₁ w sv zs) (hn : n₁ ≤ w.heap.size) (hl : zs.length ≤ 1099511627776) (A : Nat) (hA : A + 6 ≤ 8 * zs.length) :
    Calls Tryd.prog 29 #[sv, .int .i64 (A : Nat)] w fun e w' => e = .returned (threeV (escG zs A)) ∧ Below w.heap.size w w' := by
  have HR1 : Hid (∀ w', Below w.heap.size w w' → Calls Tryd.prog 43 #[sv, .int .i64 ((A : Int) + 6), .int .i64 6] w' fun e w'' => e = .returned (.tuple #[.int .i64 (readN zs ((A : Int) + 6) 6), .int .i64 (readE zs ((A : Int) + 6) 6)]) ∧ w' = w'') := fun w' hb => read_two (hB.below (hb.mono hn)) _ _ (by omega)
  have HR2 : Hid (∀ w', Below w.heap.size w w' → Calls Tryd.prog 43 #[sv, .int .i64 ((A : Int) + 6 + 6), .int .i64 8] w' fun e w'' => e = .returned (.tuple #[.int .i64 (readN zs ((A : Int) + 6 + 6) 8), .int .i64 (readE zs ((A : Int) + 6 + 6) 8)]) ∧ w' = w'') := fun w' hb => read_two (hB.below (hb.mono hn)) _ _ (by omega)
  have hb0 : Below w.heap.size w (w.alloc (.cells #[.int .i64 0, .int .i64 0] 26 (0, 0))) := (Below.refl _ w).alloc (Nat.le_refl _) _
  have HB0 := Lib.hid hb0
  have hbox := World.alloc_heap_new w (.cells #[.int .i64 0, .int .i64 0] 26 (0, 0))
  have hsz : (w.alloc (.cells #[.int .i64 0, .int .i64 0] 26 (0, 0))).heap.size = w.heap.size + 1 := by simp
  clear hB hb0
  unfold escG
  by_cases hm : 8 * zs.length < A + 20
  · rw [if_pos hm]
    have e2 : readE zs ((A : Int) + 6 + 6) 8 = 5 := by unfold readE; rw [if_neg (by omega), if_pos (by omega)]
    rw [e2] at HR2
    generalize readN zs ((A : Int) + 6 + 6) 8 = x2 at *
    generalize readN zs ((A : Int) + 6) 6 = x1 at *
    generalize readE zs ((A : Int) + 6) 6 = y1 at *
    clear e2 hm
    go_enter Tryd.func29, Tryd.ntmps29
    go_wp2_with fail
    generalize w.alloc (.cells #[.int .i64 0, .int .i64 0] 26 (0, 0)) = w1 at *
    refine (HR1.out _ HB0.out).mono ?_
    rintro e w' ⟨rfl, rfl⟩
    go_wp2_with fail
    refine (HR2.out _ HB0.out).mono ?_
    rintro e w' ⟨rfl, rfl⟩
    obtain ⟨c0, c1, f0, f1⟩ := pair_cells hbox
    go_wp2
    refine bodyPost_ret (v := threeV (badG 5)) (by simp [results, Tryd.f29, go_sem, c0, c1]) rfl ⟨rfl, ?_⟩
    exact ((HB0.out).setCell (p := ⟨w.heap.size, 0, none⟩) (Nat.le_refl _) _).setCell (p := ⟨w.heap.size, 1, none⟩) (Nat.le_refl _) _
  · rw [if_neg hm]
    have e1 : readN zs ((A : Int) + 6) 6 = (num zs (A + 6) 6 : Nat) := by unfold readN; rw [if_neg (by omega), if_neg (by omega), show ((A : Int) + 6).toNat = A + 6 by omega]; rfl
    have e2 : readN zs ((A : Int) + 6 + 6) 8 = (num zs (A + 12) 8 : Nat) := by unfold readN; rw [if_neg (by omega), if_neg (by omega), show ((A : Int) + 6 + 6).toNat = A + 12 by omega]; rfl
    have e3 : readE zs ((A : Int) + 6 + 6) 8 = 0 := by unfold readE; rw [if_neg (by omega), if_neg (by omega)]
    rw [e1] at HR1
    rw [e2, e3] at HR2
    have hR := num_lt zs (A + 6) 6
    have hL := num_lt zs (A + 12) 8
    simp only [show 2 ^ 6 = 64 from rfl, show 2 ^ 8 = 256 from rfl] at hR hL
    generalize readE zs ((A : Int) + 6) 6 = y1 at *
    generalize num zs (A + 6) 6 = R at *
    generalize num zs (A + 12) 8 = L at *
    clear e1 e2 e3 hm
    have hw := i8_fin ⟨L, hL⟩
    simp only at hw
    obtain ⟨lv, hlv⟩ : ∃ lv : Int, lv = if 128 ≤ L then (L : Int) - 256 else L := ⟨_, rfl⟩
    rw [← hlv] at hw
    have hl1 : -128 ≤ lv := by rw [hlv]; split <;> omega
    have hl2 : lv ≤ 127 := by rw [hlv]; split <;> omega
    have HP := Lib.hid (fun w => eisPair_any (R : Int) lv w)
    have hE : (if L = 0 ∨ L = 128 then badG 10 else ⟨R, lvl L, false, 20, 0⟩ : Got) = if isP (R : Int) lv = true then ⟨R, lv, false, 20, 0⟩ else badG 10 := by
      by_cases h : L = 0 ∨ L = 128
      · rw [if_pos h, isP_no (by rw [hlv]; rcases h with rfl | rfl <;> simp)]
        rfl
      · rw [if_neg h, isP_yes (by omega) (by omega) (by rw [hlv]; split <;> omega) hl2 (by rw [hlv]; split <;> omega), if_pos rfl]
        have : lvl L = lv := by
          rw [hlv]
          unfold lvl
          split <;> split <;> omega
        rw [this]
    rw [hE]
    clear hE hlv
    cases hp : isP (R : Int) lv with
    | false =>
      rw [hp] at HP
      rw [if_neg (by decide)]
      clear hp
      go_enter Tryd.func29, Tryd.ntmps29
      go_wp2_with fail
      generalize w.alloc (.cells #[.int .i64 0, .int .i64 0] 26 (0, 0)) = w1 at *
      refine (HR1.out _ HB0.out).mono ?_
      rintro e w' ⟨rfl, rfl⟩
      go_wp2_with fail
      refine (HR2.out _ HB0.out).mono ?_
      rintro e w' ⟨rfl, rfl⟩
      obtain ⟨c0, c1, f0, f1⟩ := pair_cells hbox
      go_wp2_with fail
      refine (HP.out _).mono ?_
      rintro e w' ⟨rfl, rfl⟩
      have hlt0 : w.heap.size < w1.heap.size := by omega
      go_wp2
      refine bodyPost_ret (v := threeV (badG 10)) (by simp [results, Tryd.f29, go_sem, hlt0, c0, c1]) rfl ⟨rfl, ?_⟩
      exact ((((HB0.out).setCell (p := ⟨w.heap.size, 0, none⟩) (Nat.le_refl _) _).setCell (p := ⟨w.heap.size, 1, none⟩) (Nat.le_refl _) _).alloc (by simp; omega) _).alloc (by simp; omega) _
    | true =>
      rw [hp] at HP
      rw [if_pos rfl]
      clear hp
      go_enter Tryd.func29, Tryd.ntmps29
      go_wp2_with fail
      generalize w.alloc (.cells #[.int .i64 0, .int .i64 0] 26 (0, 0)) = w1 at *
      refine (HR1.out _ HB0.out).mono ?_
      rintro e w' ⟨rfl, rfl⟩
      go_wp2_with fail
      refine (HR2.out _ HB0.out).mono ?_
      rintro e w' ⟨rfl, rfl⟩
      obtain ⟨c0, c1, f0, f1⟩ := pair_cells hbox
      go_wp2_with fail
      refine (HP.out _).mono ?_
      rintro e w' ⟨rfl, rfl⟩
      have hlt0 : w.heap.size < w1.heap.size := by omega
      go_wp2
      refine bodyPost_ret (v := threeV ⟨R, lv, false, 20, 0⟩) (by simp [results, Tryd.f29, go_sem, hlt0, c0, c1]) rfl ⟨rfl, ?_⟩
      exact ((((HB0.out).setCell (p := ⟨w.heap.size, 0, none⟩) (Nat.le_refl _) _).setCell (p := ⟨w.heap.size, 1, none⟩) (Nat.le_refl _) _).alloc (by simp; omega) _).alloc (by simp; omega) _

/-! ### Escape -/
theorem u8_mod (l : Int) : IntKind.u8.wrap l = l % 256 := IntKind.wrap_u8 l

set_option maxRecDepth 100000 in
set_option maxHeartbeats 4000000 in
theorem eescape_any (r l : Int) (w : World) (hT : Tab2 w) :
    Calls Tryd.prog 16 #[pairV r l] w fun e w' => e = .returned (.tuple #[.string (escS8 r l), .int .i64 (putE8 r l)]) ∧ Below w.heap.size w w' := by
  have hb0 : Below w.heap.size w (w.alloc (.cells #[.int .i64 r, .int .i64 l] 26 (0, 0))) := (Below.refl _ w).alloc (Nat.le_refl _) _
  have HK := Lib.hid (eisPair_any r l (w.alloc (.cells #[.int .i64 r, .int .i64 l] 26 (0, 0))))
  have HB0 := Lib.hid hb0
  cases hp : isP r l with
  | false =>
    rw [hp] at HK
    rw [show escS8 r l = ⟨#[]⟩ by unfold escS8; rw [hp]; rfl, show putE8 r l = 3 by unfold putE8; rw [hp]; rfl]
    go_enter Tryd.func16, Tryd.ntmps16
    go_wp2_with (go_at_call 34; refine HK.out.mono ?_; rintro e w2 ⟨rfl, rfl⟩)
    go_ret2
    exact ⟨rfl, HB0.out.alloc (by simp) _⟩
  | true =>
    rw [hp] at HK
    rw [show escS8 r l = escS r l by unfold escS8; rw [hp]; rfl, show putE8 r l = 0 by unfold putE8; rw [hp]; rfl]
    obtain ⟨h1, h2, h3, h4, h5⟩ := isP_of hp
    obtain ⟨n, rfl⟩ := Int.eq_ofNat_of_zero_le h1
    obtain ⟨m, hm⟩ := Int.eq_ofNat_of_zero_le (Int.emod_nonneg (l + 256) (b := 256) (by omega))
    have hm2 : m < 256 := by omega
    have HE := Lib.hid (show escS (n : Int) l = esc8 ++ binS n 6 ++ binS m 8 by unfold escS; rw [hm]; rfl)
    have ht0 : IntKind.u8.wrap l = (m : Int) := by rw [u8_mod]; omega
    have ht1 : l % 256 = (m : Int) := by omega
    have ht2 : IntKind.i64.wrap (m : Int) = (m : Int) := by rw [IntKind.wrap_i64]; omega
    have HT := Lib.hid (fun w' (hb : Below w.heap.size w w') => hT.below hb)
    have HI6 : Hid (∀ w, Tab2 w → Calls Tryd.prog 38 #[.int .i64 (n : Int), .int .i64 6] w fun e w' => e = .returned (.string (binS n 6)) ∧ Below w.heap.size w w') := fun w hT => espell_any n 6 (by have : 2 ^ 6 = 64 := rfl; omega) (by omega) w hT
    have HI8 : Hid (∀ w, Tab2 w → Calls Tryd.prog 38 #[.int .i64 (m : Int), .int .i64 8] w fun e w' => e = .returned (.string (binS m 8)) ∧ Below w.heap.size w w') := fun w hT => espell_any m 8 (by have : 2 ^ 8 = 256 := rfl; omega) (by omega) w hT
    have z6 := binS_size n 6
    have z8 := binS_size m 8
    obtain ⟨z0, z1⟩ := two_cells w (.int .i64 (n : Int)) (.int .i64 l) 26
    have hsz : (w.alloc (.cells #[.int .i64 (n : Int), .int .i64 l] 26 (0, 0))).heap.size = w.heap.size + 1 := by simp
    generalize binS n 6 = s6 at *
    generalize binS m 8 = s8 at *
    clear hp hm hT
    go_enter Tryd.func16, Tryd.ntmps16
    go_wp2_with fail
    generalize w.alloc (.cells #[.int .i64 (n : Int), .int .i64 l] 26 (0, 0)) = w1 at *
    refine HK.out.mono ?_
    rintro e w2 ⟨rfl, hw2⟩
    have b2 : Below w1.heap.size w1 w2 := by rw [hw2]; exact (Below.refl _ _).alloc (Nat.le_refl _) _
    clear hw2
    have hx0 := (b2.cell (p := ⟨w.heap.size, 0, none⟩) (by simp; omega)).trans z0
    have hx1 := (b2.cell (p := ⟨w.heap.size, 1, none⟩) (by simp; omega)).trans z1
    have HB2 := Lib.hid (HB0.out.trans (b2.mono (by omega)))
    have hw2 : w.heap.size < w2.heap.size := by have := b2.size; omega
    clear b2 HK hb0 z0 z1
    have hsx : s6.size + s8.size + 6 ≤ 1000 := by omega
    have k0 := cell_regrown hx0
    have k1 := cell_regrown hx1
    have hTr : ∀ d os, Tab2 (grow (redrawn w2 d) os) := fun d os => HT.out _ (HB2.out.trans ((below_regrown w2 d os).mono (by omega)))
    have C6 : ∀ d os, Calls Tryd.prog 38 #[.int .i64 (n : Int), .int .i64 6] (grow (redrawn w2 d) os) fun e w'' => e = .returned (.string s6) ∧ ∃ p : Regrown, w'' = grow (redrawn w2 p.d) p.os := fun d os => Calls.regrown_of (HI6.out _ (hTr d os))
    have C8 : ∀ d os, Calls Tryd.prog 38 #[.int .i64 (m : Int), .int .i64 8] (grow (redrawn w2 d) os) fun e w'' => e = .returned (.string s8) ∧ ∃ p : Regrown, w'' = grow (redrawn w2 p.d) p.os := fun d os => Calls.regrown_of (HI8.out _ (hTr d os))
    clear HI6 HI8 hTr
    go_wp2
    refine wp_region_quiet_below (by kernel_rfl) (by kernel_rfl) ?_
    iterate 3 quiet_step ((go_at_call 38; exact C6 _ _))
    iterate 6 quiet_step ((go_at_call 38; exact C8 _ _))
    iterate 3 quiet_step (fail)
    refine wpQuiet_nil ?_
    rintro _ ⟨⟨dq, osq⟩, rfl⟩
    go_wp2
    go_ret2
    exact ⟨by rw [HE.out]; rfl, HB2.out.trans ((below_regrown w2 dq osq).mono (by omega))⟩

end Go.Proofs.YtejcgkplcbapfaaDoor
