/- The contracts of coeff's Short, Put and Get: the record. -/
import Derived.Test.YtejcgkplcbapfaaDoorEGot
import Derived.Test.YtejcgkplcbapfaaDoorELaw0
namespace Go.Proofs.YtejcgkplcbapfaaDoor
open Go.RowKit Go.Shelf
set_option linter.unusedVariables false

set_option maxHeartbeats 1000000 in
theorem eshort_any (r l : Int) (w : World) (hT : Lay8 w) (hl1 : -9223372036854775808 ≤ l) (hl2 : l ≤ 9223372036854775807) :
    Calls Tryd.prog 18 #[pairV r l] w fun e w' => e = .returned (.bool (shortB r l)) ∧ Below w.heap.size w w' := by
  have hb0 : Below w.heap.size w (w.alloc (.cells #[.int .i64 r, .int .i64 l] 26 (0, 0))) := (Below.refl _ w).alloc (Nat.le_refl _) _
  have HK := Lib.hid (short_any r l hl1 hl2 false (w.alloc (.cells #[.int .i64 r, .int .i64 l] 26 (0, 0))) (hT.below hb0).1)
  have HB0 := Lib.hid hb0
  generalize shortS false r l = s at *
  generalize shortB r l = b at *
  clear hT hb0
  go_enter Tryd.func18, Tryd.ntmps18
  go_wp2_with (go_at_call 35; refine HK.out.mono ?_; rintro e w2 ⟨rfl, b2⟩)
  go_ret
  exact ⟨rfl, HB0.out.trans (b2.mono (by simp))⟩

set_option maxRecDepth 100000 in
set_option maxHeartbeats 2000000 in
theorem eput_any (r l : Int) (first : Bool) (w : World) (hT : Lay8 w) (hl1 : -9223372036854775808 ≤ l) (hl2 : l ≤ 9223372036854775807) :
    Calls Tryd.prog 14 #[pairV r l, .bool first] w fun e w' => e = .returned (.tuple #[.string (putS8 first r l), .int .i64 (putE8 r l)]) ∧ Below w.heap.size w w' := by
  have hb0 : Below w.heap.size w (w.alloc (.cells #[.int .i64 r, .int .i64 l] 26 (0, 0))) := (Below.refl _ w).alloc (Nat.le_refl _) _
  have HT := Lib.hid (fun w' (hb : Below w.heap.size w w') => hT.below hb)
  have HK := Lib.hid (fun w => eisPair_any r l w)
  have HS := Lib.hid (fun w hS => short_any r l hl1 hl2 first w hS)
  have HE := Lib.hid (fun w hT => eescape_any r l w hT)
  obtain ⟨z0, z1⟩ := two_cells w (.int .i64 r) (.int .i64 l) 26
  have hsz : (w.alloc (.cells #[.int .i64 r, .int .i64 l] 26 (0, 0))).heap.size = w.heap.size + 1 := by simp
  have HB0 := Lib.hid hb0
  clear hT hb0
  cases hp : isP r l with
  | false =>
    rw [hp] at HK
    rw [show putS8 first r l = ⟨#[]⟩ by unfold putS8; rw [hp]; rfl, show putE8 r l = 3 by unfold putE8; rw [hp]; rfl]
    go_enter Tryd.func14, Tryd.ntmps14
    go_wp2_with (go_at_call 34; refine (HK.out _).mono ?_; rintro e w2 ⟨rfl, rfl⟩)
    go_ret2
    exact ⟨rfl, HB0.out.alloc (by simp) _⟩
  | true =>
    rw [hp] at HK
    have hE8 : escS8 r l = escS r l := by unfold escS8; rw [hp]; rfl
    have hE0 : putE8 r l = 0 := by unfold putE8; rw [hp]; rfl
    rw [hE8, hE0] at HE
    rw [hE0, show putS8 first r l = putP first r l by unfold putS8; rw [hp]; rfl]
    clear hE8 hE0 hp
    cases ht : tabI r l with
    | none =>
      rw [show putP first r l = escS r l by unfold putP; rw [ht]]
      rw [show shortS first r l = ⟨#[]⟩ by unfold shortS; rw [ht], show shortB r l = false by unfold shortB; rw [ht]; rfl] at HS
      generalize escS r l = s at *
      clear ht
      go_enter Tryd.func14, Tryd.ntmps14
      go_wp2_with fail
      generalize w.alloc (.cells #[.int .i64 r, .int .i64 l] 26 (0, 0)) = w1 at *
      refine (HK.out _).mono ?_
      rintro e w2 ⟨rfl, hw2⟩
      have b2 : Below w1.heap.size w1 w2 := by rw [hw2]; exact (Below.refl _ _).alloc (Nat.le_refl _) _
      clear hw2
      have hx0 := (b2.cell (p := ⟨w.heap.size, 0, none⟩) (by simp; omega)).trans z0
      have hx1 := (b2.cell (p := ⟨w.heap.size, 1, none⟩) (by simp; omega)).trans z1
      have hs2 := b2.size
      have B2 := HB0.out.trans (b2.mono (by omega))
      clear b2 z0 z1
      go_wp2_with fail
      refine (HS.out _ (HT.out _ B2).1).mono ?_
      rintro e w3 ⟨rfl, b3⟩
      have y0 := (b3.cell (p := ⟨w.heap.size, 0, none⟩) (by simp; omega)).trans hx0
      have y1 := (b3.cell (p := ⟨w.heap.size, 1, none⟩) (by simp; omega)).trans hx1
      have B3 := B2.trans (b3.mono (by omega))
      have hs3 := b3.size
      clear hx0 hx1 b3
      go_wp2_with fail
      refine (HE.out _ (HT.out _ B3).2).mono ?_
      rintro e w4 ⟨rfl, b4⟩
      go_wp2
      go_ret2
      exact ⟨rfl, B3.trans (b4.mono (by omega))⟩
    | some k =>
      rw [show putP first r l = codeF first k ++ signS l by unfold putP; rw [ht]]
      rw [show shortS first r l = codeF first k ++ signS l by unfold shortS; rw [ht], show shortB r l = true by unfold shortB; rw [ht]; rfl] at HS
      generalize codeF first k ++ signS l = s at *
      clear ht
      go_enter Tryd.func14, Tryd.ntmps14
      go_wp2_with fail
      generalize w.alloc (.cells #[.int .i64 r, .int .i64 l] 26 (0, 0)) = w1 at *
      refine (HK.out _).mono ?_
      rintro e w2 ⟨rfl, hw2⟩
      have b2 : Below w1.heap.size w1 w2 := by rw [hw2]; exact (Below.refl _ _).alloc (Nat.le_refl _) _
      clear hw2
      have hx0 := (b2.cell (p := ⟨w.heap.size, 0, none⟩) (by simp; omega)).trans z0
      have hx1 := (b2.cell (p := ⟨w.heap.size, 1, none⟩) (by simp; omega)).trans z1
      have B2 := HB0.out.trans (b2.mono (by omega))
      have hs2 := b2.size
      clear b2 z0 z1
      go_wp2_with fail
      refine (HS.out _ (HT.out _ B2).1).mono ?_
      rintro e w3 ⟨rfl, b3⟩
      go_wp2
      go_ret2
      exact ⟨rfl, B2.trans (b3.mono (by omega))⟩

theorem escG_over (zs : List UInt8) (a : Nat) : (escG zs a).over = false := by
  unfold escG
  split
  · rfl
  · split <;> rfl
theorem esc8_eq : esc8 = ⟨#[48, 48, 48, 48, 48, 49]⟩ := by decide +kernel
theorem end8_eq : end8 = ⟨#[49, 48]⟩ := by decide +kernel

set_option maxRecDepth 100000 in
set_option maxHeartbeats 4000000 in
theorem eget_any {n₁ : Nat} {w : World} {sv : Value} {zs : List UInt8} (hB : Byt n₁ w sv zs) (hn : n₁ ≤ w.heap.size) (hl : zs.length ≤ 1099511627776) (hT : Lay8 w) (x : Int) (first : Bool) (hx : x ≤ 9223372036854775807) :
    Calls Tryd.prog 11 #[sv, .int .i64 x, .bool first] w fun e w' => e = .returned (gotV (got first zs x)) ∧ Below w.heap.size w w' := by
  have HBy := Lib.hid (fun w' (hb : Below w.heap.size w w') => hB.below (hb.mono hn))
  have HT := Lib.hid (fun w' (hb : Below w.heap.size w w') => hT.below hb)
  have hb0 : Below w.heap.size w (w.alloc (.cells #[.int .i64 0, .int .i64 0] 26 (0, 0))) := (Below.refl _ w).alloc (Nat.le_refl _) _
  have hbox := World.alloc_heap_new w (.cells #[.int .i64 0, .int .i64 0] 26 (0, 0))
  have hsz : (w.alloc (.cells #[.int .i64 0, .int .i64 0] 26 (0, 0))).heap.size = w.heap.size + 1 := by simp
  have HB0 := Lib.hid hb0
  clear hB hb0 hT
  by_cases h0 : x < 0
  · rw [show got first zs x = badG 3 by unfold got; rw [if_pos h0]]
    obtain ⟨c0, c1, f0, f1⟩ := pair_cells hbox
    go_enter Tryd.func11, Tryd.ntmps11
    go_wp2_with fail
    exact bodyPost_ret (v := gotV (badG 3)) (by simp [results, Tryd.f11, go_sem, c0, c1]) rfl ⟨rfl, HB0.out⟩
  · obtain ⟨A, rfl⟩ := Int.eq_ofNat_of_zero_le (show 0 ≤ x by omega)
    rw [show got first zs (A : Int) = gotS first zs A (seenB zs A (lookN zs A)) by unfold got; rw [if_neg (by omega), Int.toNat_natCast, gotS_look]]
    have HTx := Lib.hid (textAt_any (HBy.out _ HB0.out) hl A hx (HT.out _ HB0.out).2)
    have hSz := seenB_size zs A (lookN zs A)
    have HSig := Lib.hid (fun (h1 : begins (seenB zs A (lookN zs A)) esc8 = false) (h2 : first = true ∨ begins (seenB zs A (lookN zs A)) end8 = false) e (hR : SignedR (seenB zs A (lookN zs A)) first e) => gotS_sig h1 h2 hR)
    have HEs := Lib.hid (fun (h : begins (seenB zs A (lookN zs A)) esc8 = true) => gotS_esc (first := first) (zs := zs) (a := A) h)
    have HEn := Lib.hid (fun (h : begins (seenB zs A (lookN zs A)) end8 = true) => gotS_end (zs := zs) (a := A) h)
    have hlk : lookN zs A ≤ 20 ∧ lookN zs A ≤ 8 * zs.length - A := by unfold lookN; omega
    generalize seenB zs A (lookN zs A) = S at *
    have HPe : Hid (∀ w, Calls Tryd.prog 28 #[.string S, .string ⟨#[48, 48, 48, 48, 48, 49]⟩] w fun e w' => e = .returned (.bool (begins S esc8)) ∧ w = w') := fun w => by rw [esc8_eq]; exact hasPrefix_any S _ w
    have HPd : Hid (∀ w, Calls Tryd.prog 28 #[.string S, .string ⟨#[49, 48]⟩] w fun e w' => e = .returned (.bool (begins S end8)) ∧ w = w') := fun w => by rw [end8_eq]; exact hasPrefix_any S _ w
    have HSg := Lib.hid (fun w hS => signed_any S (by omega) first w hS)
    cases h1 : begins S esc8 with
    | true =>
      rw [h1] at HPe
      rw [HEs.out h1]
      have h6 := begins_size h1
      rw [show esc8.size = 6 by decide +kernel] at h6
      have hA6 : A + 6 ≤ 8 * zs.length := by omega
      have HEc := Lib.hid (fun w' (hb : Below w.heap.size w w') => escaped_any (HBy.out w' hb) (by have := hb.size; omega) hl A hA6)
      have hov := escG_over zs A
      generalize escG zs A = g at *
      clear h1 HEs HEn HSig
      go_enter Tryd.func11, Tryd.ntmps11
      go_wp2_with fail
      generalize w.alloc (.cells #[.int .i64 0, .int .i64 0] 26 (0, 0)) = w1 at *
      refine HTx.out.mono ?_
      rintro e w2 ⟨rfl, b2⟩
      have hs2 := b2.size
      have hh := (b2.block w.heap.size (by omega)).trans hbox
      have HB2 := Lib.hid (HB0.out.trans (b2.mono (by omega)))
      clear b2 hbox
      go_wp2_with fail
      refine (HPe.out _).mono ?_
      rintro e w' ⟨rfl, rfl⟩
      go_wp2_with fail
      refine (HEc.out _ HB2.out).mono ?_
      rintro e w3 ⟨rfl, b3⟩
      have hs3 := b3.size
      have hh3 := (b3.block w.heap.size (by omega)).trans hh
      obtain ⟨c0, c1, f0, f1⟩ := pair_cells hh3
      have hlt2 : w.heap.size < w3.heap.size := by omega
      have HB3 := Lib.hid (HB2.out.trans (b3.mono (by omega)))
      clear b3 hh hh3
      go_wp2
      refine bodyPost_ret (v := gotV ⟨g.run, g.level, false, g.many, g.err⟩) (by simp [results, Tryd.f11, go_sem, hlt2, c0, c1]) rfl ⟨by rw [← hov], ?_⟩
      exact ((HB3.out.setCell (p := ⟨w.heap.size, 0, none⟩) (Nat.le_refl _) _).setCell (p := ⟨w.heap.size, 1, none⟩) (Nat.le_refl _) _).alloc (by simp; omega) _
    | false =>
      rw [h1] at HPe
      cases first with
      | false =>
        cases h2 : begins S end8 with
        | true =>
          rw [h2] at HPd
          rw [HEn.out h2]
          clear h1 h2 HEs HEn HSig HSg
          go_enter Tryd.func11, Tryd.ntmps11
          go_wp2_with fail
          generalize w.alloc (.cells #[.int .i64 0, .int .i64 0] 26 (0, 0)) = w1 at *
          refine HTx.out.mono ?_
          rintro e w2 ⟨rfl, b2⟩
          have hs2 := b2.size
          have hh := (b2.block w.heap.size (by omega)).trans hbox
          have HB2 := Lib.hid (HB0.out.trans (b2.mono (by omega)))
          clear b2 hbox
          go_wp2_with fail
          refine (HPe.out _).mono ?_
          rintro e w' ⟨rfl, rfl⟩
          go_wp2_with fail
          refine (HPd.out _).mono ?_
          rintro e w' ⟨rfl, rfl⟩
          obtain ⟨c0, c1, f0, f1⟩ := pair_cells hh
          have hlt2 : w.heap.size < w2.heap.size := by omega
          go_wp2
          refine bodyPost_ret (v := gotV ⟨0, 0, true, 2, 0⟩) (by simp [results, Tryd.f11, go_sem, c0, c1]) rfl ⟨rfl, ?_⟩
          exact ((HB2.out.setCell (p := ⟨w.heap.size, 0, none⟩) (Nat.le_refl _) _).setCell (p := ⟨w.heap.size, 1, none⟩) (Nat.le_refl _) _)
        | false =>
          rw [h2] at HPd
          replace HSig := Lib.hid (HSig.out h1 (.inr h2))
          clear h1 h2 HEs HEn
          generalize gotS false zs A S = g at *
          go_enter Tryd.func11, Tryd.ntmps11
          go_wp2_with fail
          generalize w.alloc (.cells #[.int .i64 0, .int .i64 0] 26 (0, 0)) = w1 at *
          refine HTx.out.mono ?_
          rintro e w2 ⟨rfl, b2⟩
          have hs2 := b2.size
          have hh := (b2.block w.heap.size (by omega)).trans hbox
          have HB2 := Lib.hid (HB0.out.trans (b2.mono (by omega)))
          clear b2 hbox
          go_wp2_with fail
          refine (HPe.out _).mono ?_
          rintro e w' ⟨rfl, rfl⟩
          go_wp2_with fail
          refine (HPd.out _).mono ?_
          rintro e w' ⟨rfl, rfl⟩
          go_wp2_with fail
          refine (HSg.out _ (HT.out _ HB2.out).1).mono ?_
          rintro e w3 ⟨hR, b3⟩
          obtain ⟨rfl, hov⟩ := HSig.out _ hR
          clear hR
          have hs3 := b3.size
          have hh3 := (b3.block w.heap.size (by omega)).trans hh
          obtain ⟨c0, c1, f0, f1⟩ := pair_cells hh3
          have hlt2 : w.heap.size < w3.heap.size := by omega
          have HB3 := Lib.hid (HB2.out.trans (b3.mono (by omega)))
          clear b3 hh hh3
          go_wp2
          refine bodyPost_ret (v := gotV ⟨g.run, g.level, false, g.many, g.err⟩) (by simp [results, Tryd.f11, go_sem, hlt2, c0, c1]) rfl ⟨by rw [← hov], ?_⟩
          exact ((HB3.out.setCell (p := ⟨w.heap.size, 0, none⟩) (Nat.le_refl _) _).setCell (p := ⟨w.heap.size, 1, none⟩) (Nat.le_refl _) _).alloc (by simp; omega) _
      | true =>
        replace HSig := Lib.hid (HSig.out h1 (.inl rfl))
        clear h1 HEs HEn HPd
        generalize gotS true zs A S = g at *
        go_enter Tryd.func11, Tryd.ntmps11
        go_wp2_with fail
        generalize w.alloc (.cells #[.int .i64 0, .int .i64 0] 26 (0, 0)) = w1 at *
        refine HTx.out.mono ?_
        rintro e w2 ⟨rfl, b2⟩
        have hs2 := b2.size
        have hh := (b2.block w.heap.size (by omega)).trans hbox
        have HB2 := Lib.hid (HB0.out.trans (b2.mono (by omega)))
        clear b2 hbox
        go_wp2_with fail
        refine (HPe.out _).mono ?_
        rintro e w' ⟨rfl, rfl⟩
        go_wp2_with fail
        refine (HSg.out _ (HT.out _ HB2.out).1).mono ?_
        rintro e w3 ⟨hR, b3⟩
        obtain ⟨rfl, hov⟩ := HSig.out _ hR
        clear hR
        have hs3 := b3.size
        have hh3 := (b3.block w.heap.size (by omega)).trans hh
        obtain ⟨c0, c1, f0, f1⟩ := pair_cells hh3
        have hlt2 : w.heap.size < w3.heap.size := by omega
        have HB3 := Lib.hid (HB2.out.trans (b3.mono (by omega)))
        clear b3 hh hh3
        go_wp2
        refine bodyPost_ret (v := gotV ⟨g.run, g.level, false, g.many, g.err⟩) (by simp [results, Tryd.f11, go_sem, hlt2, c0, c1]) rfl ⟨by rw [← hov], ?_⟩
        exact ((HB3.out.setCell (p := ⟨w.heap.size, 0, none⟩) (Nat.le_refl _) _).setCell (p := ⟨w.heap.size, 1, none⟩) (Nat.le_refl _) _).alloc (by simp; omega) _

theorem coeffI : CoeffI where
  get := fun hB hn hl hT x first hx => eget_any hB hn hl hT x first hx
  put := fun r l first w hT h1 h2 => eput_any r l first w hT h1 h2
  esc := fun r l w hT => eescape_any r l w hT.2
  short := fun r l w hT h1 h2 => eshort_any r l w hT h1 h2
  fin := fun w => by
    have h := eend_any w
    rwa [end8_eq] at h

end Go.Proofs.YtejcgkplcbapfaaDoor
