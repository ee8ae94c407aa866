/- The contract of the law BitsPens: it returns true, and nothing that lay is changed. -/
import Derived.Test.YtglnmaekhpaffaaRef5
import Derived.Test.YtglnmaekhpaffaaActs
import Derived.Test.YtglnmaekhpaffaaKit
namespace Go.Proofs.Ytglnmaekhpaffaa
open Go.RowKit Go.Shelf
set_option linter.unusedVariables false

theorem pen_ref_apart {w : World} {b b2 : Nat} {g g2 : Option Nat} {L L2 : List Bool} (hp : IsPen w b g L) (hr : IsRef w b2 g2 L2) : b ≠ b2 ∧ g ≠ some b2 ∧ g2 ≠ some b ∧ ∀ k, g = some k → g2 ≠ some k := by
  obtain ⟨v, zs, rfl, hb, hrow, _⟩ := hp
  obtain ⟨v2, rfl, hb2, hrow2, _⟩ := hr
  have key : ∀ k, v.ownBlock = some k → ∃ cur, w.heap[k]? = some (.cells cur 5 (0, 0)) := by
    intro k e
    rcases hrow.2 with ⟨rfl, _⟩ | ⟨g', cap, cur, rfl, _, hg, _⟩
    · simp [Value.ownBlock] at e
    · simp [Value.ownBlock] at e
      subst e
      exact ⟨cur, hg⟩
  have key2 : ∀ k, v2.ownBlock = some k → ∃ cur, w.heap[k]? = some (.cells cur 3 (0, 0)) := by
    intro k e
    rcases hrow2.2 with ⟨rfl, _⟩ | ⟨g', cap, cur, rfl, _, hg, _⟩
    · simp [Value.ownBlock] at e
    · simp [Value.ownBlock] at e
      subst e
      exact ⟨cur, hg⟩
  refine ⟨fun e => ?_, fun e => ?_, fun e => ?_, fun k e e2 => ?_⟩
  · subst e; rw [hb] at hb2; simp [penCells, refCells] at hb2
  · obtain ⟨cur, h⟩ := key _ e; rw [hb2] at h; simp [refCells] at h
  · obtain ⟨cur, h⟩ := key2 _ e; rw [hb] at h; simp [penCells] at h
  · obtain ⟨cur, h⟩ := key _ e
    obtain ⟨cur2, h2⟩ := key2 _ e2
    rw [h] at h2
    simp at h2

/-- a pen that wrote L, and the reference's pen that wrote L2 -/
def Half (n₀ : Nat) (w : World) (b b2 : Nat) (L L2 : List Bool) : Prop :=
  ∃ g g2, IsPen w b g L ∧ IsRef w b2 g2 L2 ∧ n₀ ≤ b ∧ n₀ ≤ b2 ∧ (∀ k, g = some k → n₀ ≤ k) ∧ ∀ k, g2 = some k → n₀ ≤ k
theorem Half.over {S : Nat → Prop} {n₀ : Nat} {w w1 w2 : World} {b b2 : Nat} {L L2 : List Bool} (h : Half n₀ w b b2 L L2) (hb : Below w.heap.size w w1) (hbar : Bar S w1 w2) (hS : ∀ k, S k → w.heap.size ≤ k) : Half n₀ w2 b b2 L L2 := by
  obtain ⟨g, g2, hp, hr, h1, h2, h3, h4⟩ := h
  have p1 := hp.lt
  have r1 := hr.lt
  have hp1 : IsPen w1 b g L := hp.bar (bar_of_below (S := fun _ => False) hb) (fun e => e) (fun _ _ e => e)
  have hr1 : IsRef w1 b2 g2 L2 := hr.bar (bar_of_below (S := fun _ => False) hb) (fun e => e) (fun _ _ e => e)
  exact ⟨g, g2, hp1.bar hbar (fun s => by have := hS _ s; omega) (fun k e s => by have := hS _ s; have := p1.2 k e; omega), hr1.bar hbar (fun s => by have := hS _ s; omega) (fun k e s => by have := hS _ s; have := r1.2 k e; omega), h1, h2, h3, h4⟩
theorem Half.later {n₀ : Nat} {w w1 : World} {b b2 : Nat} {L L2 : List Bool} (h : Half n₀ w b b2 L L2) (hb : Below w.heap.size w w1) : Half n₀ w1 b b2 L L2 :=
  h.over hb (Bar.refl (fun _ => False) _) (fun _ e => e.elim)
theorem half_pen {n₀ : Nat} {w : World} {b b2 : Nat} {L L2 : List Bool} (h : Half n₀ w b b2 L L2) (hn : n₀ ≤ w.heap.size) :
    ∃ g, IsPen w b g L ∧ ∀ w' L', Wrote w.drew w' b g L' → Half n₀ w' b b2 L' L2 ∧ Below n₀ w w' := by
  obtain ⟨g, g2, hp, hr, h1, h2, h3, h4⟩ := h
  obtain ⟨a1, a2, a3, a4⟩ := pen_ref_apart hp hr
  refine ⟨g, hp, fun w' L' hw => ?_⟩
  obtain ⟨g', hp', hbar0, hk⟩ := hw
  have hbar : Bar (fun k => k = b ∨ g = some k) w w' := ⟨hbar0.os, hbar0.tape, hbar0.output, hbar0.size, hbar0.block⟩
  refine ⟨⟨g', g2, hp', hr.bar hbar (fun e => ?_) (fun k e e2 => ?_), h1, h2, fun k e => ?_, h4⟩, hbar.below hn (fun k hk e => ?_)⟩
  · rcases e with e | e
    · exact a1 e.symm
    · exact a2 e
  · rcases e2 with rfl | e2
    · exact a3 e
    · exact a4 k e2 e
  · rcases hk k e with h | h
    · exact h3 k h
    · exact Nat.le_trans hn h
  · rcases e with rfl | e
    · omega
    · have := h3 k e; omega
theorem half_ref {n₀ : Nat} {w : World} {b b2 : Nat} {L L2 : List Bool} (h : Half n₀ w b b2 L L2) (hn : n₀ ≤ w.heap.size) :
    ∃ g2, IsRef w b2 g2 L2 ∧ ∀ w' L', RefWrote w w' b2 g2 L' → Half n₀ w' b b2 L L' ∧ Below n₀ w w' := by
  obtain ⟨g, g2, hp, hr, h1, h2, h3, h4⟩ := h
  obtain ⟨a1, a2, a3, a4⟩ := pen_ref_apart hp hr
  refine ⟨g2, hr, fun w' L' hw => ?_⟩
  obtain ⟨g', hr', hbar, hk⟩ := hw
  refine ⟨⟨g, g', hp.bar hbar (fun e => ?_) (fun k e e2 => ?_), hr', h1, h2, h3, fun k e => ?_⟩, hbar.below hn (fun k hk e => ?_)⟩
  · rcases e with e | e
    · exact a1 e
    · exact a3 e
  · rcases e2 with rfl | e2
    · exact a2 e
    · exact a4 k e e2
  · rcases hk k e with h | h
    · exact h4 k h
    · exact Nat.le_trans hn h
  · rcases e with rfl | e
    · omega
    · have := h4 k e; omega
theorem Half.ref {n₀ : Nat} {w : World} {b b2 : Nat} {L L2 : List Bool} (h : Half n₀ w b b2 L L2) : (∃ g, IsPen w b g L) ∧ ∃ g2, IsRef w b2 g2 L2 := by
  obtain ⟨g, g2, hp, hr, _⟩ := h
  exact ⟨⟨g, hp⟩, g2, hr⟩

theorem long_false {xs : List Act4} (h : longB xs = false) : xs.length ≤ 60 ∧ ∀ x ∈ xs, x.s.size ≤ 100 := by
  unfold longB at h
  rw [Bool.or_eq_false_iff] at h
  obtain ⟨h1, h2⟩ := h
  have hl : xs.length ≤ 60 := by simpa using h2
  refine ⟨hl, fun x hx => ?_⟩
  rw [List.take_of_length_le (by omega), List.any_eq_false] at h1
  simpa using h1 x hx

/-- what holds in every world of the law's long test -/
abbrev PensS (w7 w' : World) (b2 : Nat) (v : Value) : Prop := Below w7.heap.size w7 w' ∧ w'.cell? ⟨b2, 0, none⟩ = some v
theorem pens_keep {w7 wx wy : World} {b2 : Nat} {v : Value} (hlt : b2 < w7.heap.size) (h : PensS w7 wx b2 v) (hb : Below wx.heap.size wx wy) : PensS w7 wy b2 v := by
  have hs := h.1.size
  exact ⟨below_chain h.1 (Nat.le_refl _) hb, (hb.cell (p := ⟨b2, 0, none⟩) (by simp only; omega)).trans h.2⟩
theorem IsRef.later {w w' : World} {b : Nat} {g : Option Nat} {L : List Bool} (h : IsRef w b g L) (hb : Below w.heap.size w w') : IsRef w' b g L :=
  h.bar (bar_of_below (S := fun _ => False) hb) (fun e => e) (fun _ _ e => e)

set_option maxRecDepth 100000 in
set_option maxHeartbeats 8000000 in
theorem bitsPens_walk (sv : Value) (xs : List Act4) (w : World) (hB : IsActs w.heap.size w sv xs) :
    Calls Try.prog 3 #[sv] w fun e w' => e = .returned (.bool true) ∧ Below w.heap.size w w' := by
  have HL := Lib.hid (long_any hB)
  have HB := Lib.hid hB
  obtain ⟨a, cap, rfl, hxl, _⟩ := hB
  go_enter Try.func3, Try.ntmps3
  go_wp2_with fail
  refine HL.out.mono ?_
  rintro e w1 ⟨rfl, rfl⟩
  by_cases hlong : longB xs = true
  · rw [hlong]
    go_wp2_with (go_at_call 10; refine (awake_any _).mono ?_; rintro e w5 ⟨rfl, hb5⟩)
    go_ret
    exact ⟨rfl, hb5⟩
  have hlf : longB xs = false := by simpa using hlong
  rw [hlf]
  obtain ⟨hx60, hx100⟩ := long_false hlf
  have HX := Lib.hid hx100
  clear hlong hlf hx100
  go_wp2_with fail
  refine (newPen_any _).mono ?_
  rintro e w1 ⟨rfl, hp, b1⟩
  have hs1 := b1.size
  have hp1 := hp.lt.1
  have HP := Lib.hid hp
  have HH : Hid (Half w.heap.size (w1.alloc (refCells (.slice none 0 0))) w.heap.size w1.heap.size [] []) :=
    ⟨none, none, hp.later ((Below.refl _ _).alloc (Nat.le_refl _) _), ⟨.slice none 0 0, rfl, World.alloc_heap_new _ _, World.ownsRow_nil _ _ _ _, by simp⟩, Nat.le_refl _, hs1, by simp, by simp⟩
  have HB1 : Hid (Below w.heap.size w (w1.alloc (refCells (.slice none 0 0)))) := b1.alloc hs1 _
  clear hp b1
  generalize hb2 : w1.heap.size = b2 at *
  go_wp2_with fail
  obtain ⟨⟨g0, hpen0⟩, _⟩ := HH.out.ref
  refine (len_any hpen0).mono ?_
  rintro e w2 ⟨rfl, rfl⟩
  generalize w1.alloc (refCells (.slice none 0 0)) = w2 at *
  clear hpen0 HP hb2
  go_wp2_with fail
  go_loopw [5] (fun i wr => ∃ (k : Nat) (L : List Bool), i = .int .i64 k ∧ k ≤ xs.length ∧ Half w.heap.size wr w.heap.size b2 L L ∧ Below w.heap.size w wr) (fun i _ => xs.length - (intOf i).toNat)
  case atStart => exact ⟨0, [], rfl, by omega, HH.out, HB1.out⟩
  case round =>
    obtain ⟨k, L, rfl, hk, hha, hB⟩ := hrel
    have HHa := Lib.hid hha
    have HBw := Lib.hid hB
    clear hha hB
    by_cases hk2 : k < xs.length
    · obtain ⟨a', cap', ea, _, hok, hcells⟩ := HB.out.below HBw.out
      cases ea
      rcases hcells with e | ⟨bx, off, rfl, hbx, hc⟩
      · rw [e] at hk2; simp at hk2
      have hmem : xs[k]?.getD default ∈ xs := by rw [List.getElem?_eq_getElem hk2]; exact List.getElem_mem _
      have hx := hok _ hmem
      have hx100 := HX.out _ hmem
      have HC := Lib.hid (fun w' (hb : Below w.heap.size wr w') j (hj : j < 4) => (hb.cell (p := ⟨bx, off + k * 4 + j, none⟩) hbx).trans (hc k hk2 j hj))
      clear hc hok
      generalize xs[k]?.getD default = x at *
      obtain ⟨cd, nn, kk, st⟩ := x
      obtain ⟨hx1, hx2⟩ := hx
      simp only at hx1 hx2 hx100
      have c0 := HC.out _ (Below.refl _ _) 0 (by omega)
      have c1 := HC.out _ (Below.refl _ _) 1 (by omega)
      have c2 := HC.out _ (Below.refl _ _) 2 (by omega)
      have c3 := HC.out _ (Below.refl _ _) 3 (by omega)
      simp only [Act4.cell, Nat.add_zero] at c0 c1 c2 c3
      have hsr := HBw.out.size
      have hki : (k : Int) < (xs.length : Int) := by omega
      have hk0 : (0 : Int) ≤ (k : Int) := by omega
      obtain ⟨g, hpen, hstep⟩ := half_pen HHa.out hsr
      have HStep := Lib.hid hstep
      clear hstep
      cases cd with
      | true =>
        have HK1 : Hid (Calls Try.prog 13 #[.pointer (some ⟨w.heap.size, 0, none⟩), .string st] wr.drew fun e w' => e = .returned (.int .i64 (codeE L st)) ∧ Wrote wr.drew w' w.heap.size g (codeL L st)) := penCode_any (w := wr.drew) hpen st hx2
        clear hpen
        go_wp2_with fail
        go_region_held3 (fun w' => w'.cell? ⟨bx, off + k * 4 + 3, none⟩ = some (.string st))
          (first | go_keep | exact c36 | exact c35)
          (first
           | (go_at_call 13; refine HK1.out.mono ?_; rintro e w5 ⟨rfl, hd⟩; obtain ⟨hh5, hBr5⟩ := HStep.out _ _ hd; have c35 := HC.out _ hBr5 3 (by omega); simp only [Act4.cell] at c35; obtain ⟨g5, hr5, hs5⟩ := half_ref hh5 (Nat.le_trans hsr hBr5.size); have HR5 := Lib.hid hr5; have HS5 := Lib.hid hs5; clear hd hh5 hr5 hs5)
           | (go_at_call 14; refine (refCode_any HR5.out st (by omega)).mono ?_; rintro e w6 ⟨rfl, hd⟩; obtain ⟨hh6, hBr6'⟩ := HS5.out _ _ hd; have hBr6 := hBr5.trans hBr6'; have c36 := HC.out _ hBr6 3 (by omega); simp only [Act4.cell] at c36; have HH6 := Lib.hid hh6; clear hd hh6 hBr6'))
        have B6 := HBw.out.trans hBr6
        have hs6 := B6.size
        clear hBr5 hBr6 c35 c36
        generalize codeL L st = L6 at *
        generalize codeE L st = ee
        obtain ⟨⟨g6, hp6⟩, g26, hr6⟩ := HH6.out.ref
        have HP6 := Lib.hid hp6
        have HR6 := Lib.hid hr6
        have hl6 : L6.length ≤ 16777216 := by obtain ⟨_, _, _, _, _, _, h⟩ := hp6; exact h
        clear hp6 hr6
        go_wp2_with fail
        refine (bytes_any HP6.out).mono ?_
        rintro e w7 ⟨zs, hpk, va, rfl, hra, b7⟩
        have hzl := hpk.1
        have HPk := Lib.hid hpk
        have HRa := Lib.hid hra
        have hlt7 : b2 < w7.heap.size := Nat.lt_of_lt_of_le HR6.out.lt.1 b7.size
        obtain ⟨v2, ev, hb2c, hrow2, _⟩ := HR6.out
        obtain ⟨av, cv, rfl⟩ := row_form hrow2
        have cr := (b7.cell (p := ⟨b2, 0, none⟩) HR6.out.lt.1).trans (ref_cell hb2c).1
        clear hpk hra ev hb2c hrow2
        have HLen : Hid (∀ w', PensS w7 w' b2 (.slice av L6.length cv) → Calls Try.prog 12 #[.pointer (some ⟨w.heap.size, 0, none⟩)] w' fun e w'' => e = .returned (.int .i64 L6.length) ∧ w' = w'') := fun w' h => len_any ((HP6.out.later b7).later h.1)
        have HRb : Hid (∀ w', PensS w7 w' b2 (.slice av L6.length cv) → Calls Try.prog 19 #[.pointer (some ⟨b2, 0, none⟩)] w' fun e w'' => ∃ vb, e = .returned vb ∧ Byt w''.heap.size w'' vb zs ∧ Below w'.heap.size w' w'') := fun w' h =>
          (refBytes_any ((HR6.out.later b7).later h.1)).mono (by
            rintro e w'' ⟨ys, hpy, vb, rfl, hrb, hb⟩
            obtain rfl := HPk.out.unique hpy
            exact ⟨vb, rfl, byt_own hrb (by omega) (Nat.le_refl _), hb⟩)
        have HSm : Hid (∀ w' vb, PensS w7 w' b2 (.slice av L6.length cv) → Byt w'.heap.size w' vb zs → Calls Try.prog 18 #[va, vb] w' fun e w'' => e = .returned (.bool true) ∧ w' = w'') := fun w' vb h hv =>
          (same_any ((byt_own (n₀ := w7.heap.size) HRa.out (by omega) (Nat.le_refl _)).below h.1) hv).mono (by rintro e w'' ⟨rfl, rfl⟩; exact ⟨by simp, rfl⟩)
        have HKeep : Hid (∀ wx wy, PensS w7 wx b2 (.slice av L6.length cv) → Below wx.heap.size wx wy → PensS w7 wy b2 (.slice av L6.length cv)) := fun _ _ h hb => pens_keep hlt7 h hb
        have H0 : Hid (PensS w7 w7.drew b2 (.slice av L6.length cv)) := ⟨below_undrew (Below.refl _ w7.drew), cr⟩
        go_wp2_with fail
        go_region_held3 (fun w' => PensS w7 w' b2 (.slice av L6.length cv))
          (first | exact H0.out | assumption | exact HKeep.out _ _ (by assumption) hbl)
          (first
           | (go_at_call 12; refine (HLen.out _ (by assumption)).mono ?_; rintro e wl ⟨rfl, rfl⟩)
           | (go_at_call 19; refine (HRb.out _ (by assumption)).mono ?_; rintro e wl ⟨vb, rfl, hvb, hbl⟩)
           | (go_at_call 18; refine (HSm.out _ _ (by assumption) hvb).mono ?_; rintro e wl ⟨rfl, rfl⟩))
        rename_i hHeld
        have b8 := below_chain b7 (Nat.le_refl _) hHeld.1
        have HRl := Lib.hid (ownsRow_bar HRa.out (bar_of_below (S := fun _ => False) hHeld.1) (fun _ _ e => e))
        clear hHeld hvb hbl cr
        go_wp2_with fail
        refine (over_any HRl.out (by omega)).mono ?_
        rintro e w9 ⟨rfl, hb9⟩
        have HH9 := Lib.hid (HH6.out.over b8 hb9 (fun k e => (HRa.out.lt k e).1))
        have B9 := (below_chain B6 (Nat.le_refl _) b8).trans (hb9.below (Nat.le_trans hs6 b8.size) (fun k hk e => by have := (HRa.out.lt k e).1; omega))
        clear hb9
        go_wp2
        go_roundw
        case rel => exact ⟨k + 1, L6, by go_num, by omega, HH9.out, B9⟩
        case measure => simp [intOf]; omega
      | false =>
        have HK1 : Hid (Calls Try.prog 15 #[.pointer (some ⟨w.heap.size, 0, none⟩), .int .i64 nn, .int .i64 kk] wr.drew fun e w' => e = .returned (.int .i64 (putE L nn kk)) ∧ Wrote wr.drew w' w.heap.size g (putL L nn kk)) := put_any (w := wr.drew) hpen nn kk hx1
        clear hpen
        go_wp2_with fail
        go_region_held3 (fun w' => w'.cell? ⟨bx, off + k * 4 + 1, none⟩ = some (.int .i64 nn) ∧ w'.cell? ⟨bx, off + k * 4 + 2, none⟩ = some (.int .i64 kk))
          (first | go_keep | exact ⟨c16, c26⟩ | exact ⟨c15, c25⟩)
          (first
           | (go_at_call 15; refine HK1.out.mono ?_; rintro e w5 ⟨rfl, hd⟩; obtain ⟨hh5, hBr5⟩ := HStep.out _ _ hd; have c15 := HC.out _ hBr5 1 (by omega); have c25 := HC.out _ hBr5 2 (by omega); simp only [Act4.cell] at c15 c25; obtain ⟨g5, hr5, hs5⟩ := half_ref hh5 (Nat.le_trans hsr hBr5.size); have HR5 := Lib.hid hr5; have HS5 := Lib.hid hs5; clear hd hh5 hr5 hs5)
           | (go_at_call 16; refine (refPut_any HR5.out nn kk hx1).mono ?_; rintro e w6 ⟨rfl, hd⟩; obtain ⟨hh6, hBr6'⟩ := HS5.out _ _ hd; have hBr6 := hBr5.trans hBr6'; have c16 := HC.out _ hBr6 1 (by omega); have c26 := HC.out _ hBr6 2 (by omega); simp only [Act4.cell] at c16 c26; have HH6 := Lib.hid hh6; clear hd hh6 hBr6'))
        have B6 := HBw.out.trans hBr6
        have hs6 := B6.size
        clear hBr5 hBr6 c15 c25 c16 c26
        generalize putL L nn kk = L6 at *
        generalize putE L nn kk = ee
        obtain ⟨⟨g6, hp6⟩, g26, hr6⟩ := HH6.out.ref
        have HP6 := Lib.hid hp6
        have HR6 := Lib.hid hr6
        have hl6 : L6.length ≤ 16777216 := by obtain ⟨_, _, _, _, _, _, h⟩ := hp6; exact h
        clear hp6 hr6
        go_wp2_with fail
        refine (bytes_any HP6.out).mono ?_
        rintro e w7 ⟨zs, hpk, va, rfl, hra, b7⟩
        have hzl := hpk.1
        have HPk := Lib.hid hpk
        have HRa := Lib.hid hra
        have hlt7 : b2 < w7.heap.size := Nat.lt_of_lt_of_le HR6.out.lt.1 b7.size
        obtain ⟨v2, ev, hb2c, hrow2, _⟩ := HR6.out
        obtain ⟨av, cv, rfl⟩ := row_form hrow2
        have cr := (b7.cell (p := ⟨b2, 0, none⟩) HR6.out.lt.1).trans (ref_cell hb2c).1
        clear hpk hra ev hb2c hrow2
        have HLen : Hid (∀ w', PensS w7 w' b2 (.slice av L6.length cv) → Calls Try.prog 12 #[.pointer (some ⟨w.heap.size, 0, none⟩)] w' fun e w'' => e = .returned (.int .i64 L6.length) ∧ w' = w'') := fun w' h => len_any ((HP6.out.later b7).later h.1)
        have HRb : Hid (∀ w', PensS w7 w' b2 (.slice av L6.length cv) → Calls Try.prog 19 #[.pointer (some ⟨b2, 0, none⟩)] w' fun e w'' => ∃ vb, e = .returned vb ∧ Byt w''.heap.size w'' vb zs ∧ Below w'.heap.size w' w'') := fun w' h =>
          (refBytes_any ((HR6.out.later b7).later h.1)).mono (by
            rintro e w'' ⟨ys, hpy, vb, rfl, hrb, hb⟩
            obtain rfl := HPk.out.unique hpy
            exact ⟨vb, rfl, byt_own hrb (by omega) (Nat.le_refl _), hb⟩)
        have HSm : Hid (∀ w' vb, PensS w7 w' b2 (.slice av L6.length cv) → Byt w'.heap.size w' vb zs → Calls Try.prog 18 #[va, vb] w' fun e w'' => e = .returned (.bool true) ∧ w' = w'') := fun w' vb h hv =>
          (same_any ((byt_own (n₀ := w7.heap.size) HRa.out (by omega) (Nat.le_refl _)).below h.1) hv).mono (by rintro e w'' ⟨rfl, rfl⟩; exact ⟨by simp, rfl⟩)
        have HKeep : Hid (∀ wx wy, PensS w7 wx b2 (.slice av L6.length cv) → Below wx.heap.size wx wy → PensS w7 wy b2 (.slice av L6.length cv)) := fun _ _ h hb => pens_keep hlt7 h hb
        have H0 : Hid (PensS w7 w7.drew b2 (.slice av L6.length cv)) := ⟨below_undrew (Below.refl _ w7.drew), cr⟩
        go_wp2_with fail
        go_region_held3 (fun w' => PensS w7 w' b2 (.slice av L6.length cv))
          (first | exact H0.out | assumption | exact HKeep.out _ _ (by assumption) hbl)
          (first
           | (go_at_call 12; refine (HLen.out _ (by assumption)).mono ?_; rintro e wl ⟨rfl, rfl⟩)
           | (go_at_call 19; refine (HRb.out _ (by assumption)).mono ?_; rintro e wl ⟨vb, rfl, hvb, hbl⟩)
           | (go_at_call 18; refine (HSm.out _ _ (by assumption) hvb).mono ?_; rintro e wl ⟨rfl, rfl⟩))
        rename_i hHeld
        have b8 := below_chain b7 (Nat.le_refl _) hHeld.1
        have HRl := Lib.hid (ownsRow_bar HRa.out (bar_of_below (S := fun _ => False) hHeld.1) (fun _ _ e => e))
        clear hHeld hvb hbl cr
        go_wp2_with fail
        refine (over_any HRl.out (by omega)).mono ?_
        rintro e w9 ⟨rfl, hb9⟩
        have HH9 := Lib.hid (HH6.out.over b8 hb9 (fun k e => (HRa.out.lt k e).1))
        have B9 := (below_chain B6 (Nat.le_refl _) b8).trans (hb9.below (Nat.le_trans hs6 b8.size) (fun k hk e => by have := (HRa.out.lt k e).1; omega))
        clear hb9
        go_wp2
        go_roundw
        case rel => exact ⟨k + 1, L6, by go_num, by omega, HH9.out, B9⟩
        case measure => simp [intOf]; omega
    · have hkx : k = xs.length := by omega
      subst k
      go_wp2_with (go_at_call 10; refine (awake_any _).mono ?_; rintro e w5 ⟨rfl, hb5⟩)
      go_ret
      exact ⟨rfl, below_chain HBw.out (Nat.le_refl _) hb5⟩

end Go.Proofs.Ytglnmaekhpaffaa
