/- Contracts of the reference's coeff (praxinoscoperef08): Pair, code, Short, Escape, Put. -/
import Derived.Test.YtejcgkplcbapfaaDoorERef2
import Derived.Lib.QuietBelow
namespace Go.Proofs.YtejcgkplcbapfaaDoor
open Go.RowKit Go.Shelf Go.Sort
set_option linter.unusedVariables false

/-- a pair as a value -/
abbrev pairV (r l : Int) : Value := .agg #[.int .i64 r, .int .i64 l]
theorem isP_yes {r l : Int} (h1 : 0 ≤ r) (h2 : r ≤ 63) (h3 : -127 ≤ l) (h4 : l ≤ 127) (h5 : l ≠ 0) : isP r l = true := decide_eq_true ⟨h1, h2, h3, h4, h5⟩
theorem isP_no {r l : Int} (h : r < 0 ∨ 63 < r ∨ l < -127 ∨ 127 < l ∨ l = 0) : isP r l = false := decide_eq_false (by omega)
theorem isP_of {r l : Int} (h : isP r l = true) : 0 ≤ r ∧ r ≤ 63 ∧ -127 ≤ l ∧ l ≤ 127 ∧ l ≠ 0 := of_decide_eq_true h

set_option maxHeartbeats 1000000 in
theorem r8pair_any (r l : Int) (w : World) : Calls Tryd.prog 36 #[pairV r l] w fun e w' => e = .returned (.bool (isP r l)) ∧ Below w.heap.size w w' := by
  have hb : Below w.heap.size w (w.alloc (.cells #[.int .i64 r, .int .i64 l] 26 (0, 0))) := (Below.refl _ w).alloc (Nat.le_refl _) _
  by_cases h1 : 0 ≤ r
  · by_cases h2 : r ≤ 63
    · by_cases h3 : -127 ≤ l
      · by_cases h4 : l ≤ 127
        · by_cases h5 : l = 0
          · subst h5
            rw [isP_no (by omega)]
            go_enter Tryd.func36, Tryd.ntmps36
            go_wp2
            go_ret
            exact ⟨rfl, hb⟩
          · rw [isP_yes h1 h2 h3 h4 h5]
            have t5 : (l != 0) = true := by simp [h5]
            clear h5
            go_enter Tryd.func36, Tryd.ntmps36
            go_wp2
            go_ret
            exact ⟨rfl, hb⟩
        · rw [isP_no (by omega)]
          go_enter Tryd.func36, Tryd.ntmps36
          go_wp2
          go_ret
          exact ⟨rfl, hb⟩
      · rw [isP_no (by omega)]
        go_enter Tryd.func36, Tryd.ntmps36
        go_wp2
        go_ret
        exact ⟨rfl, hb⟩
    · rw [isP_no (by omega)]
      go_enter Tryd.func36, Tryd.ntmps36
      go_wp2
      go_ret
      exact ⟨rfl, hb⟩
  · rw [isP_no (by omega)]
    go_enter Tryd.func36, Tryd.ntmps36
    go_wp2
    go_ret
    exact ⟨rfl, hb⟩

/-! ### where a pair stands in the table -/
def matchP (r l : Int) (p : Nat × Nat) : Bool := decide ((p.1 : Int) = r ∧ ((p.2 : Int) = l ∨ (p.2 : Int) = -l))
theorem pairAt_small {k : Nat} : (pairAt k).1 ≤ 26 ∧ (pairAt k).2 ≤ 15 := by
  by_cases h : k < 63
  · exact (by decide +kernel : ∀ k : Fin 63, (pairAt k.val).1 ≤ 26 ∧ (pairAt k.val).2 ≤ 15) ⟨k, h⟩
  · unfold pairAt
    rw [List.getElem?_eq_none (by rw [pairs8_length]; omega)]
    decide
theorem pairAt_one {k : Nat} (h : k < 63) : 1 ≤ (pairAt k).2 := (by decide +kernel : ∀ k : Fin 63, 1 ≤ (pairAt k.val).2) ⟨k, h⟩
theorem tabI_some {r l : Int} {k : Nat} (hk : k < 63) (hb : matchP r l (pairAt k) = true) (hno : ∀ j, j < k → matchP r l (pairAt j) = false) : tabI r l = some k := by
  unfold tabI
  rw [List.findIdx?_eq_some_iff_getElem]
  have hk2 : k < pairs8.length := hk
  refine ⟨hk, ?_, fun j hj => ?_⟩
  · have := hb
    unfold pairAt at this
    rw [List.getElem?_eq_getElem hk2] at this
    exact this
  · have := hno j hj
    unfold pairAt at this
    rw [List.getElem?_eq_getElem (by omega)] at this
    unfold matchP at this
    simpa using this
theorem tabI_none {r l : Int} (hno : ∀ j, j < 63 → matchP r l (pairAt j) = false) : tabI r l = none := by
  unfold tabI
  rw [List.findIdx?_eq_none_iff]
  intro y hy
  obtain ⟨j, hj, rfl⟩ := List.getElem_of_mem hy
  have := hno j hj
  unfold pairAt at this
  rw [List.getElem?_eq_getElem hj] at this
  exact this
theorem tabI_lt {r l : Int} {k : Nat} (h : tabI r l = some k) : k < 63 ∧ matchP r l (pairAt k) = true := by
  unfold tabI at h
  rw [List.findIdx?_eq_some_iff_getElem] at h
  obtain ⟨h1, h2, _⟩ := h
  refine ⟨h1, ?_⟩
  unfold pairAt
  rw [List.getElem?_eq_getElem h1]
  exact h2

theorem cell_pair {w : World} {base : Nat} {v : Value} (h : w.ownsRow base 26 2 v 63 (cellsP pairs8)) : ∃ g cap, v = .slice (some ⟨g, 0, none⟩) 63 cap ∧ base ≤ g ∧ g < w.heap.size ∧ ∀ k, k < 63 → w.cell? ⟨g, 2 * k, none⟩ = some (.int .i64 ((pairAt k).1 : Nat)) ∧ w.cell? ⟨g, 2 * k + 1, none⟩ = some (.int .i64 ((pairAt k).2 : Nat)) := by
  rcases id h.2 with ⟨_, h0⟩ | ⟨g, cap, cur, rfl, hb, hg, _⟩
  · simp at h0
  · refine ⟨g, cap, rfl, hb, (Array.getElem?_eq_some_iff.1 hg).1, fun k hk => ?_⟩
    obtain ⟨e1, e2⟩ := cellsP_at pairs8 (k := k) hk
    exact ⟨(h.cellAt (2 * k) (by omega)).trans e1, (h.cellAt (2 * k + 1) (by omega)).trans e2⟩
theorem cell_code {w : World} {base : Nat} {v : Value} (h : w.ownsRow base 9 1 v 63 (strV codes8)) : ∃ g cap, v = .slice (some ⟨g, 0, none⟩) 63 cap ∧ base ≤ g ∧ g < w.heap.size ∧ ∀ k, k < 63 → w.cell? ⟨g, k, none⟩ = some (.string (codeAt k)) := by
  rcases id h.2 with ⟨_, h0⟩ | ⟨g, cap, cur, rfl, hb, hg, _⟩
  · simp at h0
  · refine ⟨g, cap, rfl, hb, (Array.getElem?_eq_some_iff.1 hg).1, fun k hk => ?_⟩
    have hk3 : k < codes8.length := hk
    exact (h.cellAt k (by omega)).trans (by simp [codeAt, hk3])

set_option maxRecDepth 100000 in
set_option maxHeartbeats 4000000 in
theorem r8code_any (r l : Int) (w : World) (hl1 : -9223372036854775808 ≤ l) (hl2 : l ≤ 9223372036854775807) :
    Calls Tryd.prog 37 #[pairV r l] w fun e w' => e = .returned (.string (codeOf r l)) ∧ Below w.heap.size w w' := by
  have hb0 : Below w.heap.size w (w.alloc (.cells #[.int .i64 r, .int .i64 l] 26 (0, 0))) := (Below.refl _ w).alloc (Nat.le_refl _) _
  have hbox := World.alloc_heap_new w (.cells #[.int .i64 r, .int .i64 l] 26 (0, 0))
  have hsz : (w.alloc (.cells #[.int .i64 r, .int .i64 l] 26 (0, 0))).heap.size = w.heap.size + 1 := by simp
  have HK := Lib.hid (r8coded_any (w.alloc (.cells #[.int .i64 r, .int .i64 l] 26 (0, 0))))
  go_enter Tryd.func37, Tryd.ntmps37
  go_wp2_with fail
  generalize w.alloc (.cells #[.int .i64 r, .int .i64 l] 26 (0, 0)) = w1 at *
  have HB0 := Lib.hid hb0
  refine HK.out.mono ?_
  rintro e w2 ⟨vp, vc, rfl, hp, hc, b2⟩
  obtain ⟨gp, cp, rfl, gp1, gp2, hpc⟩ := cell_pair hp
  obtain ⟨gc, cc, rfl, gc1, gc2, hcc⟩ := cell_code hc
  have HP := Lib.hid hpc
  have HC := Lib.hid hcc
  have hx0 : w2.cell? ⟨w.heap.size, 0, none⟩ = some (.int .i64 r) := (b2.cell (p := ⟨w.heap.size, 0, none⟩) (by simp; omega)).trans (by simp [World.cell?, hbox])
  have hx1 : w2.cell? ⟨w.heap.size, 1, none⟩ = some (.int .i64 l) := (b2.cell (p := ⟨w.heap.size, 1, none⟩) (by simp; omega)).trans (by simp [World.cell?, hbox])
  have HB2 := Lib.hid (hb0.trans (b2.mono (by omega)))
  have hw2 : w.heap.size < w2.heap.size := by have := b2.size; omega
  have hw3 : w.heap.size ≤ w2.heap.size := by omega
  clear hp hc b2 hpc hcc HK hb0 hbox
  go_wp2_with fail
  go_loopw [5] (fun i wr => ∃ k : Nat, k ≤ 63 ∧ i = .int .i64 k ∧ (∀ j, j < k → matchP r l (pairAt j) = false) ∧ Below w2.heap.size w2 wr) (fun i _ => 63 - (intOf i).toNat)
  case atStart => exact ⟨0, Nat.zero_le _, rfl, (fun j hj => by omega), Below.refl _ _⟩
  case round =>
    obtain ⟨k, hk, rfl, hno, hB⟩ := hrel
    have HN := Lib.hid hno
    have HB := Lib.hid hB
    clear hno
    by_cases hk2 : k < 63
    · obtain ⟨c0, c1⟩ := HP.out k hk2
      have c2 := HC.out k hk2
      replace c0 := (hB.cell (p := ⟨gp, 2 * k, none⟩) gp2).trans c0
      replace c1 := (hB.cell (p := ⟨gp, 2 * k + 1, none⟩) gp2).trans c1
      replace c2 := (hB.cell (p := ⟨gc, k, none⟩) gc2).trans c2
      rw [Nat.mul_comm] at c0 c1
      have y0 := (hB.cell (p := ⟨w.heap.size, 0, none⟩) hw2).trans hx0
      have y1 := (hB.cell (p := ⟨w.heap.size, 1, none⟩) hw2).trans hx1
      obtain ⟨s1, s2⟩ := pairAt_small (k := k)
      have s3 := pairAt_one hk2
      have HTs := Lib.hid (fun h => tabI_some (r := r) (l := l) hk2 h HN.out)
      have HNx := Lib.hid (fun (h : matchP r l (pairAt k) = false) j (hj : j < k + 1) => if e : j = k then e ▸ h else HN.out j (by omega))
      unfold matchP at HTs HNx
      generalize pairAt k = p at *
      obtain ⟨a, b⟩ := p
      simp only at c0 c1 s1 s2 s3 HTs HNx
      clear hB
      by_cases t1 : (a : Int) = r
      · by_cases t2 : (b : Int) = l
        · have e1 : ((a : Int) == r) = true := by simp [t1]
          have e2 : ((b : Int) == l) = true := by simp [t2]
          have HE := Lib.hid (show codeOf r l = codeAt k by unfold codeOf; rw [HTs.out (decide_eq_true ⟨t1, .inl t2⟩)])
          clear t1 t2 HN HTs HNx
          go_wp2
          go_quiet (fail)
          go_wp2
          go_ret
          exact ⟨by rw [HE.out]; rfl, HB2.out.trans ((HB.out.trans (below_drewN _ _ _)).mono (by omega))⟩
        · have e1 : ((a : Int) == r) = true := by simp [t1]
          have e2 : ((b : Int) == l) = false := by simp [t2]
          by_cases t3 : (b : Int) = -l
          · have e3 : ((b : Int) == -l) = true := by simp [t3]
            have e4 : IntKind.i64.wrap (-l) = -l := by rw [IntKind.wrap_i64]; omega
            have HE := Lib.hid (show codeOf r l = codeAt k by unfold codeOf; rw [HTs.out (decide_eq_true ⟨t1, .inr t3⟩)])
            have hl3 : -15 ≤ l := by omega
            have hl4 : l ≤ -1 := by omega
            clear t1 t2 t3 HN HTs HNx
            go_wp2
            go_quiet (fail)
            go_wp2
            go_ret
            exact ⟨by rw [HE.out]; rfl, HB2.out.trans ((HB.out.trans (below_drewN _ _ _)).mono (by omega))⟩
          · have HNo := Lib.hid (HNx.out (decide_eq_false (fun h => h.2.elim t2 t3)))
            by_cases hmin : l = -9223372036854775808
            · subst hmin
              have e5 : ((b : Int) == wrap64 9223372036854775808) = false := by rw [beq_eq_false_iff_ne, show wrap64 9223372036854775808 = -9223372036854775808 by decide +kernel]; omega
              clear t1 t2 t3 HN HTs HNx
              go_wp2
              go_quiet (fail)
              go_wp2
              go_roundw
              case rel => exact ⟨k + 1, by omega, by go_num, HNo.out, HB.out.trans (below_drewN _ _ _)⟩
              case measure => simp [intOf]; omega
            · have e3 : ((b : Int) == -l) = false := by simp [t3]
              clear t1 t2 t3 HN HTs HNx
              go_wp2
              go_quiet (fail)
              go_wp2
              go_roundw
              case rel => exact ⟨k + 1, by omega, by go_num, HNo.out, HB.out.trans (below_drewN _ _ _)⟩
              case measure => simp [intOf]; omega
      · have e1 : ((a : Int) == r) = false := by simp [t1]
        have HNo := Lib.hid (HNx.out (decide_eq_false (fun h => t1 h.1)))
        clear t1 HN HTs HNx
        go_wp2
        go_quiet (fail)
        go_wp2
        go_roundw
        case rel => exact ⟨k + 1, by omega, by go_num, HNo.out, HB.out.trans (below_drewN _ _ _)⟩
        case measure => simp [intOf]; omega
    · obtain rfl : k = 63 := by omega
      have HE := Lib.hid (show codeOf r l = ⟨#[]⟩ by unfold codeOf; rw [tabI_none HN.out])
      clear HN
      go_wp2
      go_ret
      exact ⟨by rw [HE.out]; rfl, HB2.out.trans (hB.mono (by omega))⟩

theorem codeAt_one {k : Nat} (h : k < 63) : codeAt k ≠ ⟨#[]⟩ ∧ 2 ≤ (codeAt k).size ∧ (codeAt k).size ≤ 13 := by
  have h3 : k < codes8.length := h
  have := (by decide +kernel : ∀ c ∈ codes8, 2 ≤ c.size ∧ c.size ≤ 13) (codeAt k) (by unfold codeAt; rw [List.getElem?_eq_getElem h3]; exact List.getElem_mem _)
  refine ⟨fun e => ?_, this.1, this.2⟩
  rw [e] at this
  exact absurd this.1 (by decide)
theorem codeOf_none {r l : Int} (h : tabI r l = none) : codeOf r l = ⟨#[]⟩ := by unfold codeOf; rw [h]
theorem codeOf_some {r l : Int} {k : Nat} (h : tabI r l = some k) : codeOf r l = codeAt k := by unfold codeOf; rw [h]

theorem r8short_any (r l : Int) (w : World) (hl1 : -9223372036854775808 ≤ l) (hl2 : l ≤ 9223372036854775807) :
    Calls Tryd.prog 19 #[pairV r l] w fun e w' => e = .returned (.bool (shortB r l)) ∧ Below w.heap.size w w' := by
  have hb0 : Below w.heap.size w (w.alloc (.cells #[.int .i64 r, .int .i64 l] 26 (0, 0))) := (Below.refl _ w).alloc (Nat.le_refl _) _
  have HK := Lib.hid (r8code_any r l (w.alloc (.cells #[.int .i64 r, .int .i64 l] 26 (0, 0))) hl1 hl2)
  have HB0 := Lib.hid hb0
  cases ht : tabI r l with
  | none =>
    rw [codeOf_none ht] at HK
    rw [show shortB r l = false by unfold shortB; rw [ht]; rfl]
    go_enter Tryd.func19, Tryd.ntmps19
    go_wp2_with (go_at_call 37; refine HK.out.mono ?_; rintro e w2 ⟨rfl, b2⟩)
    go_ret
    exact ⟨rfl, HB0.out.trans (b2.mono (by simp))⟩
  | some k =>
    rw [codeOf_some ht] at HK
    rw [show shortB r l = true by unfold shortB; rw [ht]; rfl]
    have hne := (codeAt_one (tabI_lt ht).1).1
    generalize codeAt k = s at *
    have t1 : ¬ s.toList = [] := fun h => hne ((str_eq_iff _ _).1 (by rw [h]; simp))
    clear ht
    go_enter Tryd.func19, Tryd.ntmps19
    go_wp2_with (go_at_call 37; refine HK.out.mono ?_; rintro e w2 ⟨rfl, b2⟩)
    go_ret
    exact ⟨ret_bool (by simpa using t1), HB0.out.trans (b2.mono (by simp))⟩

set_option maxRecDepth 100000 in
set_option maxHeartbeats 4000000 in
theorem r8escape_any (r l : Int) (w : World) :
    Calls Tryd.prog 17 #[pairV r l] w fun e w' => e = .returned (.tuple #[.string (escS8 r l), .int .i64 (putE8 r l)]) ∧ Below w.heap.size w w' := by
  have hb0 : Below w.heap.size w (w.alloc (.cells #[.int .i64 r, .int .i64 l] 26 (0, 0))) := (Below.refl _ w).alloc (Nat.le_refl _) _
  have HK := Lib.hid (r8pair_any r l (w.alloc (.cells #[.int .i64 r, .int .i64 l] 26 (0, 0))))
  have HB0 := Lib.hid hb0
  cases hp : isP r l with
  | false =>
    rw [hp] at HK
    rw [show escS8 r l = ⟨#[]⟩ by unfold escS8; rw [hp]; rfl, show putE8 r l = 3 by unfold putE8; rw [hp]; rfl]
    go_enter Tryd.func17, Tryd.ntmps17
    go_wp2_with (go_at_call 36; refine HK.out.mono ?_; rintro e w2 ⟨rfl, b2⟩)
    go_ret2
    exact ⟨rfl, HB0.out.trans (b2.mono (by simp))⟩
  | true =>
    rw [hp] at HK
    rw [show escS8 r l = escS r l by unfold escS8; rw [hp]; rfl, show putE8 r l = 0 by unfold putE8; rw [hp]; rfl]
    obtain ⟨h1, h2, h3, h4, h5⟩ := isP_of hp
    obtain ⟨n, rfl⟩ := Int.eq_ofNat_of_zero_le h1
    obtain ⟨m, hm⟩ := Int.eq_ofNat_of_zero_le (Int.emod_nonneg (l + 256) (b := 256) (by omega))
    have hm2 : m < 256 := by omega
    have HE := Lib.hid (show escS (n : Int) l = esc8 ++ binS n 6 ++ binS m 8 by unfold escS; rw [hm]; rfl)
    have ht : (l + 256).tmod 256 = (m : Int) := by rw [Int.tmod_eq_emod_of_nonneg (by omega)]; exact hm
    have ht0 : IntKind.i64.wrap (l + 256) = l + 256 := by rw [IntKind.wrap_i64]; omega
    have HI6 : Hid (∀ w, Calls Tryd.prog 39 #[.int .i64 (n : Int), .int .i64 6] w fun e w' => e = .returned (.string (binS n 6)) ∧ Below w.heap.size w w') := fun w => r8bits_any n 6 (by omega) (by omega) w
    have HI8 : Hid (∀ w, Calls Tryd.prog 39 #[.int .i64 (m : Int), .int .i64 8] w fun e w' => e = .returned (.string (binS m 8)) ∧ Below w.heap.size w w') := fun w => r8bits_any m 8 (by omega) (by omega) w
    have z6 := binS_size n 6
    have z8 := binS_size m 8
    have hbox := World.alloc_heap_new w (.cells #[.int .i64 (n : Int), .int .i64 l] 26 (0, 0))
    have hsz : (w.alloc (.cells #[.int .i64 (n : Int), .int .i64 l] 26 (0, 0))).heap.size = w.heap.size + 1 := by simp
    generalize binS n 6 = s6 at *
    generalize binS m 8 = s8 at *
    clear hp hm
    go_enter Tryd.func17, Tryd.ntmps17
    go_wp2_with fail
    generalize w.alloc (.cells #[.int .i64 (n : Int), .int .i64 l] 26 (0, 0)) = w1 at *
    refine HK.out.mono ?_
    rintro e w2 ⟨rfl, b2⟩
    have hx0 : w2.cell? ⟨w.heap.size, 0, none⟩ = some (.int .i64 (n : Int)) := (b2.cell (p := ⟨w.heap.size, 0, none⟩) (by simp; omega)).trans (by simp [World.cell?, hbox])
    have hx1 : w2.cell? ⟨w.heap.size, 1, none⟩ = some (.int .i64 l) := (b2.cell (p := ⟨w.heap.size, 1, none⟩) (by simp; omega)).trans (by simp [World.cell?, hbox])
    have HB2 := Lib.hid (HB0.out.trans (b2.mono (by omega)))
    have hw2 : w.heap.size < w2.heap.size := by have := b2.size; omega
    clear b2 hbox HK hb0
    have hsx : s6.size + s8.size + 6 ≤ 1000 := by omega
    have k0 := cell_regrown hx0
    have k1 := cell_regrown hx1
    have C6 : ∀ d os, Calls Tryd.prog 39 #[.int .i64 (n : Int), .int .i64 6] (grow (redrawn w2 d) os) fun e w'' => e = .returned (.string s6) ∧ ∃ p : Regrown, w'' = grow (redrawn w2 p.d) p.os := fun d os => Calls.regrown_of (HI6.out _)
    have C8 : ∀ d os, Calls Tryd.prog 39 #[.int .i64 (m : Int), .int .i64 8] (grow (redrawn w2 d) os) fun e w'' => e = .returned (.string s8) ∧ ∃ p : Regrown, w'' = grow (redrawn w2 p.d) p.os := fun d os => Calls.regrown_of (HI8.out _)
    clear HI6 HI8
    go_wp2
    refine wp_region_quiet_below (by kernel_rfl) (by kernel_rfl) ?_
    iterate 3 quiet_step ((go_at_call 39; exact C6 _ _))
    iterate 6 quiet_step ((go_at_call 39; exact C8 _ _))
    iterate 3 quiet_step (fail)
    refine wpQuiet_nil ?_
    rintro _ ⟨⟨dq, osq⟩, rfl⟩
    go_wp2
    go_ret2
    exact ⟨by rw [HE.out]; rfl, HB2.out.trans ((below_regrown w2 dq osq).mono (by omega))⟩

/-! ### Put -/
theorem codeF_eq (first : Bool) {k : Nat} (hk : k < 63) : codeF first k = if first = true ∧ codeAt k = ⟨#[49, 49]⟩ then ⟨#[49]⟩ else codeAt k := by
  cases first with
  | false => rw [if_neg (by simp)]; rfl
  | true =>
    by_cases h : k = 0
    · subst h
      rw [if_pos ⟨rfl, by decide +kernel⟩]
      decide +kernel
    · have h2 : codeAt k ≠ ⟨#[49, 49]⟩ := by
        have := (by decide +kernel : ∀ k : Fin 63, k.val ≠ 0 → codeAt k.val ≠ ⟨#[49, 49]⟩) ⟨k, hk⟩ h
        exact this
      rw [if_neg (fun e => h2 e.2)]
      unfold codeF
      rw [if_neg (by simp [h])]

set_option maxRecDepth 100000 in
set_option maxHeartbeats 4000000 in
theorem r8put_any (r l : Int) (first : Bool) (w : World) (hl1 : -9223372036854775808 ≤ l) (hl2 : l ≤ 9223372036854775807) :
    Calls Tryd.prog 15 #[pairV r l, .bool first] w fun e w' => e = .returned (.tuple #[.string (putS8 first r l), .int .i64 (putE8 r l)]) ∧ Below w.heap.size w w' := by
  have hb0 : Below w.heap.size w (w.alloc (.cells #[.int .i64 r, .int .i64 l] 26 (0, 0))) := (Below.refl _ w).alloc (Nat.le_refl _) _
  have HK := Lib.hid (r8pair_any r l (w.alloc (.cells #[.int .i64 r, .int .i64 l] 26 (0, 0))))
  have HB0 := Lib.hid hb0
  cases hp : isP r l with
  | false =>
    rw [hp] at HK
    rw [show putS8 first r l = ⟨#[]⟩ by unfold putS8; rw [hp]; rfl, show putE8 r l = 3 by unfold putE8; rw [hp]; rfl]
    go_enter Tryd.func15, Tryd.ntmps15
    go_wp2_with (go_at_call 36; refine HK.out.mono ?_; rintro e w2 ⟨rfl, b2⟩)
    go_ret2
    exact ⟨rfl, HB0.out.trans (b2.mono (by simp))⟩
  | true =>
    rw [hp] at HK
    have HE8 := Lib.hid (show escS8 r l = escS r l by unfold escS8; rw [hp]; rfl)
    have hE0 : putE8 r l = 0 := by unfold putE8; rw [hp]; rfl
    have HCd := Lib.hid (fun w => r8code_any r l w hl1 hl2)
    have HEs := Lib.hid (fun w => r8escape_any r l w)
    rw [HE8.out, hE0] at HEs
    rw [hE0, show putS8 first r l = putP first r l by unfold putS8; rw [hp]; rfl]
    have hbox := World.alloc_heap_new w (.cells #[.int .i64 r, .int .i64 l] 26 (0, 0))
    have hsz : (w.alloc (.cells #[.int .i64 r, .int .i64 l] 26 (0, 0))).heap.size = w.heap.size + 1 := by simp
    cases ht : tabI r l with
    | none =>
      rw [codeOf_none ht] at HCd
      rw [show putP first r l = escS r l by unfold putP; rw [ht]]
      generalize escS r l = s at *
      go_enter Tryd.func15, Tryd.ntmps15
      go_wp2_with fail
      generalize w.alloc (.cells #[.int .i64 r, .int .i64 l] 26 (0, 0)) = w1 at *
      refine HK.out.mono ?_
      rintro e w2 ⟨rfl, b2⟩
      have B2 := b2
      have hx0 : w2.cell? ⟨w.heap.size, 0, none⟩ = some (.int .i64 r) := (b2.cell (p := ⟨w.heap.size, 0, none⟩) (by simp; omega)).trans (by simp [World.cell?, hbox])
      have hx1 : w2.cell? ⟨w.heap.size, 1, none⟩ = some (.int .i64 l) := (b2.cell (p := ⟨w.heap.size, 1, none⟩) (by simp; omega)).trans (by simp [World.cell?, hbox])
      have hs2 := b2.size
      clear b2 hbox
      go_wp2_with fail
      refine (HCd.out _).mono ?_
      rintro e w3 ⟨rfl, b3⟩
      have y0 := (b3.cell (p := ⟨w.heap.size, 0, none⟩) (by simp; omega)).trans hx0
      have y1 := (b3.cell (p := ⟨w.heap.size, 1, none⟩) (by simp; omega)).trans hx1
      have B3 := B2.trans (b3.mono hs2)
      have hs3 := b3.size
      clear hx0 hx1 b3
      go_wp2_with fail
      refine (HEs.out _).mono ?_
      rintro e w4 ⟨rfl, b4⟩
      go_wp2
      go_ret2
      exact ⟨rfl, HB0.out.trans ((B3.trans (b4.mono (by omega))).mono (by omega))⟩
    | some k =>
      obtain ⟨hk, _⟩ := tabI_lt ht
      rw [codeOf_some ht] at HCd
      rw [show putP first r l = codeF first k ++ signS l by unfold putP; rw [ht], codeF_eq first hk]
      obtain ⟨c0, c1, c2⟩ := codeAt_one hk
      generalize codeAt k = s at *
      have t0 : ¬ s.toList = [] := fun h => c0 ((str_eq_iff _ _).1 (by rw [h]; simp))
      obtain ⟨z0, z1⟩ := two_cells w (.int .i64 r) (.int .i64 l) 26
      clear hp ht hbox HEs HE8 hE0 c0
      have e0 : s.toList.isEmpty = false := by cases hh : s.toList with | nil => exact absurd hh t0 | cons a b => rfl
      generalize hT : (if first = true ∧ s = (⟨#[49, 49]⟩ : ByteArray) then (⟨#[49]⟩ : ByteArray) else s) = T at *
      have HT := Lib.hid hT.symm
      clear hT
      go_enter Tryd.func15, Tryd.ntmps15
      go_wp2_with fail
      generalize w.alloc (.cells #[.int .i64 r, .int .i64 l] 26 (0, 0)) = w1 at *
      refine HK.out.mono ?_
      rintro e w2 ⟨rfl, b2⟩
      have B2 := b2
      have hx0 := (b2.cell (p := ⟨w.heap.size, 0, none⟩) (by simp; omega)).trans z0
      have hx1 := (b2.cell (p := ⟨w.heap.size, 1, none⟩) (by simp; omega)).trans z1
      have hs2 := b2.size
      clear b2 z0 z1
      go_wp2_with fail
      refine (HCd.out _).mono ?_
      rintro e w3 ⟨rfl, b3⟩
      have y0 := (b3.cell (p := ⟨w.heap.size, 0, none⟩) (by simp; omega)).trans hx0
      have y1 := (b3.cell (p := ⟨w.heap.size, 1, none⟩) (by simp; omega)).trans hx1
      have B3 := HB0.out.trans ((B2.trans (b3.mono hs2)).mono (by omega))
      clear hx0 hx1 b3
      cases first with
      | false =>
        by_cases hl : l < 0
        · have HG := Lib.hid (show signS l = ⟨#[49]⟩ by unfold signS; rw [if_pos hl]; rfl)
          go_wp2
          go_ret2
          exact ⟨by rw [HT.out, if_neg (by simp), HG.out]; rfl, B3⟩
        · have HG := Lib.hid (show signS l = ⟨#[48]⟩ by unfold signS; rw [if_neg hl]; rfl)
          go_wp2
          go_ret2
          exact ⟨by rw [HT.out, if_neg (by simp), HG.out]; rfl, B3⟩
      | true =>
        by_cases hs : s = ⟨#[49, 49]⟩
        · subst hs
          by_cases hl : l < 0
          · have HG := Lib.hid (show signS l = ⟨#[49]⟩ by unfold signS; rw [if_pos hl]; rfl)
            go_wp2
            go_ret2
            exact ⟨by rw [HT.out, if_pos (by simp), HG.out]; rfl, B3⟩
          · have HG := Lib.hid (show signS l = ⟨#[48]⟩ by unfold signS; rw [if_neg hl]; rfl)
            go_wp2
            go_ret2
            exact ⟨by rw [HT.out, if_pos (by simp), HG.out]; rfl, B3⟩
        · have HNs := Lib.hid hs
          have t1 : (s.toList == (⟨#[49, 49]⟩ : ByteArray).toList) = false := Bool.eq_false_iff.2 (fun h => hs ((str_eq_iff _ _).1 h))
          have t2 : (s.toList == [49, 49]) = false := by rw [← t1]; simp
          clear hs
          by_cases hl : l < 0
          · have HG := Lib.hid (show signS l = ⟨#[49]⟩ by unfold signS; rw [if_pos hl]; rfl)
            go_wp2
            go_ret2
            exact ⟨by rw [HT.out, if_neg (fun e => HNs.out e.2), HG.out]; rfl, B3⟩
          · have HG := Lib.hid (show signS l = ⟨#[48]⟩ by unfold signS; rw [if_neg hl]; rfl)
            go_wp2
            go_ret2
            exact ⟨by rw [HT.out, if_neg (fun e => HNs.out e.2), HG.out]; rfl, B3⟩

end Go.Proofs.YtejcgkplcbapfaaDoor
