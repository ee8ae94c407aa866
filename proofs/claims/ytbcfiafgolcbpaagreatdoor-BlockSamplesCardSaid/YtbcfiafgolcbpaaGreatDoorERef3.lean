/- Contracts of the reference's coeff (praxinoscoperef08): Pair, code, Short, Escape, Put. Contracts of the reference's coeff (praxinoscoperef08): read, Get. -/
import Derived.Test.YtbcfiafgolcbpaaGreatDoorERef
import Derived.Lib.QuietBelow
/- Contracts of the reference's coeff (praxinoscoperef08): Pair, code, Short, Escape, Put. -/
namespace Go.Proofs.YtbcfiafgolcbpaaGreatDoor
open Go.RowKit Go.Shelf Go.Sort
set_option linter.unusedVariables false

/-- a pair as a value -/
abbrev pairV (r l : Int) : Value := .agg #[.int .i64 r, .int .i64 l]
theorem isP_yes {r l : Int} (h1 : 0 ≤ r) (h2 : r ≤ 63) (h3 : -127 ≤ l) (h4 : l ≤ 127) (h5 : l ≠ 0) : isP r l = true := decide_eq_true ⟨h1, h2, h3, h4, h5⟩
theorem isP_no {r l : Int} (h : r < 0 ∨ 63 < r ∨ l < -127 ∨ 127 < l ∨ l = 0) : isP r l = false := decide_eq_false (by omega)
theorem isP_of {r l : Int} (h : isP r l = true) : 0 ≤ r ∧ r ≤ 63 ∧ -127 ≤ l ∧ l ≤ 127 ∧ l ≠ 0 := of_decide_eq_true h

set_option maxHeartbeats 1000000 in
theorem r8pair_any (r l : Int) (w : World) : Calls Tryz.prog 65 #[pairV r l] w fun e w' => e = .returned (.bool (isP r l)) ∧ Below w.heap.size w w' := by
  have hb : Below w.heap.size w (w.alloc (.cells #[.int .i64 r, .int .i64 l] 66 (0, 0))) := (Below.refl _ w).alloc (Nat.le_refl _) _
  by_cases h1 : 0 ≤ r
  · by_cases h2 : r ≤ 63
    · by_cases h3 : -127 ≤ l
      · by_cases h4 : l ≤ 127
        · by_cases h5 : l = 0
          · subst h5
            rw [isP_no (by omega)]
            go_enter Tryz.func65, Tryz.ntmps65
            go_wp2
            go_ret
            exact ⟨rfl, hb⟩
          · rw [isP_yes h1 h2 h3 h4 h5]
            have t5 : (l != 0) = true := by simp [h5]
            clear h5
            go_enter Tryz.func65, Tryz.ntmps65
            go_wp2
            go_ret
            exact ⟨rfl, hb⟩
        · rw [isP_no (by omega)]
          go_enter Tryz.func65, Tryz.ntmps65
          go_wp2
          go_ret
          exact ⟨rfl, hb⟩
      · rw [isP_no (by omega)]
        go_enter Tryz.func65, Tryz.ntmps65
        go_wp2
        go_ret
        exact ⟨rfl, hb⟩
    · rw [isP_no (by omega)]
      go_enter Tryz.func65, Tryz.ntmps65
      go_wp2
      go_ret
      exact ⟨rfl, hb⟩
  · rw [isP_no (by omega)]
    go_enter Tryz.func65, Tryz.ntmps65
    go_wp2
    go_ret
    exact ⟨rfl, hb⟩

/-! ### where a pair stands in the table -/
def matchP (r l : Int) (p : Nat × Nat) : Bool := decide ((p.1 : Int) = r ∧ ((p.2 : Int) = l ∨ (p.2 : Int) = -l))
theorem pairAt_small {k : Nat} : (pairAt k).1 ≤ 26 ∧ (pairAt k).2 ≤ 15 := by
  by_cases h : k < 63
  · exact (by decide +kernel : ∀ k : Fin 63, (pairAt k.val).1 ≤ 26 ∧ (pairAt k.val).2 ≤ 15) ⟨k, h⟩
  · unfold pairAt
    rw [List.getElem?_eq_none (by rw [pairs8_length]; omega)]
    decide
theorem pairAt_one {k : Nat} (h : k < 63) : 1 ≤ (pairAt k).2 := (by decide +kernel : ∀ k : Fin 63, 1 ≤ (pairAt k.val).2) ⟨k, h⟩
theorem tabI_some {r l : Int} {k : Nat} (hk : k < 63) (hb : matchP r l (pairAt k) = true) (hno : ∀ j, j < k → matchP r l (pairAt j) = false) : tabI r l = some k := by
  unfold tabI
  rw [List.findIdx?_eq_some_iff_getElem]
  have hk2 : k < pairs8.length := hk
  refine ⟨hk, ?_, fun j hj => ?_⟩
  · have := hb
    unfold pairAt at this
    rw [List.getElem?_eq_getElem hk2] at this
    exact this
  · have := hno j hj
    unfold pairAt at this
    rw [List.getElem?_eq_getElem (by omega)] at this
    unfold matchP at this
    simpa using this
theorem tabI_none {r l : Int} (hno : ∀ j, j < 63 → matchP r l (pairAt j) = false) : tabI r l = none := by
  unfold tabI
  rw [List.findIdx?_eq_none_iff]
  intro y hy
  obtain ⟨j, hj, rfl⟩ := List.getElem_of_mem hy
  have := hno j hj
  unfold pairAt at this
  rw [List.getElem?_eq_getElem hj] at this
  exact this
theorem tabI_lt {r l : Int} {k : Nat} (h : tabI r l = some k) : k < 63 ∧ matchP r l (pairAt k) = true := by
  unfold tabI at h
  rw [List.findIdx?_eq_some_iff_getElem] at h
  obtain ⟨h1, h2, _⟩ := h
  refine ⟨h1, ?_⟩
  unfold pairAt
  rw [List.getElem?_eq_getElem h1]
  exact h2

theorem cell_pair {w : World} {base : Nat} {v : Value} (h : w.ownsRow base 66 2 v 63 (cellsP pairs8)) : ∃ g cap, v = .slice (some ⟨g, 0, none⟩) 63 cap ∧ base ≤ g ∧ g < w.heap.size ∧ ∀ k, k < 63 → w.cell? ⟨g, 2 * k, none⟩ = some (.int .i64 ((pairAt k).1 : Nat)) ∧ w.cell? ⟨g, 2 * k + 1, none⟩ = some (.int .i64 ((pairAt k).2 : Nat)) := by
  rcases id h.2 with ⟨_, h0⟩ | ⟨g, cap, cur, rfl, hb, hg, _⟩
  · simp at h0
  · refine ⟨g, cap, rfl, hb, (Array.getElem?_eq_some_iff.1 hg).1, fun k hk => ?_⟩
    obtain ⟨e1, e2⟩ := cellsP_at pairs8 (k := k) hk
    exact ⟨(h.cellAt (2 * k) (by omega)).trans e1, (h.cellAt (2 * k + 1) (by omega)).trans e2⟩
theorem cell_code {w : World} {base : Nat} {v : Value} (h : w.ownsRow base 9 1 v 63 (strV codes8)) : ∃ g cap, v = .slice (some ⟨g, 0, none⟩) 63 cap ∧ base ≤ g ∧ g < w.heap.size ∧ ∀ k, k < 63 → w.cell? ⟨g, k, none⟩ = some (.string (codeAt k)) := by
  rcases id h.2 with ⟨_, h0⟩ | ⟨g, cap, cur, rfl, hb, hg, _⟩
  · simp at h0
  · refine ⟨g, cap, rfl, hb, (Array.getElem?_eq_some_iff.1 hg).1, fun k hk => ?_⟩
    have hk3 : k < codes8.length := hk
    exact (h.cellAt k (by omega)).trans (by simp [codeAt, hk3])

set_option maxRecDepth 100000 in
set_option maxHeartbeats 4000000 in
theorem r8code_any (r l : Int) (w : World) (hl1 : -9223372036854775808 ≤ l) (hl2 : l ≤ 9223372036854775807) :
    Calls Tryz.prog 66 #[pairV r l] w fun e w' => e = .returned (.string (codeOf r l)) ∧ Below w.heap.size w w' := by
  have hb0 : Below w.heap.size w (w.alloc (.cells #[.int .i64 r, .int .i64 l] 66 (0, 0))) := (Below.refl _ w).alloc (Nat.le_refl _) _
  have hbox := World.alloc_heap_new w (.cells #[.int .i64 r, .int .i64 l] 66 (0, 0))
  have hsz : (w.alloc (.cells #[.int .i64 r, .int .i64 l] 66 (0, 0))).heap.size = w.heap.size + 1 := by simp
  have HK := Lib.hid (r8coded_any (w.alloc (.cells #[.int .i64 r, .int .i64 l] 66 (0, 0))))
  go_enter Tryz.func66, Tryz.ntmps66
  go_wp2_with fail
  generalize w.alloc (.cells #[.int .i64 r, .int .i64 l] 66 (0, 0)) = w1 at *
  have HB0 := Lib.hid hb0
  refine HK.out.mono ?_
  rintro e w2 ⟨vp, vc, rfl, hp, hc, b2⟩
  obtain ⟨gp, cp, rfl, gp1, gp2, hpc⟩ := cell_pair hp
  obtain ⟨gc, cc, rfl, gc1, gc2, hcc⟩ := cell_code hc
  have HP := Lib.hid hpc
  have HC := Lib.hid hcc
  have hx0 : w2.cell? ⟨w.heap.size, 0, none⟩ = some (.int .i64 r) := (b2.cell (p := ⟨w.heap.size, 0, none⟩) (by simp; omega)).trans (by simp [World.cell?, hbox])
  have hx1 : w2.cell? ⟨w.heap.size, 1, none⟩ = some (.int .i64 l) := (b2.cell (p := ⟨w.heap.size, 1, none⟩) (by simp; omega)).trans (by simp [World.cell?, hbox])
  have HB2 := Lib.hid (hb0.trans (b2.mono (by omega)))
  have hw2 : w.heap.size < w2.heap.size := by have := b2.size; omega
  have hw3 : w.heap.size ≤ w2.heap.size := by omega
  clear hp hc b2 hpc hcc HK hb0 hbox
  go_wp2_with fail
  go_loopw [5] (fun i wr => ∃ k : Nat, k ≤ 63 ∧ i = .int .i64 k ∧ (∀ j, j < k → matchP r l (pairAt j) = false) ∧ Below w2.heap.size w2 wr) (fun i _ => 63 - (intOf i).toNat)
  case atStart => exact ⟨0, Nat.zero_le _, rfl, (fun j hj => by omega), Below.refl _ _⟩
  case round =>
    obtain ⟨k, hk, rfl, hno, hB⟩ := hrel
    have HN := Lib.hid hno
    have HB := Lib.hid hB
    clear hno
    by_cases hk2 : k < 63
    · obtain ⟨c0, c1⟩ := HP.out k hk2
      have c2 := HC.out k hk2
      replace c0 := (hB.cell (p := ⟨gp, 2 * k, none⟩) gp2).trans c0
      replace c1 := (hB.cell (p := ⟨gp, 2 * k + 1, none⟩) gp2).trans c1
      replace c2 := (hB.cell (p := ⟨gc, k, none⟩) gc2).trans c2
      rw [Nat.mul_comm] at c0 c1
      have y0 := (hB.cell (p := ⟨w.heap.size, 0, none⟩) hw2).trans hx0
      have y1 := (hB.cell (p := ⟨w.heap.size, 1, none⟩) hw2).trans hx1
      obtain ⟨s1, s2⟩ := pairAt_small (k := k)
      have s3 := pairAt_one hk2
      have HTs := Lib.hid (fun h => tabI_some (r := r) (l := l) hk2 h HN.out)
      have HNx := Lib.hid (fun (h : matchP r l (pairAt k) = false) j (hj : j < k + 1) => if e : j = k then e ▸ h else HN.out j (by omega))
      unfold matchP at HTs HNx
      generalize pairAt k = p at *
      obtain ⟨a, b⟩ := p
      simp only at c0 c1 s1 s2 s3 HTs HNx
      clear hB
      by_cases t1 : (a : Int) = r
      · by_cases t2 : (b : Int) = l
        · have e1 : ((a : Int) == r) = true := by simp [t1]
          have e2 : ((b : Int) == l) = true := by simp [t2]
          have HE := Lib.hid (show codeOf r l = codeAt k by unfold codeOf; rw [HTs.out (decide_eq_true ⟨t1, .inl t2⟩)])
          clear t1 t2 HN HTs HNx
          go_wp2
          go_quiet (fail)
          go_wp2
          go_ret
          exact ⟨by rw [HE.out]; rfl, HB2.out.trans ((HB.out.trans (below_drewN _ _ _)).mono (by omega))⟩
        · have e1 : ((a : Int) == r) = true := by simp [t1]
          have e2 : ((b : Int) == l) = false := by simp [t2]
          by_cases t3 : (b : Int) = -l
          · have e3 : ((b : Int) == -l) = true := by simp [t3]
            have e4 : IntKind.i64.wrap (-l) = -l := by rw [IntKind.wrap_i64]; omega
            have HE := Lib.hid (show codeOf r l = codeAt k by unfold codeOf; rw [HTs.out (decide_eq_true ⟨t1, .inr t3⟩)])
            have hl3 : -15 ≤ l := by omega
            have hl4 : l ≤ -1 := by omega
            clear t1 t2 t3 HN HTs HNx
            go_wp2
            go_quiet (fail)
            go_wp2
            go_ret
            exact ⟨by rw [HE.out]; rfl, HB2.out.trans ((HB.out.trans (below_drewN _ _ _)).mono (by omega))⟩
          · have HNo := Lib.hid (HNx.out (decide_eq_false (fun h => h.2.elim t2 t3)))
            by_cases hmin : l = -9223372036854775808
            · subst hmin
              have e5 : ((b : Int) == wrap64 9223372036854775808) = false := by rw [beq_eq_false_iff_ne, show wrap64 9223372036854775808 = -9223372036854775808 by decide +kernel]; omega
              clear t1 t2 t3 HN HTs HNx
              go_wp2
              go_quiet (fail)
              go_wp2
              go_roundw
              case rel => exact ⟨k + 1, by omega, by go_num, HNo.out, HB.out.trans (below_drewN _ _ _)⟩
              case measure => simp [intOf]; omega
            · have e3 : ((b : Int) == -l) = false := by simp [t3]
              clear t1 t2 t3 HN HTs HNx
              go_wp2
              go_quiet (fail)
              go_wp2
              go_roundw
              case rel => exact ⟨k + 1, by omega, by go_num, HNo.out, HB.out.trans (below_drewN _ _ _)⟩
              case measure => simp [intOf]; omega
      · have e1 : ((a : Int) == r) = false := by simp [t1]
        have HNo := Lib.hid (HNx.out (decide_eq_false (fun h => t1 h.1)))
        clear t1 HN HTs HNx
        go_wp2
        go_quiet (fail)
        go_wp2
        go_roundw
        case rel => exact ⟨k + 1, by omega, by go_num, HNo.out, HB.out.trans (below_drewN _ _ _)⟩
        case measure => simp [intOf]; omega
    · obtain rfl : k = 63 := by omega
      have HE := Lib.hid (show codeOf r l = ⟨#[]⟩ by unfold codeOf; rw [tabI_none HN.out])
      clear HN
      go_wp2
      go_ret
      exact ⟨by rw [HE.out]; rfl, HB2.out.trans (hB.mono (by omega))⟩

theorem codeAt_one {k : Nat} (h : k < 63) : codeAt k ≠ ⟨#[]⟩ ∧ 2 ≤ (codeAt k).size ∧ (codeAt k).size ≤ 13 := by
  have h3 : k < codes8.length := h
  have := (by decide +kernel : ∀ c ∈ codes8, 2 ≤ c.size ∧ c.size ≤ 13) (codeAt k) (by unfold codeAt; rw [List.getElem?_eq_getElem h3]; exact List.getElem_mem _)
  refine ⟨fun e => ?_, this.1, this.2⟩
  rw [e] at this
  exact absurd this.1 (by decide)
theorem codeOf_none {r l : Int} (h : tabI r l = none) : codeOf r l = ⟨#[]⟩ := by unfold codeOf; rw [h]
theorem codeOf_some {r l : Int} {k : Nat} (h : tabI r l = some k) : codeOf r l = codeAt k := by unfold codeOf; rw [h]

set_option maxRecDepth 100000 in
set_option maxHeartbeats 4000000 in
theorem r8escape_any (r l : Int) (w : World) :
    Calls Tryz.prog 67 #[pairV r l] w fun e w' => e = .returned (.tuple #[.string (escS8 r l), .int .i64 (putE8 r l)]) ∧ Below w.heap.size w w' := by
  have hb0 : Below w.heap.size w (w.alloc (.cells #[.int .i64 r, .int .i64 l] 66 (0, 0))) := (Below.refl _ w).alloc (Nat.le_refl _) _
  have HK := Lib.hid (r8pair_any r l (w.alloc (.cells #[.int .i64 r, .int .i64 l] 66 (0, 0))))
  have HB0 := Lib.hid hb0
  cases hp : isP r l with
  | false =>
    rw [hp] at HK
    rw [show escS8 r l = ⟨#[]⟩ by unfold escS8; rw [hp]; rfl, show putE8 r l = 3 by unfold putE8; rw [hp]; rfl]
    go_enter Tryz.func67, Tryz.ntmps67
    go_wp2_with (go_at_call 65; refine HK.out.mono ?_; rintro e w2 ⟨rfl, b2⟩)
    go_ret2
    exact ⟨rfl, HB0.out.trans (b2.mono (by simp))⟩
  | true =>
    rw [hp] at HK
    rw [show escS8 r l = escS r l by unfold escS8; rw [hp]; rfl, show putE8 r l = 0 by unfold putE8; rw [hp]; rfl]
    obtain ⟨h1, h2, h3, h4, h5⟩ := isP_of hp
    obtain ⟨n, rfl⟩ := Int.eq_ofNat_of_zero_le h1
    obtain ⟨m, hm⟩ := Int.eq_ofNat_of_zero_le (Int.emod_nonneg (l + 256) (b := 256) (by omega))
    have hm2 : m < 256 := by omega
    have HE := Lib.hid (show escS (n : Int) l = esc8 ++ binS n 6 ++ binS m 8 by unfold escS; rw [hm]; rfl)
    have ht : (l + 256).tmod 256 = (m : Int) := by rw [Int.tmod_eq_emod_of_nonneg (by omega)]; exact hm
    have ht0 : IntKind.i64.wrap (l + 256) = l + 256 := by rw [IntKind.wrap_i64]; omega
    have HI6 : Hid (∀ w, Calls Tryz.prog 93 #[.int .i64 (n : Int), .int .i64 6] w fun e w' => e = .returned (.string (binS n 6)) ∧ Below w.heap.size w w') := fun w => r8bits_any n 6 (by omega) (by omega) w
    have HI8 : Hid (∀ w, Calls Tryz.prog 93 #[.int .i64 (m : Int), .int .i64 8] w fun e w' => e = .returned (.string (binS m 8)) ∧ Below w.heap.size w w') := fun w => r8bits_any m 8 (by omega) (by omega) w
    have z6 := binS_size n 6
    have z8 := binS_size m 8
    have hbox := World.alloc_heap_new w (.cells #[.int .i64 (n : Int), .int .i64 l] 66 (0, 0))
    have hsz : (w.alloc (.cells #[.int .i64 (n : Int), .int .i64 l] 66 (0, 0))).heap.size = w.heap.size + 1 := by simp
    generalize binS n 6 = s6 at *
    generalize binS m 8 = s8 at *
    clear hp hm
    go_enter Tryz.func67, Tryz.ntmps67
    go_wp2_with fail
    generalize w.alloc (.cells #[.int .i64 (n : Int), .int .i64 l] 66 (0, 0)) = w1 at *
    refine HK.out.mono ?_
    rintro e w2 ⟨rfl, b2⟩
    have hx0 : w2.cell? ⟨w.heap.size, 0, none⟩ = some (.int .i64 (n : Int)) := (b2.cell (p := ⟨w.heap.size, 0, none⟩) (by simp; omega)).trans (by simp [World.cell?, hbox])
    have hx1 : w2.cell? ⟨w.heap.size, 1, none⟩ = some (.int .i64 l) := (b2.cell (p := ⟨w.heap.size, 1, none⟩) (by simp; omega)).trans (by simp [World.cell?, hbox])
    have HB2 := Lib.hid (HB0.out.trans (b2.mono (by omega)))
    have hw2 : w.heap.size < w2.heap.size := by have := b2.size; omega
    clear b2 hbox HK hb0
    have hsx : s6.size + s8.size + 6 ≤ 1000 := by omega
    have k0 := cell_regrown hx0
    have k1 := cell_regrown hx1
    have C6 : ∀ d os, Calls Tryz.prog 93 #[.int .i64 (n : Int), .int .i64 6] (grow (redrawn w2 d) os) fun e w'' => e = .returned (.string s6) ∧ ∃ p : Regrown, w'' = grow (redrawn w2 p.d) p.os := fun d os => Calls.regrown_of (HI6.out _)
    have C8 : ∀ d os, Calls Tryz.prog 93 #[.int .i64 (m : Int), .int .i64 8] (grow (redrawn w2 d) os) fun e w'' => e = .returned (.string s8) ∧ ∃ p : Regrown, w'' = grow (redrawn w2 p.d) p.os := fun d os => Calls.regrown_of (HI8.out _)
    clear HI6 HI8
    go_wp2
    refine wp_region_quiet_below (by kernel_rfl) (by kernel_rfl) ?_
    iterate 3 quiet_step ((go_at_call 93; exact C6 _ _))
    iterate 6 quiet_step ((go_at_call 93; exact C8 _ _))
    iterate 3 quiet_step (fail)
    refine wpQuiet_nil ?_
    rintro _ ⟨⟨dq, osq⟩, rfl⟩
    go_wp2
    go_ret2
    exact ⟨by rw [HE.out]; rfl, HB2.out.trans ((below_regrown w2 dq osq).mono (by omega))⟩

/-! ### Put -/
theorem codeF_eq (first : Bool) {k : Nat} (hk : k < 63) : codeF first k = if first = true ∧ codeAt k = ⟨#[49, 49]⟩ then ⟨#[49]⟩ else codeAt k := by
  cases first with
  | false => rw [if_neg (by simp)]; rfl
  | true =>
    by_cases h : k = 0
    · subst h
      rw [if_pos ⟨rfl, by decide +kernel⟩]
      decide +kernel
    · have h2 : codeAt k ≠ ⟨#[49, 49]⟩ := by
        have := (by decide +kernel : ∀ k : Fin 63, k.val ≠ 0 → codeAt k.val ≠ ⟨#[49, 49]⟩) ⟨k, hk⟩ h
        exact this
      rw [if_neg (fun e => h2 e.2)]
      unfold codeF
      rw [if_neg (by simp [h])]

set_option maxRecDepth 100000 in
set_option maxHeartbeats 4000000 in
theorem r8put_any (r l : Int) (first : Bool) (w : World) (hl1 : -9223372036854775808 ≤ l) (hl2 : l ≤ 9223372036854775807) :
    Calls Tryz.prog 42 #[pairV r l, .bool first] w fun e w' => e = .returned (.tuple #[.string (putS8 first r l), .int .i64 (putE8 r l)]) ∧ Below w.heap.size w w' := by
  have hb0 : Below w.heap.size w (w.alloc (.cells #[.int .i64 r, .int .i64 l] 66 (0, 0))) := (Below.refl _ w).alloc (Nat.le_refl _) _
  have HK := Lib.hid (r8pair_any r l (w.alloc (.cells #[.int .i64 r, .int .i64 l] 66 (0, 0))))
  have HB0 := Lib.hid hb0
  cases hp : isP r l with
  | false =>
    rw [hp] at HK
    rw [show putS8 first r l = ⟨#[]⟩ by unfold putS8; rw [hp]; rfl, show putE8 r l = 3 by unfold putE8; rw [hp]; rfl]
    go_enter Tryz.func42, Tryz.ntmps42
    go_wp2_with (go_at_call 65; refine HK.out.mono ?_; rintro e w2 ⟨rfl, b2⟩)
    go_ret2
    exact ⟨rfl, HB0.out.trans (b2.mono (by simp))⟩
  | true =>
    rw [hp] at HK
    have HE8 := Lib.hid (show escS8 r l = escS r l by unfold escS8; rw [hp]; rfl)
    have hE0 : putE8 r l = 0 := by unfold putE8; rw [hp]; rfl
    have HCd := Lib.hid (fun w => r8code_any r l w hl1 hl2)
    have HEs := Lib.hid (fun w => r8escape_any r l w)
    rw [HE8.out, hE0] at HEs
    rw [hE0, show putS8 first r l = putP first r l by unfold putS8; rw [hp]; rfl]
    have hbox := World.alloc_heap_new w (.cells #[.int .i64 r, .int .i64 l] 66 (0, 0))
    have hsz : (w.alloc (.cells #[.int .i64 r, .int .i64 l] 66 (0, 0))).heap.size = w.heap.size + 1 := by simp
    cases ht : tabI r l with
    | none =>
      rw [codeOf_none ht] at HCd
      rw [show putP first r l = escS r l by unfold putP; rw [ht]]
      generalize escS r l = s at *
      go_enter Tryz.func42, Tryz.ntmps42
      go_wp2_with fail
      generalize w.alloc (.cells #[.int .i64 r, .int .i64 l] 66 (0, 0)) = w1 at *
      refine HK.out.mono ?_
      rintro e w2 ⟨rfl, b2⟩
      have B2 := b2
      have hx0 : w2.cell? ⟨w.heap.size, 0, none⟩ = some (.int .i64 r) := (b2.cell (p := ⟨w.heap.size, 0, none⟩) (by simp; omega)).trans (by simp [World.cell?, hbox])
      have hx1 : w2.cell? ⟨w.heap.size, 1, none⟩ = some (.int .i64 l) := (b2.cell (p := ⟨w.heap.size, 1, none⟩) (by simp; omega)).trans (by simp [World.cell?, hbox])
      have hs2 := b2.size
      clear b2 hbox
      go_wp2_with fail
      refine (HCd.out _).mono ?_
      rintro e w3 ⟨rfl, b3⟩
      have y0 := (b3.cell (p := ⟨w.heap.size, 0, none⟩) (by simp; omega)).trans hx0
      have y1 := (b3.cell (p := ⟨w.heap.size, 1, none⟩) (by simp; omega)).trans hx1
      have B3 := B2.trans (b3.mono hs2)
      have hs3 := b3.size
      clear hx0 hx1 b3
      go_wp2_with fail
      refine (HEs.out _).mono ?_
      rintro e w4 ⟨rfl, b4⟩
      go_wp2
      go_ret2
      exact ⟨rfl, HB0.out.trans ((B3.trans (b4.mono (by omega))).mono (by omega))⟩
    | some k =>
      obtain ⟨hk, _⟩ := tabI_lt ht
      rw [codeOf_some ht] at HCd
      rw [show putP first r l = codeF first k ++ signS l by unfold putP; rw [ht], codeF_eq first hk]
      obtain ⟨c0, c1, c2⟩ := codeAt_one hk
      generalize codeAt k = s at *
      have t0 : ¬ s.toList = [] := fun h => c0 ((str_eq_iff _ _).1 (by rw [h]; simp))
      obtain ⟨z0, z1⟩ := two_cells w (.int .i64 r) (.int .i64 l) 66
      clear hp ht hbox HEs HE8 hE0 c0
      have e0 : s.toList.isEmpty = false := by cases hh : s.toList with | nil => exact absurd hh t0 | cons a b => rfl
      generalize hT : (if first = true ∧ s = (⟨#[49, 49]⟩ : ByteArray) then (⟨#[49]⟩ : ByteArray) else s) = T at *
      have HT := Lib.hid hT.symm
      clear hT
      go_enter Tryz.func42, Tryz.ntmps42
      go_wp2_with fail
      generalize w.alloc (.cells #[.int .i64 r, .int .i64 l] 66 (0, 0)) = w1 at *
      refine HK.out.mono ?_
      rintro e w2 ⟨rfl, b2⟩
      have B2 := b2
      have hx0 := (b2.cell (p := ⟨w.heap.size, 0, none⟩) (by simp; omega)).trans z0
      have hx1 := (b2.cell (p := ⟨w.heap.size, 1, none⟩) (by simp; omega)).trans z1
      have hs2 := b2.size
      clear b2 z0 z1
      go_wp2_with fail
      refine (HCd.out _).mono ?_
      rintro e w3 ⟨rfl, b3⟩
      have y0 := (b3.cell (p := ⟨w.heap.size, 0, none⟩) (by simp; omega)).trans hx0
      have y1 := (b3.cell (p := ⟨w.heap.size, 1, none⟩) (by simp; omega)).trans hx1
      have B3 := HB0.out.trans ((B2.trans (b3.mono hs2)).mono (by omega))
      clear hx0 hx1 b3
      cases first with
      | false =>
        by_cases hl : l < 0
        · have HG := Lib.hid (show signS l = ⟨#[49]⟩ by unfold signS; rw [if_pos hl]; rfl)
          go_wp2
          go_ret2
          exact ⟨by rw [HT.out, if_neg (by simp), HG.out]; rfl, B3⟩
        · have HG := Lib.hid (show signS l = ⟨#[48]⟩ by unfold signS; rw [if_neg hl]; rfl)
          go_wp2
          go_ret2
          exact ⟨by rw [HT.out, if_neg (by simp), HG.out]; rfl, B3⟩
      | true =>
        by_cases hs : s = ⟨#[49, 49]⟩
        · subst hs
          by_cases hl : l < 0
          · have HG := Lib.hid (show signS l = ⟨#[49]⟩ by unfold signS; rw [if_pos hl]; rfl)
            go_wp2
            go_ret2
            exact ⟨by rw [HT.out, if_pos (by simp), HG.out]; rfl, B3⟩
          · have HG := Lib.hid (show signS l = ⟨#[48]⟩ by unfold signS; rw [if_neg hl]; rfl)
            go_wp2
            go_ret2
            exact ⟨by rw [HT.out, if_pos (by simp), HG.out]; rfl, B3⟩
        · have HNs := Lib.hid hs
          have t1 : (s.toList == (⟨#[49, 49]⟩ : ByteArray).toList) = false := Bool.eq_false_iff.2 (fun h => hs ((str_eq_iff _ _).1 h))
          have t2 : (s.toList == [49, 49]) = false := by rw [← t1]; simp
          clear hs
          by_cases hl : l < 0
          · have HG := Lib.hid (show signS l = ⟨#[49]⟩ by unfold signS; rw [if_pos hl]; rfl)
            go_wp2
            go_ret2
            exact ⟨by rw [HT.out, if_neg (fun e => HNs.out e.2), HG.out]; rfl, B3⟩
          · have HG := Lib.hid (show signS l = ⟨#[48]⟩ by unfold signS; rw [if_neg hl]; rfl)
            go_wp2
            go_ret2
            exact ⟨by rw [HT.out, if_neg (fun e => HNs.out e.2), HG.out]; rfl, B3⟩

end Go.Proofs.YtbcfiafgolcbpaaGreatDoor

/- Contracts of the reference's coeff (praxinoscoperef08): read, Get. -/
namespace Go.Proofs.YtbcfiafgolcbpaaGreatDoor
open Go.RowKit Go.Shelf
set_option linter.unusedVariables false

theorem codesF_first : (strV codes8).set 0 (.string ⟨#[49]⟩) ++ [.string ⟨#[48, 48, 48, 48, 48, 49]⟩] = strV (codesF true) := by
  have h : codes8.set 0 ⟨#[49]⟩ ++ [⟨#[48, 48, 48, 48, 48, 49]⟩] = codesF true := by decide +kernel
  rw [← h]
  simp [List.map_set]
theorem codesF_later : strV codes8 ++ [.string ⟨#[49, 48]⟩] ++ [.string ⟨#[48, 48, 48, 48, 48, 49]⟩] = strV (codesF false) := by
  have h : codes8 ++ [⟨#[49, 48]⟩] ++ [⟨#[48, 48, 48, 48, 48, 49]⟩] = codesF false := by decide +kernel
  rw [← h]
  simp
def nums8 (n : Nat) : List Value := intV ((List.range n).map fun (k : Nat) => (k : Int))
theorem nums8_snoc (n : Nat) : nums8 n ++ [.int .i64 (n : Int)] = nums8 (n + 1) := by simp [nums8, List.range_succ]
theorem numsF_first : nums8 63 ++ [.int .i64 1000] = intV (numsF true) := by simp [nums8, numsF]
theorem numsF_later : nums8 63 ++ [.int .i64 1001] ++ [.int .i64 1000] = intV (numsF false) := by simp [nums8, numsF]
theorem codesF_small (first : Bool) : ∀ s ∈ codesF first, s.size ≤ 9223372036854775807 := fun s h => by have := (codesF_bits first s h).2.2; omega
theorem getT_form8 (cs : List ByteArray) (ns : List Int) (zs : List UInt8) (x : Int) : ∃ g n e : Int, getT cs ns zs x = .tuple #[.int .i64 g, .int .i64 n, .int .i64 e] := by
  unfold getT
  split
  · exact ⟨_, _, _, rfl⟩
  · exact ⟨_, _, _, rfl⟩

/-- two rows that a call owns: one grows, the other is kept -/
theorem two_rows {B : Nat} {w0 w w' : World} {o : Obj} {b1 b2 n1 n2 m : Nat} {e1 e2 : TypeId} {v1 v2 v1' : Value} {xs ys zs : List Value} (hr1 : w.ownsRow b1 e1 1 v1 n1 xs) (hr2 : w.ownsRow b2 e2 1 v2 n2 ys) (hne : ∀ j, v1.ownBlock = some j → v2.ownBlock ≠ some j)
    (hb : Below B w0 w) (hB1 : B ≤ b1) (hBs : B ≤ w.heap.size) (hap : AppendedV e1 (w.alloc o) w' b1 v1 v1' m zs) :
    w'.ownsRow b1 e1 1 v1' m zs ∧ w'.ownsRow b2 e2 1 v2 n2 ys ∧ (∀ j, v1'.ownBlock = some j → v2.ownBlock ≠ some j) ∧ Below B w0 w' ∧ w.heap.size ≤ w'.heap.size := by
  obtain ⟨a1, a2, a3⟩ := hap
  have hb' : Below B w0 w' := (hb.alloc hBs _).grown a2 (by simp; omega) (fun j e => by have := (hr1.lt j e).1; omega)
  refine ⟨a1, ownsRow_grown2 (hr2.alloc _) a2 (fun j h1 h2 => hne j h2 h1), fun j e e2 => ?_, hb', ?_⟩
  · rcases a3 j e with h | h
    · exact hne j h e2
    · have := (hr2.lt j e2).2
      simp at h
      omega
  · have := a2.size
    simp at this
    omega

set_option maxRecDepth 100000 in
set_option maxHeartbeats 4000000 in
theorem r8read_any {n₁ : Nat} {w : World} {sv : Value} {zs : List UInt8} (hB : Byt n₁ w sv zs) (hn : n₁ ≤ w.heap.size) (hl : zs.length ≤ 1099511627776) (x : Int) (hx : x ≤ 9223372036854775807) (first : Bool) :
    Calls Tryz.prog 58 #[sv, .int .i64 x, .bool first] w fun e w' => e = .returned (getT (codesF first) (numsF first) zs x) ∧ Below w.heap.size w w' := by
  obtain ⟨i1, hi1, hz10, hz11, hz12⟩ := info_parts Tryz.info9
  obtain ⟨i2, hi2, hz20, hz21, hz22⟩ := info_parts Tryz.info3y
  have HB := Lib.hid (fun w' (hb : Below w.heap.size w w') => hB.below (hb.mono hn))
  clear hB
  obtain ⟨g, n, e0, hg⟩ := getT_form8 (codesF first) (numsF first) zs x
  have HG := Lib.hid hg
  rw [hg]
  clear hg
  have HK := Lib.hid (r8coded_any w)
  go_enter Tryz.func58, Tryz.ntmps58
  go_wp2_with fail
  refine HK.out.mono ?_
  rintro e w2 ⟨vp, vc, rfl, _, hc, b2⟩
  obtain ⟨av, cv, rfl⟩ := row_form hc
  have HC := Lib.hid hc
  have HB2 := Lib.hid b2
  have hs2 := b2.size
  have hlt := hc.lt
  clear hc b2
  go_wp2_with fail
  go_loopw [11, 12] (fun v i wr => ∃ k : Nat, k ≤ 63 ∧ i = .int .i64 k ∧ wr.ownsRow w2.heap.size 3 1 v k (nums8 k) ∧ Below w2.heap.size w2 wr) (fun _ i _ => 63 - (intOf i).toNat)
  case atStart => exact ⟨0, Nat.zero_le _, rfl, World.ownsRow_nil _ _ _ _, Below.refl _ _⟩
  case round =>
    obtain ⟨k, hk, rfl, ho, hb⟩ := hrel
    have HO := Lib.hid ho
    have HBw := Lib.hid hb
    have hbs := hb.size
    clear ho hb
    by_cases hk2 : k < 63
    · go_wp2_with (at_builtin; go_loud (refine wpList_append_v rfl _ _ 38 3 i2 (.int .i64 0) 8 rfl Tryz.underlying38y hi2 hz20 hz21 hz22 rfl w2.heap.size _ k _ rfl (HO.out.alloc _) (some ⟨wr.heap.size, 0, none⟩) 1 1 [.int .i64 (k : Int)] rfl (src_one _ _ _) (fun e => nomatch e) (by simp [Value.oneCell']) (by omega) (by omega) (by simp; omega) ?_); intro v1 w1 hap; have HA := Lib.hid hap; clear hap)
      go_roundw
      case rel => exact ⟨k + 1, by omega, by go_num, by rw [← nums8_snoc]; exact HA.out.1, (HBw.out.alloc (by omega) _).grown HA.out.2.1 (by simp; omega) (fun j e => (HO.out.lt j e).1)⟩
      case measure => simp [intOf]; omega
    · obtain rfl : k = 63 := by omega
      have HC3 := Lib.hid (ownsRow_bar HC.out (bar_of_below (S := fun _ => False) HBw.out) (fun _ _ e => e))
      obtain ⟨au, cu, rfl⟩ := row_form HO.out
      have HBa := Lib.hid (HB2.out.trans (HBw.out.mono (by omega)))
      have hne : ∀ j, (Value.slice av 63 cv).ownBlock = some j → (Value.slice au 63 cu).ownBlock ≠ some j := fun j e e2 => by
        have := (HC.out.lt j e).2
        have := (HO.out.lt j e2).1
        omega
      have HNe := Lib.hid hne
      clear hne
      cases first with
      | true =>
        obtain ⟨gv, cpv, e1, hg1, _, hce⟩ := row_cells HC3.out (j := 0) (by omega)
        cases e1
        have hs0 := hce 0 (.string (codeAt 0)) (by omega) (by simp [codeAt]; rfl)
        have hf0 := HC3.out.frozenAt 0
        obtain ⟨st1, st2⟩ := HC3.out.stored 0 (.string ⟨#[49]⟩)
        have HSt1 := Lib.hid st1
        have HSt2 : Hid (Below w.heap.size w (wr.setCell ⟨gv, 0, none⟩ (.string ⟨#[49]⟩))) := HBa.out.setCell (p := ⟨gv, 0, none⟩) (hlt gv rfl).1 _
        have HSt3 := Lib.hid (ownsRow_grown2 HO.out st2 (fun j h1 h2 => by cases h2; exact HNe.out _ rfl h1))
        have hss : (wr.setCell ⟨gv, 0, none⟩ (.string ⟨#[49]⟩)).heap.size = wr.heap.size := by simp
        have HSr : Hid (Src ((wr.setCell ⟨gv, 0, none⟩ (.string ⟨#[49]⟩)).alloc (.cells #[.string ⟨#[48, 48, 48, 48, 48, 49]⟩] 9 (0, 0))) (some ⟨wr.heap.size, 0, none⟩) 1 [.string ⟨#[48, 48, 48, 48, 48, 49]⟩]) := by
          have h := src_one (wr.setCell ⟨gv, 0, none⟩ (.string ⟨#[49]⟩)) (.string ⟨#[48, 48, 48, 48, 48, 49]⟩) 9
          rw [hss] at h
          exact h
        clear st1 st2 hce hg1
        go_wp2_with (at_builtin; go_loud (refine wpList_append_v rfl _ _ 91 9 i1 (.string ⟨#[]⟩) 16 rfl Tryz.underlying91x hi1 hz10 hz11 hz12 rfl w.heap.size _ 63 _ rfl (HSt1.out.alloc _) (some ⟨wr.heap.size, 0, none⟩) 1 1 [.string ⟨#[48, 48, 48, 48, 48, 49]⟩] rfl HSr.out (fun e => nomatch e) (by simp [Value.oneCell']) (by omega) (by omega) (by simp; omega) ?_); intro v5 w5 hap; have HA5 := Lib.hid hap; clear hap; refine Hid.out ?_)
        refine Lib.hid ?_
        obtain ⟨r5a, r5b, r5c, r5d, r5e⟩ := two_rows HSt1.out HSt3.out HNe.out HSt2.out (Nat.le_refl _) (by omega) HA5.out
        have HCa5 := Lib.hid r5a
        have HOa5 := Lib.hid r5b
        have HNa5 := Lib.hid r5c
        have HBa5 := Lib.hid r5d
        clear r5a r5b r5c r5d
        go_wp2_with (at_builtin; go_loud (refine wpList_append_v rfl _ _ 38 3 i2 (.int .i64 0) 8 rfl Tryz.underlying38y hi2 hz20 hz21 hz22 rfl w2.heap.size _ 63 _ rfl (HOa5.out.alloc _) (some ⟨w5.heap.size, 0, none⟩) 1 1 [.int .i64 1000] rfl (src_one _ _ _) (fun e => nomatch e) (by simp [Value.oneCell']) (by omega) (by omega) (by simp; omega) ?_); intro v6 w6 hap; have HA6 := Lib.hid hap; clear hap; refine Hid.out ?_)
        refine Lib.hid ?_
        obtain ⟨r6a, r6b, r6c, r6d, r6e⟩ := two_rows HOa5.out HCa5.out (fun j h1 h2 => HNa5.out j h2 h1) HBa5.out (by omega) (by omega) HA6.out
        have HCa6 := Lib.hid r6b
        have HOa6 := Lib.hid r6a
        have HNa6 : Hid (∀ j, _ → _) := fun j h1 h2 => r6c j h2 h1
        have HBa6 := Lib.hid r6d
        clear r6a r6b r6c r6d
        obtain ⟨ac, cc, rfl, hrc⟩ := rowV_own4 HCa6.out
        obtain ⟨an, cn, rfl, hrn⟩ := rowV_own4 HOa6.out
        rw [codesF_first] at hrc
        rw [numsF_first] at hrn
        have HM := Lib.hid (tmake_any hrc hrn (codesF_small _))
        clear hrc hrn
        go_wp2_with fail
        refine HM.out.mono ?_
        rintro e w7 ⟨b7, hm⟩
        obtain ⟨_, bt, rfl, hT⟩ := hm.resolve_right (fun h => h.1 (makeF _))
        have B7 := HBa6.out.trans (b7.mono (by omega))
        have HB7 := Lib.hid B7
        have HGt := Lib.hid (tget_any hT (HB.out _ B7) (by have := B7.size; omega) hl x hx)
        rw [HG.out] at HGt
        clear hT b7 hm B7
        go_wp2_with (go_at_call 86; refine HGt.out.mono ?_; rintro e w8 ⟨rfl, b8⟩)
        go_ret3
        exact ⟨rfl, below_chain HB7.out (Nat.le_refl _) b8⟩
      | false =>
        go_wp2_with (at_builtin; go_loud (refine wpList_append_v rfl _ _ 91 9 i1 (.string ⟨#[]⟩) 16 rfl Tryz.underlying91x hi1 hz10 hz11 hz12 rfl w.heap.size _ 63 _ rfl (HC3.out.alloc _) (some ⟨wr.heap.size, 0, none⟩) 1 1 [.string ⟨#[49, 48]⟩] rfl (src_one _ _ _) (fun e => nomatch e) (by simp [Value.oneCell']) (by omega) (by omega) (by simp; omega) ?_); intro v3 w3 hap; have HA3 := Lib.hid hap; clear hap; refine Hid.out ?_)
        refine Lib.hid ?_
        obtain ⟨r3a, r3b, r3c, r3d, r3e⟩ := two_rows HC3.out HO.out HNe.out HBa.out (Nat.le_refl _) (by omega) HA3.out
        have HCa3 := Lib.hid r3a
        have HOa3 := Lib.hid r3b
        have HNa3 := Lib.hid r3c
        have HBa3 := Lib.hid r3d
        clear r3a r3b r3c r3d
        go_wp2_with (at_builtin; go_loud (refine wpList_append_v rfl _ _ 38 3 i2 (.int .i64 0) 8 rfl Tryz.underlying38y hi2 hz20 hz21 hz22 rfl w2.heap.size _ 63 _ rfl (HOa3.out.alloc _) (some ⟨w3.heap.size, 0, none⟩) 1 1 [.int .i64 1001] rfl (src_one _ _ _) (fun e => nomatch e) (by simp [Value.oneCell']) (by omega) (by omega) (by simp; omega) ?_); intro v4 w4 hap; have HA4 := Lib.hid hap; clear hap; refine Hid.out ?_)
        refine Lib.hid ?_
        obtain ⟨r4a, r4b, r4c, r4d, r4e⟩ := two_rows HOa3.out HCa3.out (fun j h1 h2 => HNa3.out j h2 h1) HBa3.out (by omega) (by omega) HA4.out
        have HCa4 := Lib.hid r4b
        have HOa4 := Lib.hid r4a
        have HNa4 : Hid (∀ j, _ → _) := fun j h1 h2 => r4c j h2 h1
        have HBa4 := Lib.hid r4d
        clear r4a r4b r4c r4d
        go_wp2_with (at_builtin; go_loud (refine wpList_append_v rfl _ _ 91 9 i1 (.string ⟨#[]⟩) 16 rfl Tryz.underlying91x hi1 hz10 hz11 hz12 rfl w.heap.size _ 64 _ rfl (HCa4.out.alloc _) (some ⟨w4.heap.size, 0, none⟩) 1 1 [.string ⟨#[48, 48, 48, 48, 48, 49]⟩] rfl (src_one _ _ _) (fun e => nomatch e) (by simp [Value.oneCell']) (by omega) (by omega) (by simp; omega) ?_); intro v5 w5 hap; have HA5 := Lib.hid hap; clear hap; refine Hid.out ?_)
        refine Lib.hid ?_
        obtain ⟨r5a, r5b, r5c, r5d, r5e⟩ := two_rows HCa4.out HOa4.out HNa4.out HBa4.out (Nat.le_refl _) (by omega) HA5.out
        have HCa5 := Lib.hid r5a
        have HOa5 := Lib.hid r5b
        have HNa5 := Lib.hid r5c
        have HBa5 := Lib.hid r5d
        clear r5a r5b r5c r5d
        go_wp2_with (at_builtin; go_loud (refine wpList_append_v rfl _ _ 38 3 i2 (.int .i64 0) 8 rfl Tryz.underlying38y hi2 hz20 hz21 hz22 rfl w2.heap.size _ 64 _ rfl (HOa5.out.alloc _) (some ⟨w5.heap.size, 0, none⟩) 1 1 [.int .i64 1000] rfl (src_one _ _ _) (fun e => nomatch e) (by simp [Value.oneCell']) (by omega) (by omega) (by simp; omega) ?_); intro v6 w6 hap; have HA6 := Lib.hid hap; clear hap; refine Hid.out ?_)
        refine Lib.hid ?_
        obtain ⟨r6a, r6b, r6c, r6d, r6e⟩ := two_rows HOa5.out HCa5.out (fun j h1 h2 => HNa5.out j h2 h1) HBa5.out (by omega) (by omega) HA6.out
        have HCa6 := Lib.hid r6b
        have HOa6 := Lib.hid r6a
        have HNa6 : Hid (∀ j, _ → _) := fun j h1 h2 => r6c j h2 h1
        have HBa6 := Lib.hid r6d
        clear r6a r6b r6c r6d
        obtain ⟨ac, cc, rfl, hrc⟩ := rowV_own4 HCa6.out
        obtain ⟨an, cn, rfl, hrn⟩ := rowV_own4 HOa6.out
        rw [codesF_later] at hrc
        rw [numsF_later] at hrn
        have HM := Lib.hid (tmake_any hrc hrn (codesF_small _))
        clear hrc hrn
        go_wp2_with fail
        refine HM.out.mono ?_
        rintro e w7 ⟨b7, hm⟩
        obtain ⟨_, bt, rfl, hT⟩ := hm.resolve_right (fun h => h.1 (makeF _))
        have B7 := HBa6.out.trans (b7.mono (by omega))
        have HB7 := Lib.hid B7
        have HGt := Lib.hid (tget_any hT (HB.out _ B7) (by have := B7.size; omega) hl x hx)
        rw [HG.out] at HGt
        clear hT b7 hm B7
        go_wp2_with (go_at_call 86; refine HGt.out.mono ?_; rintro e w8 ⟨rfl, b8⟩)
        go_ret3
        exact ⟨rfl, below_chain HB7.out (Nat.le_refl _) b8⟩

theorem codesF_at (first : Bool) {k : Nat} (h : k < 63) : (codesF first)[k]?.getD ⟨#[]⟩ = codeF first k ∧ (numsF first)[k]?.getD 0 = (k : Int) := by
  unfold codesF numsF
  rw [List.getElem?_append_left (by simp; omega), List.getElem?_append_left (by simp; omega)]
  simp [h]
theorem codesF_len (first : Bool) : (codesF first).length = if first then 64 else 65 := by cases first <;> rfl
theorem getI_lt {codes : List ByteArray} {s : ByteArray} {k : Nat} (h : getI codes s = some k) : k < codes.length ∧ begins s (codes[k]?.getD ⟨#[]⟩) = true := by
  unfold getI at h
  rw [List.findIdx?_eq_some_iff_getElem] at h
  obtain ⟨h1, h2, _⟩ := h
  exact ⟨h1, by rw [List.getElem?_eq_getElem h1]; exact h2⟩
theorem begins_size {s t : ByteArray} (h : begins s t = true) : t.size ≤ s.size := by
  false_or_by_contra
  rename_i hn
  rw [begins_lt hn] at h
  cases h
theorem num_add (zs : List UInt8) (a m n : Nat) : num zs a (m + n) = num zs a m * 2 ^ n + num zs (a + m) n := by
  induction n with
  | zero => simp [num]
  | succ n ih =>
    have h1 : num zs a (m + (n + 1)) = 2 * num zs a (m + n) + bt zs (a + (m + n)) := rfl
    have h2 : num zs (a + m) (n + 1) = 2 * num zs (a + m) n + bt zs (a + m + n) := rfl
    rw [h1, h2, ih, Nat.pow_succ, Nat.add_assoc a m n, Nat.mul_add, ← Nat.mul_assoc, Nat.mul_comm 2 (num zs a m), Nat.mul_assoc, Nat.mul_comm 2 (2 ^ n), Nat.add_assoc]
theorem num_14 (zs : List UInt8) (a : Nat) : num zs a 14 / 256 = num zs a 6 ∧ num zs a 14 % 256 = num zs (a + 6) 8 := by
  have h := num_add zs a 6 8
  have h1 := num_lt zs (a + 6) 8
  simp only [show 6 + 8 = 14 from rfl, show 2 ^ 8 = 256 from rfl] at h h1
  omega
theorem pair_cells {w : World} {g : Nat} {a b : Value} {t : TypeId} (h : w.heap[g]? = some (.cells #[a, b] t (0, 0))) : w.cell? ⟨g, 0, none⟩ = some a ∧ w.cell? ⟨g, 1, none⟩ = some b ∧ w.frozen? ⟨g, 0, none⟩ = false ∧ w.frozen? ⟨g, 1, none⟩ = false := by
  refine ⟨?_, ?_, Lib.frozen_of_heap h 0, Lib.frozen_of_heap h 1⟩ <;> simp [World.cell?, h]

set_option maxRecDepth 100000 in
set_option maxHeartbeats 4000000 in
theorem r8get_any {n₁ : Nat} {w : World} {sv : Value} {zs : List UInt8} (hB : Byt n₁ w sv zs) (hn : n₁ ≤ w.heap.size) (hl : zs.length ≤ 1099511627776) (x : Int) (hx : x ≤ 9223372036854775807) (first : Bool) :
    Calls Tryz.prog 39 #[sv, .int .i64 x, .bool first] w fun e w' => e = .returned (gotV (got first zs x)) ∧ Below w.heap.size w w' := by
  have HBy := Lib.hid (fun w' (hb : Below w.heap.size w w') => hB.below (hb.mono hn))
  have hb0 : Below w.heap.size w (w.alloc (.cells #[.int .i64 0, .int .i64 0] 66 (0, 0))) := (Below.refl _ w).alloc (Nat.le_refl _) _
  have HR := Lib.hid (r8read_any (HBy.out _ hb0) (by simp; omega) hl x hx first)
  have hbox := World.alloc_heap_new w (.cells #[.int .i64 0, .int .i64 0] 66 (0, 0))
  have hsz : (w.alloc (.cells #[.int .i64 0, .int .i64 0] 66 (0, 0))).heap.size = w.heap.size + 1 := by simp
  have HB0 := Lib.hid hb0
  clear hB hb0
  by_cases h0 : x < 0
  · have hg : got first zs x = badG 3 := by unfold got; rw [if_pos h0]
    have hT : getT (codesF first) (numsF first) zs x = .tuple #[.int .i64 0, .int .i64 0, .int .i64 3] := by unfold getT; rw [if_pos h0]
    rw [hT] at HR
    rw [hg]
    clear hg hT h0
    go_enter Tryz.func39, Tryz.ntmps39
    go_wp2_with fail
    generalize w.alloc (.cells #[.int .i64 0, .int .i64 0] 66 (0, 0)) = w1 at *
    refine HR.out.mono ?_
    rintro e w2 ⟨rfl, b2⟩
    have hs2 := b2.size
    have hh := (b2.block w.heap.size (by omega)).trans hbox
    obtain ⟨c0, c1, f0, f1⟩ := pair_cells hh
    have hlt2 : w.heap.size < w2.heap.size := by omega
    go_wp2
    refine bodyPost_ret (v := gotV (badG 3)) (by simp [results, Tryz.f39, go_sem, c0, c1]) rfl ⟨rfl, ?_⟩
    exact ((HB0.out.trans (b2.mono (by omega))).setCell (p := ⟨w.heap.size, 0, none⟩) (Nat.le_refl _) _).setCell (p := ⟨w.heap.size, 1, none⟩) (Nat.le_refl _) _
  · obtain ⟨A, rfl⟩ := Int.eq_ofNat_of_zero_le (show 0 ≤ x by omega)
    obtain ⟨S, hS⟩ : ∃ S, S = seenB zs A (seenN zs A) := ⟨_, rfl⟩
    have hSn : S.size = seenN zs A := by rw [hS, seenB_size]
    have hSle : S.size ≤ 8 * zs.length - A := by rw [hSn]; unfold seenN; omega
    have hg : got first zs (A : Int) = gotS first zs A S := by unfold got; rw [if_neg (by omega), Int.toNat_natCast, hS]
    have hT : getT (codesF first) (numsF first) zs (A : Int) = .tuple #[.int .i64 (getX (codesF first) (numsF first) S), .int .i64 (getN (codesF first) S), .int .i64 (getE3 (codesF first) S)] := by
      unfold getT
      rw [if_neg (by omega), Int.toNat_natCast, hS]
    rw [hT] at HR
    rw [hg]
    unfold getX getN getE3 at HR
    unfold gotS
    clear hg hT h0 hS
    cases hI : getI (codesF first) S with
    | none =>
      rw [hI] at HR
      simp only at HR ⊢
      obtain ⟨m, hm⟩ : ∃ m : Int, m = if getMore (codesF first) S = true then 5 else 7 := ⟨_, rfl⟩
      have hm0 : (m != 0) = true := by rw [hm]; split <;> rfl
      rw [← hm] at HR ⊢
      clear hI hm
      go_enter Tryz.func39, Tryz.ntmps39
      go_wp2_with fail
      generalize w.alloc (.cells #[.int .i64 0, .int .i64 0] 66 (0, 0)) = w1 at *
      refine HR.out.mono ?_
      rintro e w2 ⟨rfl, b2⟩
      have hs2 := b2.size
      have hh := (b2.block w.heap.size (by omega)).trans hbox
      obtain ⟨c0, c1, f0, f1⟩ := pair_cells hh
      have hlt2 : w.heap.size < w2.heap.size := by omega
      go_wp2
      refine bodyPost_ret (v := gotV (badG m)) (by simp [results, Tryz.f39, go_sem, c0, c1]) rfl ⟨rfl, ?_⟩
      exact ((HB0.out.trans (b2.mono (by omega))).setCell (p := ⟨w.heap.size, 0, none⟩) (Nat.le_refl _) _).setCell (p := ⟨w.heap.size, 1, none⟩) (Nat.le_refl _) _
    | some k =>
      rw [hI] at HR
      obtain ⟨k1, k2⟩ := getI_lt hI
      have k3 := begins_size k2
      clear hI
      rw [codesF_len] at k1
      simp only at HR ⊢
      by_cases hk : k < 63
      · rw [if_pos hk]
        obtain ⟨q1, q2⟩ := codesF_at first hk
        rw [q1] at k3 HR
        rw [q2] at HR
        have hcs := (codesF_bits first (codeF first k) (by rw [← q1, List.getElem?_eq_getElem (by rw [codesF_len]; exact k1)]; exact List.getElem_mem _)).2
        obtain ⟨z, hz⟩ : ∃ z, z = (codeF first k).size := ⟨_, rfl⟩
        have HRd : Hid (∀ w', Below w.heap.size w w' → Calls Tryz.prog 37 #[sv, .int .i64 ((A : Int) + (z : Int)), .int .i64 1] w' fun e w'' => e = .returned (.tuple #[.int .i64 (r1N zs (A + z) 1), .int .i64 (r1E zs (A + z) 1)]) ∧ w' = w'') := fun w' hb => r1read_any (HBy.out w' hb) _ (A + z) (by omega) 1 (by omega) (by omega) hl
        have HG : Hid (tabG first zs A k = if 8 * zs.length ≤ A + z then badG 5 else ⟨(pairAt k).1, if bt zs (A + z) = 1 then -((pairAt k).2 : Int) else (pairAt k).2, false, z + 1, 0⟩) := by
          show tabG first zs A k = _
          unfold tabG
          rw [← hz]
        rw [← hz] at k3 HR hcs
        have hA : A + z ≤ 8 * zs.length := by omega
        have hk9 : ((k : Int) == 1001) = false := by rw [beq_eq_false_iff_ne]; omega
        have hk8 : ((k : Int) == 1000) = false := by rw [beq_eq_false_iff_ne]; omega
        obtain ⟨s1, s2⟩ := pairAt_small (k := k)
        clear q1 q2 k1 k2 hz
        by_cases hm : 8 * zs.length ≤ A + z
        · rw [HG.out, if_pos hm]
          have e1 : r1N zs (A + z) 1 = 0 := if_pos (by omega)
          have e2 : r1E zs (A + z) 1 = 5 := if_pos (by omega)
          rw [e1, e2] at HRd
          clear HG hm e1 e2
          go_enter Tryz.func39, Tryz.ntmps39
          go_wp2_with fail
          generalize w.alloc (.cells #[.int .i64 0, .int .i64 0] 66 (0, 0)) = w1 at *
          refine HR.out.mono ?_
          rintro e w2 ⟨rfl, b2⟩
          have hs2 := b2.size
          have hh := (b2.block w.heap.size (by omega)).trans hbox
          obtain ⟨c0, c1, f0, f1⟩ := pair_cells hh
          have hlt2 : w.heap.size < w2.heap.size := by omega
          have HB2 := Lib.hid (HB0.out.trans (b2.mono (by omega)))
          clear b2 hbox
          go_wp2_with (go_at_call 37; refine (HRd.out _ HB2.out).mono ?_; rintro e w3 ⟨rfl, rfl⟩)
          refine bodyPost_ret (v := gotV (badG 5)) (by simp [results, Tryz.f39, go_sem, c0, c1]) rfl ⟨rfl, ?_⟩
          exact ((HB2.out).setCell (p := ⟨w.heap.size, 0, none⟩) (Nat.le_refl _) _).setCell (p := ⟨w.heap.size, 1, none⟩) (Nat.le_refl _) _
        · rw [HG.out, if_neg hm]
          have e1 : r1N zs (A + z) 1 = (bt zs (A + z) : Nat) := by unfold r1N; rw [if_neg (by omega)]; simp [num]
          have e2 : r1E zs (A + z) 1 = 0 := if_neg (by omega)
          rw [e1, e2] at HRd
          have hbt := bt_le zs (A + z)
          have HKc := Lib.hid (fun w => r8coded_any w)
          obtain ⟨pa, pb, hpk⟩ : ∃ a b, pairAt k = (a, b) := ⟨_, _, rfl⟩
          rw [hpk] at s1 s2 ⊢
          simp only at s1 s2 ⊢
          have HPk := Lib.hid hpk
          clear hpk
          obtain hb | hb : bt zs (A + z) = 0 ∨ bt zs (A + z) = 1 := by omega
          · rw [hb] at HRd ⊢
            rw [if_neg (by omega)]
            clear HG hm e1 e2 hb
            go_enter Tryz.func39, Tryz.ntmps39
            go_wp2_with fail
            generalize w.alloc (.cells #[.int .i64 0, .int .i64 0] 66 (0, 0)) = w1 at *
            refine HR.out.mono ?_
            rintro e w2 ⟨rfl, b2⟩
            have hs2 := b2.size
            have hh2 := (b2.block w.heap.size (by omega)).trans hbox
            have HB2 := Lib.hid (HB0.out.trans (b2.mono (by omega)))
            clear b2 hbox
            go_wp2_with fail
            refine (HRd.out _ HB2.out).mono ?_
            rintro e w3 ⟨rfl, rfl⟩
            go_wp2_with fail
            refine (HKc.out _).mono ?_
            rintro e w3 ⟨vp, vc, rfl, hp, _, b3⟩
            obtain ⟨gp, cp, rfl, gp1, gp2, hpc⟩ := cell_pair hp
            obtain ⟨p0, p1⟩ := hpc k hk
            rw [Nat.mul_comm] at p0 p1
            have hs3 := b3.size
            have hh := (b3.block w.heap.size (by omega)).trans hh2
            obtain ⟨c0, c1, f0, f1⟩ := pair_cells hh
            have hlt2 : w.heap.size < w3.heap.size := by omega
            have HB3 := Lib.hid (HB2.out.trans (b3.mono (by omega)))
            have hki : (k : Int) < 63 := by omega
            have hne3 : w3.heap.size ≠ w.heap.size := by omega
            clear b3 hp hpc hh2
            rw [HPk.out] at p0 p1
            simp only at p0 p1
            go_wp2
            refine bodyPost_ret (v := gotV ⟨pa, pb, false, (z : Int) + 1, 0⟩) (by simp [results, Tryz.f39, go_sem, hlt2, c0, c1]) rfl ⟨rfl, ?_⟩
            exact ((HB3.out.setCell (p := ⟨w.heap.size, 0, none⟩) (Nat.le_refl _) _).setCell (p := ⟨w.heap.size, 1, none⟩) (Nat.le_refl _) _).alloc (by simp; omega) _
          · rw [hb] at HRd ⊢
            rw [if_pos rfl]
            clear HG hm e1 e2 hb
            go_enter Tryz.func39, Tryz.ntmps39
            go_wp2_with fail
            generalize w.alloc (.cells #[.int .i64 0, .int .i64 0] 66 (0, 0)) = w1 at *
            refine HR.out.mono ?_
            rintro e w2 ⟨rfl, b2⟩
            have hs2 := b2.size
            have hh2 := (b2.block w.heap.size (by omega)).trans hbox
            have HB2 := Lib.hid (HB0.out.trans (b2.mono (by omega)))
            clear b2 hbox
            go_wp2_with fail
            refine (HRd.out _ HB2.out).mono ?_
            rintro e w3 ⟨rfl, rfl⟩
            go_wp2_with fail
            refine (HKc.out _).mono ?_
            rintro e w3 ⟨vp, vc, rfl, hp, _, b3⟩
            obtain ⟨gp, cp, rfl, gp1, gp2, hpc⟩ := cell_pair hp
            obtain ⟨p0, p1⟩ := hpc k hk
            rw [Nat.mul_comm] at p0 p1
            have hs3 := b3.size
            have hh := (b3.block w.heap.size (by omega)).trans hh2
            obtain ⟨c0, c1, f0, f1⟩ := pair_cells hh
            have hlt2 : w.heap.size < w3.heap.size := by omega
            have HB3 := Lib.hid (HB2.out.trans (b3.mono (by omega)))
            have hki : (k : Int) < 63 := by omega
            have hne3 : w3.heap.size ≠ w.heap.size := by omega
            clear b3 hp hpc hh2
            rw [HPk.out] at p0 p1
            simp only at p0 p1
            go_wp2
            refine bodyPost_ret (v := gotV ⟨pa, -(pb : Int), false, (z : Int) + 1, 0⟩) (by simp [results, Tryz.f39, go_sem, hlt2, c0, c1]) rfl ⟨rfl, ?_⟩
            exact ((HB3.out.setCell (p := ⟨w.heap.size, 0, none⟩) (Nat.le_refl _) _).setCell (p := ⟨w.heap.size, 1, none⟩) (Nat.le_refl _) _).alloc (by simp; omega) _
      · rw [if_neg hk]
        have hesc : ((first = false ∧ k = 63) ∧ (codesF first)[k]?.getD ⟨#[]⟩ = end8 ∧ (numsF first)[k]?.getD 0 = 1001) ∨ (¬ (first = false ∧ k = 63) ∧ (codesF first)[k]?.getD ⟨#[]⟩ = esc8 ∧ (numsF first)[k]?.getD 0 = 1000) := by
          cases first with
          | true =>
            obtain rfl : k = 63 := by simp at k1; omega
            exact .inr ⟨by simp, by decide +kernel, by decide +kernel⟩
          | false =>
            obtain rfl | rfl : k = 63 ∨ k = 64 := by simp at k1; omega
            · exact .inl ⟨by simp, by decide +kernel, by decide +kernel⟩
            · exact .inr ⟨by simp, by decide +kernel, by decide +kernel⟩
        rcases hesc with ⟨hc, q1, q2⟩ | ⟨hc, q1, q2⟩
        · rw [if_pos hc]
          rw [q1, q2, show end8.size = 2 by decide +kernel] at HR
          clear q1 q2 hc k1 k2 k3
          go_enter Tryz.func39, Tryz.ntmps39
          go_wp2_with fail
          generalize w.alloc (.cells #[.int .i64 0, .int .i64 0] 66 (0, 0)) = w1 at *
          refine HR.out.mono ?_
          rintro e w2 ⟨rfl, b2⟩
          have hs2 := b2.size
          have hh := (b2.block w.heap.size (by omega)).trans hbox
          obtain ⟨c0, c1, f0, f1⟩ := pair_cells hh
          have hlt2 : w.heap.size < w2.heap.size := by omega
          have HB2 := Lib.hid (HB0.out.trans (b2.mono (by omega)))
          clear b2 hbox
          go_wp2
          refine bodyPost_ret (v := gotV ⟨0, 0, true, 2, 0⟩) (by simp [results, Tryz.f39, go_sem, c0, c1]) rfl ⟨rfl, ?_⟩
          exact ((HB2.out).setCell (p := ⟨w.heap.size, 0, none⟩) (Nat.le_refl _) _).setCell (p := ⟨w.heap.size, 1, none⟩) (Nat.le_refl _) _
        · rw [if_neg hc]
          rw [q1] at k3
          rw [q1, q2, show esc8.size = 6 by decide +kernel] at HR
          rw [show esc8.size = 6 by decide +kernel] at k3
          have HRd : Hid (∀ w', Below w.heap.size w w' → Calls Tryz.prog 37 #[sv, .int .i64 ((A : Int) + 6), .int .i64 14] w' fun e w'' => e = .returned (.tuple #[.int .i64 (r1N zs (A + 6) 14), .int .i64 (r1E zs (A + 6) 14)]) ∧ w' = w'') := fun w' hb => r1read_any (HBy.out w' hb) _ (A + 6) (by omega) 14 (by omega) (by omega) hl
          have hA : A + 6 ≤ 8 * zs.length := by omega
          clear q1 q2 hc k1 k2
          unfold escG
          by_cases hm : 8 * zs.length < A + 20
          · rw [if_pos hm]
            have e1 : r1N zs (A + 6) 14 = 0 := if_pos (by omega)
            have e2 : r1E zs (A + 6) 14 = 5 := if_pos (by omega)
            rw [e1, e2] at HRd
            clear hm e1 e2
            go_enter Tryz.func39, Tryz.ntmps39
            go_wp2_with fail
            generalize w.alloc (.cells #[.int .i64 0, .int .i64 0] 66 (0, 0)) = w1 at *
            refine HR.out.mono ?_
            rintro e w2 ⟨rfl, b2⟩
            have hs2 := b2.size
            have hh := (b2.block w.heap.size (by omega)).trans hbox
            obtain ⟨c0, c1, f0, f1⟩ := pair_cells hh
            have hlt2 : w.heap.size < w2.heap.size := by omega
            have HB2 := Lib.hid (HB0.out.trans (b2.mono (by omega)))
            clear b2 hbox
            go_wp2_with (go_at_call 37; refine (HRd.out _ HB2.out).mono ?_; rintro e w3 ⟨rfl, rfl⟩)
            refine bodyPost_ret (v := gotV (badG 5)) (by simp [results, Tryz.f39, go_sem, c0, c1]) rfl ⟨rfl, ?_⟩
            exact ((HB2.out).setCell (p := ⟨w.heap.size, 0, none⟩) (Nat.le_refl _) _).setCell (p := ⟨w.heap.size, 1, none⟩) (Nat.le_refl _) _
          · rw [if_neg hm]
            have e1 : r1N zs (A + 6) 14 = (num zs (A + 6) 14 : Nat) := if_neg (by omega)
            have e2 : r1E zs (A + 6) 14 = 0 := if_neg (by omega)
            rw [e1, e2] at HRd
            obtain ⟨n1, n2⟩ := num_14 zs (A + 6)
            rw [show A + 6 + 6 = A + 12 by omega] at n2
            have n3 := num_lt zs (A + 6) 14
            simp only [show 2 ^ 14 = 16384 from rfl] at n3
            clear hm e1 e2
            generalize num zs (A + 6) 14 = X at *
            generalize num zs (A + 6) 6 = R at *
            generalize num zs (A + 12) 8 = L at *
            have t1 : (X : Int).tmod 256 = (L : Int) := by rw [Int.tmod_eq_emod_of_nonneg (by omega)]; omega
            have t2 : (X : Int).tdiv 256 = (R : Int) := by rw [Int.tdiv_eq_ediv_of_nonneg (by omega)]; omega
            have t3 : (X : Int) / 256 = (R : Int) := by omega
            have hL : L < 256 := by omega
            have hR : R < 64 := by omega
            clear n1 n2
            by_cases hL0 : L = 0
            · rw [if_pos (.inl hL0)]
              subst hL0
              go_enter Tryz.func39, Tryz.ntmps39
              go_wp2_with fail
              generalize w.alloc (.cells #[.int .i64 0, .int .i64 0] 66 (0, 0)) = w1 at *
              refine HR.out.mono ?_
              rintro e w2 ⟨rfl, b2⟩
              have hs2 := b2.size
              have hh := (b2.block w.heap.size (by omega)).trans hbox
              obtain ⟨c0, c1, f0, f1⟩ := pair_cells hh
              have hlt2 : w.heap.size < w2.heap.size := by omega
              have HB2 := Lib.hid (HB0.out.trans (b2.mono (by omega)))
              clear b2 hbox
              go_wp2_with (go_at_call 37; refine (HRd.out _ HB2.out).mono ?_; rintro e w3 ⟨rfl, rfl⟩)
              refine bodyPost_ret (v := gotV (badG 10)) (by simp [results, Tryz.f39, go_sem, c0, c1]) rfl ⟨rfl, ?_⟩
              exact ((HB2.out).setCell (p := ⟨w.heap.size, 0, none⟩) (Nat.le_refl _) _).setCell (p := ⟨w.heap.size, 1, none⟩) (Nat.le_refl _) _
            · by_cases hL8 : L = 128
              · rw [if_pos (.inr hL8)]
                subst hL8
                go_enter Tryz.func39, Tryz.ntmps39
                go_wp2_with fail
                generalize w.alloc (.cells #[.int .i64 0, .int .i64 0] 66 (0, 0)) = w1 at *
                refine HR.out.mono ?_
                rintro e w2 ⟨rfl, b2⟩
                have hs2 := b2.size
                have hh := (b2.block w.heap.size (by omega)).trans hbox
                obtain ⟨c0, c1, f0, f1⟩ := pair_cells hh
                have hlt2 : w.heap.size < w2.heap.size := by omega
                have HB2 := Lib.hid (HB0.out.trans (b2.mono (by omega)))
                clear b2 hbox
                go_wp2_with (go_at_call 37; refine (HRd.out _ HB2.out).mono ?_; rintro e w3 ⟨rfl, rfl⟩)
                refine bodyPost_ret (v := gotV (badG 10)) (by simp [results, Tryz.f39, go_sem, c0, c1]) rfl ⟨rfl, ?_⟩
                exact ((HB2.out).setCell (p := ⟨w.heap.size, 0, none⟩) (Nat.le_refl _) _).setCell (p := ⟨w.heap.size, 1, none⟩) (Nat.le_refl _) _
              · rw [if_neg (by omega)]
                have u1 : ((L : Int) == 0) = false := by rw [beq_eq_false_iff_ne]; omega
                have u2 : ((L : Int) == 128) = false := by rw [beq_eq_false_iff_ne]; omega
                clear hL0 hL8
                by_cases hb : 128 < L
                · rw [show lvl L = (L : Int) - 256 from if_pos hb]
                  go_enter Tryz.func39, Tryz.ntmps39
                  go_wp2_with fail
                  generalize w.alloc (.cells #[.int .i64 0, .int .i64 0] 66 (0, 0)) = w1 at *
                  refine HR.out.mono ?_
                  rintro e w2 ⟨rfl, b2⟩
                  have hs2 := b2.size
                  have hh := (b2.block w.heap.size (by omega)).trans hbox
                  obtain ⟨c0, c1, f0, f1⟩ := pair_cells hh
                  have hlt2 : w.heap.size < w2.heap.size := by omega
                  have HB2 := Lib.hid (HB0.out.trans (b2.mono (by omega)))
                  clear b2 hbox
                  go_wp2_with (go_at_call 37; refine (HRd.out _ HB2.out).mono ?_; rintro e w3 ⟨rfl, rfl⟩)
                  refine bodyPost_ret (v := gotV ⟨R, (L : Int) - 256, false, 20, 0⟩) (by simp [results, Tryz.f39, go_sem, c0, c1]) rfl ⟨rfl, ?_⟩
                  exact ((HB2.out).setCell (p := ⟨w.heap.size, 0, none⟩) (Nat.le_refl _) _).setCell (p := ⟨w.heap.size, 1, none⟩) (Nat.le_refl _) _
                · rw [show lvl L = (L : Int) from if_neg hb]
                  go_enter Tryz.func39, Tryz.ntmps39
                  go_wp2_with fail
                  generalize w.alloc (.cells #[.int .i64 0, .int .i64 0] 66 (0, 0)) = w1 at *
                  refine HR.out.mono ?_
                  rintro e w2 ⟨rfl, b2⟩
                  have hs2 := b2.size
                  have hh := (b2.block w.heap.size (by omega)).trans hbox
                  obtain ⟨c0, c1, f0, f1⟩ := pair_cells hh
                  have hlt2 : w.heap.size < w2.heap.size := by omega
                  have HB2 := Lib.hid (HB0.out.trans (b2.mono (by omega)))
                  clear b2 hbox
                  go_wp2_with (go_at_call 37; refine (HRd.out _ HB2.out).mono ?_; rintro e w3 ⟨rfl, rfl⟩)
                  refine bodyPost_ret (v := gotV ⟨R, L, false, 20, 0⟩) (by simp [results, Tryz.f39, go_sem, c0, c1]) rfl ⟨rfl, ?_⟩
                  exact ((HB2.out).setCell (p := ⟨w.heap.size, 0, none⟩) (Nat.le_refl _) _).setCell (p := ⟨w.heap.size, 1, none⟩) (Nat.le_refl _) _

theorem pair_eq (a b c d : Int) (w : World) : (binOp .eql 66 (.agg #[.int .i64 a, .int .i64 b]) (.agg #[.int .i64 c, .int .i64 d])).run Tryz.prog w = .ok (.bool (a == c && b == d)) w := by
  have hS : Tryz.prog.underlying 66 = some (.struct (Tryz.prog.fieldsOf 66)) := by kernel_rfl
  have hp : Tryz.prog.stoodInHeld 66 = false := by kernel_rfl
  rw [run_eql_struct, show (10000 : Nat) = 9999 + 1 from rfl, run_equalIn_agg w 9999 66 _ _ hS hp]
  have u3 := Tryz.underlying3
  have hu := Tryz.underlying66
  simp only [Program.fieldsOf, Tryz.underlying66]
  go_simp
  by_cases h1 : a = c <;> by_cases h2 : b = d <;> simp [h1, h2]
theorem run_pair_neq (a b c d : Int) (w : World) : (binOp .neq 66 (.agg #[.int .i64 a, .int .i64 b]) (.agg #[.int .i64 c, .int .i64 d])).run Tryz.prog w = .ok (.bool (!(a == c && b == d))) w := by
  have h := pair_eq a b c d w
  rw [run_eql_struct] at h
  simp only [binOp]
  have hq : ((Op.equal 66 (.agg #[.int .i64 a, .int .i64 b]) (.agg #[.int .i64 c, .int .i64 d])).run Tryz.prog w) = .ok (a == c && b == d) w := by
    show (Op.equalIn 10000 66 (.agg #[.int .i64 a, .int .i64 b]) (.agg #[.int .i64 c, .int .i64 d])).run Tryz.prog w = _
    cases hr : (Op.equalIn 10000 66 (.agg #[.int .i64 a, .int .i64 b]) (.agg #[.int .i64 c, .int .i64 d])).run Tryz.prog w with
    | ok v w' =>
      rw [hr] at h
      simp [Result.andThen] at h
      rw [h.1, h.2]
    | _ => rw [hr] at h; simp [Result.andThen] at h
  simp [hq]

end Go.Proofs.YtbcfiafgolcbpaaGreatDoor
