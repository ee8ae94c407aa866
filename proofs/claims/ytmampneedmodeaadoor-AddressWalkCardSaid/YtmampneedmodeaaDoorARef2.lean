/- Contracts of the reference's address (praxinoscoperef04): Get, Put, Next, Row. -/
import Derived.Test.YtmampneedmodeaaDoorARef
namespace Go.Proofs.YtmampneedmodeaaDoor
open Go.RowKit Go.Shelf
set_option linter.unusedVariables false

theorem rowV_own4 {w : World} {base n : Nat} {e : TypeId} {v : Value} {xs : List Value} (h : w.ownsRow base e 1 v n xs) : ∃ a cap, v = .slice a n cap ∧ RowV w.heap.size w a n cap xs := by
  have hl : xs.length = n := by have := h.1; omega
  subst hl
  rcases id h.2 with ⟨rfl, h0⟩ | ⟨g, cap, cur, rfl, _, hg, hc, hm, _⟩
  · exact ⟨none, 0, by rw [h0], rfl, by omega, by omega, .inl rfl⟩
  · refine ⟨_, cap, rfl, rfl, hc, by unfold maxLen at hm; omega, .inr ⟨g, 0, rfl, (Array.getElem?_eq_some_iff.1 hg).1, fun j u hu => ?_⟩⟩
    have hj : j < xs.length := by
      false_or_by_contra
      rw [List.getElem?_eq_none (by omega)] at hu
      cases hu
    rw [Nat.zero_add, h.cellAt j (by omega), hu]

theorem RowV.mono4 {n₀ n₁ : Nat} {w : World} {a : Option Addr} {len cap : Nat} {vs : List Value} (h : RowV n₀ w a len cap vs) (hn : n₀ ≤ n₁) : RowV n₁ w a len cap vs := by
  obtain ⟨h1, h2, h3, h4⟩ := h
  exact ⟨h1, h2, h3, h4.imp id fun ⟨b, off, e, hlt, hc⟩ => ⟨b, off, e, Nat.lt_of_lt_of_le hlt hn, hc⟩⟩
theorem getT4 (zs : List UInt8) (x : Int) : ∃ n b e : Int, getT codes4 nums4 zs x = .tuple #[.int .i64 n, .int .i64 b, .int .i64 e] ∧ gN zs x = n ∧ gM zs x = (if n = 34 then 0 else b) ∧ gE zs x = e := by
  by_cases h : x < 0
  · refine ⟨0, 0, 3, by unfold getT; rw [if_pos h], by unfold gN; rw [if_pos h], by unfold gM; rw [if_pos h]; rfl, by unfold gE; rw [if_pos h]⟩
  · exact ⟨_, _, _, by unfold getT; rw [if_neg h], by unfold gN; rw [if_neg h], by unfold gM; rw [if_neg h], by unfold gE; rw [if_neg h]⟩
theorem make4 : makeE codes4 nums4 = 0 := by decide +kernel
theorem codes4_small : ∀ s ∈ codes4, s.size ≤ 9223372036854775807 := by decide +kernel

set_option maxRecDepth 100000 in
set_option maxHeartbeats 2000000 in
theorem r4get_any {n₁ : Nat} {w : World} {sv : Value} {zs : List UInt8} (hB : Byt n₁ w sv zs) (hn : n₁ ≤ w.heap.size) (hl : zs.length ≤ 1099511627776) (x : Int) (hx : x ≤ 9223372036854775807) :
    Calls Tryd.prog 12 #[sv, .int .i64 x] w fun e w' => e = .returned (.tuple #[.int .i64 (gN zs x), .int .i64 (gM zs x), .int .i64 (gE zs x)]) ∧ Below w.heap.size w w' := by
  obtain ⟨n, b, e0, hg, g1, g2, g3⟩ := getT4 zs x
  rw [g1, g2, g3]
  obtain ⟨m, hm34⟩ : ∃ m : Int, m = (if n = 34 then 0 else b) := ⟨_, rfl⟩
  rw [← hm34]
  have HM34 := Lib.hid hm34
  clear hm34
  have HB := Lib.hid (fun w' (hb : Below w.heap.size w w') => hB.below (hb.mono hn))
  have HG := Lib.hid hg
  have h1 : Below w.heap.size w (w.alloc (.cells (strV codes4).toArray 9 (0, 0))) := (Below.refl _ w).alloc (Nat.le_refl _) _
  have HR := Lib.hid (rowV_new w (strV codes4) 9 35 (by simp [codes4_length]) (by decide))
  clear hB hg g1 g2 g3
  generalize hw1 : w.alloc (.cells (strV codes4).toArray 9 (0, 0)) = w1 at *
  have HW1 := Lib.hid hw1
  clear hw1
  have hs1 := h1.size
  have H1 := Lib.hid h1
  clear h1
  go_enter Tryd.func12, Tryd.ntmps12
  go_wp2_with (go_at_call 30; refine (r4codes_any w).mono ?_; rintro e w' ⟨rfl, hw'⟩; rw [HW1.out] at hw'; subst hw'; refine Hid.out ?_)
  refine Lib.hid ?_
  go_wp2_with (go_at_call 31; refine (r4numbers_any _).mono ?_; rintro e w2 ⟨v, rfl, hown, hb2⟩; have HO := Lib.hid hown; have HB2 := Lib.hid hb2; clear hown hb2; refine Hid.out ?_)
  refine Lib.hid ?_
  obtain ⟨a2, cap2, rfl, hv2⟩ := rowV_own4 HO.out
  have hv1 := HR.out.below HB2.out
  have hs2 := HB2.out.size
  have hv1' : RowV w2.heap.size w2 (some ⟨w.heap.size, 0, none⟩) 35 35 (strV codes4) := hv1.mono4 hs2
  have HM := Lib.hid (tmake_any hv1' hv2 codes4_small)
  clear hv1 hv2 hv1'
  go_wp2_with (go_at_call 29; refine HM.out.mono ?_; rintro e w3 ⟨hb3, hm⟩; obtain ⟨_, bt, rfl, hT⟩ := hm.resolve_right (fun h => h.1 make4); have HB3 := Lib.hid hb3; have HT := Lib.hid hT; clear hb3 hT hm; refine Hid.out ?_)
  refine Lib.hid ?_
  have hs3 := HB3.out.size
  have b3 : Below w.heap.size w w3 := (H1.out.trans (HB2.out.mono hs1)).trans (HB3.out.mono (by omega))
  have HGt := Lib.hid (tget_any HT.out (HB.out _ b3) (by omega) hl x hx)
  rw [HG.out] at HGt
  have HB4 := Lib.hid b3
  clear b3
  by_cases h34 : n = 34
  · subst h34
    obtain rfl : m = 0 := by rw [HM34.out]; rfl
    go_wp2_with (go_at_call 32; refine HGt.out.mono ?_; rintro e w4 ⟨rfl, hb4⟩)
    go_ret3
    exact ⟨rfl, HB4.out.trans (hb4.mono (by omega))⟩
  · obtain rfl : m = b := by rw [HM34.out, if_neg h34]
    have t1 : (n == 34) = false := by simpa using h34
    clear h34
    go_wp2_with (go_at_call 32; refine HGt.out.mono ?_; rintro e w4 ⟨rfl, hb4⟩)
    go_ret3
    exact ⟨rfl, HB4.out.trans (hb4.mono (by omega))⟩

set_option maxRecDepth 100000 in
set_option maxHeartbeats 1000000 in
theorem r4put_any (d : Int) (w : World) :
    Calls Tryd.prog 15 #[.int .i64 d] w fun e w' => e = .returned (.tuple #[.string (putS4 d), .int .i64 (putE4 d)]) ∧ Below w.heap.size w w' := by
  unfold putS4 putE4
  by_cases h1 : d < 0
  · rw [if_pos (.inl h1), if_pos (.inl h1)]
    go_enter Tryd.func15, Tryd.ntmps15
    go_wp2
    go_ret2
    exact ⟨rfl, Below.refl _ _⟩
  · by_cases h2 : 33 < d
    · rw [if_pos (.inr h2), if_pos (.inr h2)]
      go_enter Tryd.func15, Tryd.ntmps15
      go_wp2
      go_ret2
      exact ⟨rfl, Below.refl _ _⟩
    · rw [if_neg (by omega), if_neg (by omega)]
      obtain ⟨k, rfl⟩ := Int.eq_ofNat_of_zero_le (a := d) (by omega)
      have hk : k < 35 := by omega
      rw [Int.toNat_natCast]
      have hb : Below w.heap.size w (w.alloc (.cells (strV codes4).toArray 9 (0, 0))) := (Below.refl _ w).alloc (Nat.le_refl _) _
      have hc : (w.alloc (.cells (strV codes4).toArray 9 (0, 0))).cell? ⟨w.heap.size, k, none⟩ = some (.string (binS (cd k).1 (cd k).2)) := by
        have h := src_row w (strV codes4) 9 k (.string (binS (cd k).1 (cd k).2)) (by rw [← codes4_at hk]; simp [show k < codes4.length by rw [codes4_length]; exact hk])
        have hadd : (⟨w.heap.size, 0, none⟩ : Addr).add k = ⟨w.heap.size, 0 + k, none⟩ := by unfold Addr.add; split <;> simp_all
        rwa [hadd, Nat.zero_add] at h
      generalize hw1 : w.alloc (.cells (strV codes4).toArray 9 (0, 0)) = w1 at *
      have HW1 := Lib.hid hw1
      clear hw1
      go_enter Tryd.func15, Tryd.ntmps15
      go_wp2_with (go_at_call 30; refine (r4codes_any w).mono ?_; rintro e w' ⟨rfl, hw'⟩; rw [HW1.out] at hw'; subst hw')
      go_ret2
      exact ⟨rfl, hb⟩

set_option maxHeartbeats 1000000 in
theorem r4next_any (a d : Int) (w : World) :
    Calls Tryd.prog 17 #[.int .i64 a, .int .i64 d] w fun e w' => e = .returned (.tuple #[.int .i64 (nextN a d), .int .i64 (nextE a d)]) ∧ w = w' := by
  unfold nextN nextE
  by_cases h : a < 0 ∨ 33 < a ∨ d < 1 ∨ 33 < d
  · rw [if_pos h, if_pos h]
    by_cases h1 : a < 0
    · clear h
      go_enter Tryd.func17, Tryd.ntmps17
      go_wp2
      go_ret2
      exact ⟨rfl, rfl⟩
    · by_cases h2 : 33 < a
      · clear h
        go_enter Tryd.func17, Tryd.ntmps17
        go_wp2
        go_ret2
        exact ⟨rfl, rfl⟩
      · by_cases h3 : d < 1
        · clear h
          go_enter Tryd.func17, Tryd.ntmps17
          go_wp2
          go_ret2
          exact ⟨rfl, rfl⟩
        · have h4 : 33 < d := by omega
          clear h
          go_enter Tryd.func17, Tryd.ntmps17
          go_wp2
          go_ret2
          exact ⟨rfl, rfl⟩
  · rw [if_neg h, if_neg h]
    have h1 : ¬ a < 0 := by omega
    have h2 : ¬ 33 < a := by omega
    have h3 : ¬ d < 1 := by omega
    have h4 : ¬ 33 < d := by omega
    clear h
    by_cases hs : 33 < a + d
    · rw [if_pos hs, if_pos hs]
      go_enter Tryd.func17, Tryd.ntmps17
      go_wp2
      go_ret2
      exact ⟨rfl, rfl⟩
    · rw [if_neg hs, if_neg hs]
      go_enter Tryd.func17, Tryd.ntmps17
      go_wp2
      go_ret2
      exact ⟨rfl, rfl⟩

set_option maxHeartbeats 1000000 in
theorem r4row_any (a : Int) (w : World) :
    Calls Tryd.prog 19 #[.int .i64 a] w fun e w' => e = .returned (.tuple #[.int .i64 (rowR a), .int .i64 (rowC a), .int .i64 (rowE a)]) ∧ w = w' := by
  unfold rowR rowC rowE
  by_cases h1 : a < 1
  · rw [if_pos (.inl h1), if_pos (.inl h1), if_pos (.inl h1)]
    go_enter Tryd.func19, Tryd.ntmps19
    go_wp2
    go_ret3
    exact ⟨rfl, rfl⟩
  · by_cases h2 : 33 < a
    · rw [if_pos (.inr h2), if_pos (.inr h2), if_pos (.inr h2)]
      go_enter Tryd.func19, Tryd.ntmps19
      go_wp2
      go_ret3
      exact ⟨rfl, rfl⟩
    · rw [if_neg (by omega), if_neg (by omega), if_neg (by omega)]
      have e1 : (a - 1).tdiv 11 = (a - 1) / 11 := Int.tdiv_eq_ediv_of_nonneg (by omega)
      have e2 : (a - 1).tmod 11 = (a - 1) % 11 := Int.tmod_eq_emod_of_nonneg (by omega)
      go_enter Tryd.func19, Tryd.ntmps19
      go_wp2
      go_ret3
      exact ⟨rfl, rfl⟩

end Go.Proofs.YtmampneedmodeaaDoor
