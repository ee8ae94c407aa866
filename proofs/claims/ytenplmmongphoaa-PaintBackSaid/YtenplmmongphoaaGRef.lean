/- frame: the reference's (praxinoscoperef13). -/
import Derived.Test.YtenplmmongphoaaGAns
namespace Go.Proofs.Ytenplmmongphoaa
open Go.RowKit Go.Shelf Go.Sort
set_option linter.unusedVariables false

theorem tup3 {a b c a' b' c' : Int} (h1 : a = a') (h2 : b = b') (h3 : c = c') : Ending.returned (.tuple #[.int .i64 a, .int .i64 b, .int .i64 c]) = .returned (.tuple #[.int .i64 a', .int .i64 b', .int .i64 c']) := by rw [h1, h2, h3]
theorem f_cases (f : Int) : f = 0 ∨ f = 1 ∨ ((f == 0) = false ∧ (f == 1) = false) := by
  by_cases h0 : f = 0
  · exact .inl h0
  · by_cases h1 : f = 1
    · exact .inr (.inl h1)
    · exact .inr (.inr ⟨by simpa using h0, by simpa using h1⟩)
theorem none_ans {f : Int} (h0 : (f == 0) = false) (h1 : (f == 1) = false) : sW f = 0 ∧ sH f = 0 ∧ sN f = 0 ∧ sE f = 3 ∧ gL f = [] ∧ isF f = false := by
  have n0 : f ≠ 0 := by simpa using h0
  have n1 : f ≠ 1 := by simpa using h1
  have hF : isF f = false := by unfold isF; rw [h0, h1]; rfl
  refine ⟨?_, ?_, ?_, ?_, ?_, hF⟩
  · unfold sW; rw [if_neg n0, if_neg n1]
  · unfold sH; rw [if_neg n0, if_neg n1]
  · unfold sN; rw [if_neg n0, if_neg n1]
  · unfold sE; rw [if_neg (by simp [hF])]
  · unfold gL; rw [if_neg n0, if_neg n1]
theorem rsize13_any (f : Int) (W : World) : Calls Try.prog 50 #[.int .i64 f] W fun e W' => e = .returned (.tuple #[.int .i64 (sW f), .int .i64 (sH f), .int .i64 (sN f), .int .i64 (sE f)]) ∧ W = W' := by
  rcases f_cases f with rfl | rfl | ⟨h0, h1⟩
  · go_enter Try.func50, Try.ntmps50
    go_wp2
    try simp only [Exit.inBlock, Exit.then]
    refine bodyPost_ret (results_tmp4 rfl _ _ _) rfl ?_
    exact ⟨rfl, rfl⟩
  · go_enter Try.func50, Try.ntmps50
    go_wp2
    try simp only [Exit.inBlock, Exit.then]
    refine bodyPost_ret (results_tmp4 rfl _ _ _) rfl ?_
    exact ⟨rfl, rfl⟩
  · obtain ⟨e1, e2, e3, e4, -, -⟩ := none_ans h0 h1
    rw [e1, e2, e3, e4]
    go_enter Try.func50, Try.ntmps50
    go_wp2
    try simp only [Exit.inBlock, Exit.then]
    refine bodyPost_ret (results_tmp4 rfl _ _ _) rfl ?_
    exact ⟨rfl, rfl⟩
theorem cellsAt_new (W : World) (vs : List Value) (t : TypeId) (cap : Nat) : CellsAt (W.alloc (.cells vs.toArray t (0, 0))) (.slice (some ⟨W.heap.size, 0, none⟩) vs.length cap) vs := by
  refine ⟨_, cap, rfl, .inr ⟨_, _, rfl, fun j u h => ?_⟩⟩
  have hn := World.alloc_heap_new W (.cells vs.toArray t (0, 0))
  unfold World.cell?
  simp only
  rw [hn]
  simpa using h
set_option maxHeartbeats 1000000 in
theorem rgroups13_any (f : Int) (W : World) : Calls Try.prog 87 #[.int .i64 f] W fun e W' => ∃ v, e = .returned (.tuple #[v, .int .i64 (sE f)]) ∧ CellsAt W' v (intV (gL f)) ∧ (∀ k, v.ownBlock = some k → W.heap.size ≤ k) ∧ Below W.heap.size W W' := by
  rcases f_cases f with rfl | rfl | ⟨h0, h1⟩
  · go_enter Try.func87, Try.ntmps87
    go_wp2
    go_ret2
    exact ⟨_, rfl, cellsAt_new W (intV [1, 3, 5]) 3 3, fun k h => by cases h; exact Nat.le_refl _, (Below.refl _ _).alloc (Nat.le_refl _) _⟩
  · go_enter Try.func87, Try.ntmps87
    go_wp2
    go_ret2
    exact ⟨_, rfl, cellsAt_new W (intV [1, 2, 3, 4, 5, 6, 7, 8, 9, 10, 11, 12]) 3 12, fun k h => by cases h; exact Nat.le_refl _, (Below.refl _ _).alloc (Nat.le_refl _) _⟩
  · obtain ⟨-, -, -, e4, e5, -⟩ := none_ans h0 h1
    rw [e4, e5]
    go_enter Try.func87, Try.ntmps87
    go_wp2
    go_ret2
    refine ⟨_, rfl, ⟨none, 0, rfl, .inl rfl⟩, fun k h => (by cases h), Below.refl _ _⟩

/-- at the first group that is g -/
theorem nX_at {f : Int} {i : Nat} {g : Int} (hi : i < (gL f).length) (hg : (gL f)[i]?.getD 0 = g) (hp : ∀ j, j < i → (gL f)[j]?.getD 0 ≠ g) : g ≠ 0 ∧ nE f g = 0 ∧ nX f g = if i + 1 = (gL f).length then 0 else (gL f)[i + 1]?.getD 0 := by
  subst hg
  rcases f_cases f with rfl | rfl | ⟨h0, h1⟩
  · revert hp
    exact (by decide +kernel : ∀ i : Fin 3, (∀ j, j < i.val → (gL 0)[j]?.getD 0 ≠ (gL 0)[i.val]?.getD 0) → (gL 0)[i.val]?.getD 0 ≠ 0 ∧ nE 0 ((gL 0)[i.val]?.getD 0) = 0 ∧ nX 0 ((gL 0)[i.val]?.getD 0) = if i.val + 1 = (gL 0).length then 0 else (gL 0)[i.val + 1]?.getD 0) ⟨i, hi⟩
  · revert hp
    exact (by decide +kernel : ∀ i : Fin 12, (∀ j, j < i.val → (gL 1)[j]?.getD 0 ≠ (gL 1)[i.val]?.getD 0) → (gL 1)[i.val]?.getD 0 ≠ 0 ∧ nE 1 ((gL 1)[i.val]?.getD 0) = 0 ∧ nX 1 ((gL 1)[i.val]?.getD 0) = if i.val + 1 = (gL 1).length then 0 else (gL 1)[i.val + 1]?.getD 0) ⟨i, hi⟩
  · rw [(none_ans h0 h1).2.2.2.2.1] at hi
    simp at hi
theorem nX_no {f : Int} {g : Int} (hF : isF f = true) (h0 : g ≠ 0) (hp : ∀ j, j < (gL f).length → (gL f)[j]?.getD 0 ≠ g) : nE f g = 8 ∧ nX f g = 0 := by
  have hG : isG f g = false ∧ nX f g = 0 := by
    rcases f_cases f with rfl | rfl | ⟨h0, h1⟩
    · have e0 := hp 0 (by decide)
      have e1 := hp 1 (by decide)
      have e2 := hp 2 (by decide)
      simp [gL] at e0 e1 e2
      have n1 : g ≠ 1 := fun h => e0 h.symm
      have n3 : g ≠ 3 := fun h => e1 h.symm
      have n5 : g ≠ 5 := fun h => e2 h.symm
      simp [nX, isG, h0, n1, n3, n5]
    · have hg : g < 0 ∨ 12 < g := by
        by_cases q : g < 0
        · exact .inl q
        · by_cases q2 : 12 < g
          · exact .inr q2
          · obtain ⟨i, rfl⟩ : ∃ i : Nat, g = (i : Int) + 1 := ⟨(g - 1).toNat, by omega⟩
            exact absurd ((by decide +kernel : ∀ i : Fin 12, (gL 1)[i.val]?.getD 0 = (i.val : Int) + 1) ⟨i, by omega⟩) (hp i (by show i < 12; omega))
      constructor
      · unfold isG
        simp
        omega
      · unfold nX; rw [if_neg (by decide), if_pos rfl, if_neg (by omega)]
    · rw [(none_ans h0 h1).2.2.2.2.2] at hF; cases hF
  refine ⟨?_, hG.2⟩
  unfold nE
  rw [if_pos hF, if_neg]
  rintro (h | h)
  · exact h0 h
  · rw [hG.1] at h; cases h
theorem nX_zero {f : Int} (hF : isF f = true) : nE f 0 = 0 ∧ nX f 0 = 1 := by
  rcases f_cases f with rfl | rfl | ⟨h0, h1⟩
  · exact ⟨rfl, rfl⟩
  · exact ⟨rfl, rfl⟩
  · rw [(none_ans h0 h1).2.2.2.2.2] at hF; cases hF

set_option maxRecDepth 100000 in
set_option maxHeartbeats 4000000 in
theorem rnext13_any (f g : Int) (W : World) : Calls Try.prog 78 #[.int .i64 f, .int .i64 g] W fun e W' => e = .returned (.tuple #[.int .i64 (nX f g), .int .i64 (nE f g)]) ∧ Below W.heap.size W W' := by
  have HG := Lib.hid (rgroups13_any f W)
  by_cases hF : isF f = true
  · have e4 : sE f = 0 := by unfold sE; rw [if_pos hF]
    rw [e4] at HG
    by_cases hg : g = 0
    · subst hg
      obtain ⟨e1, e2⟩ := nX_zero hF
      rw [e1, e2]
      clear e1 e2 e4 hF
      go_enter Try.func78, Try.ntmps78
      go_wp2_with (go_at_call 87; refine HG.out.mono ?_; rintro e w1 ⟨v, rfl, hc, ho, hb⟩)
      go_ret2
      exact ⟨rfl, hb⟩
    · have hg0 : (g == 0) = false := by simpa using hg
      have HN := Lib.hid (nX_no hF hg)
      have HA := Lib.hid (fun i => nX_at (f := f) (i := i) (g := g))
      have hlen := gL_short f
      clear hF e4 hg
      generalize nX f g = x at *
      generalize nE f g = y at *
      generalize gL f = xs at *
      go_enter Try.func78, Try.ntmps78
      go_wp2_with (go_at_call 87; refine HG.out.mono ?_; rintro e w1 ⟨v, rfl, ⟨a, cap, rfl, hc⟩, -, hb⟩)
      have HC := Lib.hid hc
      have HB := Lib.hid hb
      clear hc hb
      try simp only [List.length_map]
      go_loopw [8] (fun i wr => ∃ k : Nat, i = .int .i64 k ∧ k ≤ xs.length ∧ (∀ j, j < k → xs[j]?.getD 0 ≠ g) ∧ wr = w1) (fun i _ => xs.length - (intOf i).toNat)
      case atStart => exact ⟨0, rfl, by omega, fun j hj => by omega, rfl⟩
      case round =>
        obtain ⟨k, rfl, hk, hsame, rfl⟩ := hrel
        have HSm := Lib.hid hsame
        clear hsame
        by_cases hk2 : k < xs.length
        · have hk3 : (k : Int) < (xs.length : Int) := by omega
          rcases HC.out with e | ⟨b1, o1, rfl, hc1⟩
          · have : xs = [] := by simpa using e
            subst this; simp at hk2
          have y1 := hc1 k _ (intV_get hk2)
          have hsucc : ∀ h : k + 1 < xs.length, wr.cell? ⟨b1, o1 + (k + 1), none⟩ = some (.int .i64 (xs[k + 1]?.getD 0)) := fun h => hc1 (k + 1) _ (intV_get h)
          by_cases hp : xs[k]?.getD 0 = g
          · obtain ⟨-, hy, hx⟩ := HA.out k hk2 hp HSm.out
            rw [hp] at y1
            have t1 : (g == g) = true := by simp
            by_cases hl : k + 1 = xs.length
            · rw [if_pos hl] at hx
              have t2 : ((k : Int) == (xs.length : Int) - 1) = true := by rw [beq_iff_eq]; omega
              subst hx hy
              clear hc1 hsucc hp hl
              go_wp2
              go_ret2
              exact ⟨rfl, HB.out⟩
            · rw [if_neg hl] at hx
              have t2 : ((k : Int) == (xs.length : Int) - 1) = false := by rw [beq_eq_false_iff_ne]; omega
              have y2 := hsucc (by omega)
              rw [← hx] at y2
              have hk4 : (k : Int) + 1 < (xs.length : Int) := by omega
              subst hy
              clear hc1 hsucc hp hl hx
              go_wp2
              go_ret2
              exact ⟨rfl, HB.out⟩
          · have HP := Lib.hid hp
            have t1 : (xs[k]?.getD 0 == g) = false := by simpa using hp
            clear hp hc1 hsucc
            generalize hq : xs[k]?.getD 0 = q at *
            have HQ := Lib.hid hq
            clear hq
            go_wp2
            go_roundw
            case rel => exact ⟨k + 1, by go_num, by omega, fun j hj => by
              by_cases e : j = k
              · rw [e, HQ.out]; exact HP.out
              · exact HSm.out j (by omega), trivial⟩
            case measure => simp [intOf]; omega
        · obtain rfl : k = xs.length := by omega
          obtain ⟨hy, hx⟩ := HN.out HSm.out
          subst hx hy
          go_wp2
          go_ret2
          exact ⟨rfl, HB.out⟩
  · obtain ⟨h0, h1⟩ := isF_no (by simpa using hF)
    have e4 : sE f = 3 := (none_ans h0 h1).2.2.2.1
    have e1 : nX f g = 0 := by unfold nX; rw [if_neg (by simpa using h0), if_neg (by simpa using h1)]
    have e2 : nE f g = 3 := by unfold nE; rw [if_neg hF]
    rw [e1, e2]
    rw [e4] at HG
    clear e1 e2 e4 hF h0 h1
    go_enter Try.func78, Try.ntmps78
    go_wp2_with (go_at_call 87; refine HG.out.mono ?_; rintro e w1 ⟨v, rfl, hc, ho, hb⟩)
    go_ret2
    exact ⟨rfl, hb⟩


set_option maxRecDepth 100000 in
set_option maxHeartbeats 2000000 in
theorem rcorner13_any (f g a : Int) (W : World) (hg : -9223372036854775808 ≤ g ∧ g ≤ 9223372036854775807) (ha : -9223372036854775808 ≤ a ∧ a ≤ 9223372036854775807) : Calls Try.prog 60 #[.int .i64 f, .int .i64 g, .int .i64 a] W fun e W' => e = .returned (.tuple #[.int .i64 (cX f g a), .int .i64 (cY f g a), .int .i64 (cE f g a)]) ∧ Below W.heap.size W W' := by
  have HN := Lib.hid (rnext13_any f g W)
  by_cases hc : cE f g a = 0
  · have h1 : isF f = true := by
      by_cases q : isF f = true
      · exact q
      · unfold cE at hc; rw [if_neg q] at hc; omega
    have h2 : isG f g = true := by
      by_cases q : isG f g = true
      · exact q
      · unfold cE at hc; rw [if_pos h1, if_neg q] at hc; omega
    have h3 : 1 ≤ a ∧ a ≤ 33 := by
      by_cases q : 1 ≤ a ∧ a ≤ 33
      · exact q
      · unfold cE at hc; rw [if_pos h1, if_pos h2, if_neg q] at hc; omega
    have e1 : cX f g a = 16 * ((a - 1) % 11) + 176 * ((g - 1) % 2) := by unfold cX; rw [if_pos hc]
    have e2 : cY f g a = 16 * ((a - 1) / 11) + 48 * ((g - 1) / 2) := by unfold cY; rw [if_pos hc]
    have e3 : nE f g = 0 := by unfold nE; rw [if_pos h1, if_pos (.inr h2)]
    rw [hc, e1, e2]
    rw [e3] at HN
    generalize nX f g = nx at *
    obtain ⟨i, rfl⟩ : ∃ i : Nat, a = (i : Int) + 1 := ⟨(a - 1).toNat, by omega⟩
    have hi : (i : Int) ≤ 32 := by omega
    clear hc e1 e2 e3 h1 ha
    obtain ⟨j, rfl, hj, hff⟩ : ∃ j : Nat, g = (j : Int) + 1 ∧ j ≤ 11 ∧ ((f = 0 ∧ j % 2 = 0) ∨ f = 1) := by
      unfold isG at h2
      simp at h2
      refine ⟨(g - 1).toNat, by omega, by omega, ?_⟩
      rcases h2 with ⟨h, h'⟩ | ⟨⟨h, h'⟩, h''⟩
      · left; exact ⟨h, by omega⟩
      · exact .inr h
    clear h2 hg
    rw [show ((i : Int) + 1 - 1) = (i : Int) by omega, show ((j : Int) + 1 - 1) = (j : Int) by omega]
    have hj1 : (j : Int) ≤ 11 := by omega
    rcases hff with ⟨rfl, hj2⟩ | rfl
    · go_enter Try.func60, Try.ntmps60
      go_wp2_with (go_at_call 78; refine HN.out.mono ?_; rintro e w1 ⟨rfl, hb⟩)
      go_ret3
      exact ⟨tup3 (a := (i : Int) % 11 * 16) (b := (i : Int) / 11 * 16 + (j : Int) / 2 * 48) (by omega) (by omega) rfl, hb⟩
    · go_enter Try.func60, Try.ntmps60
      go_wp2_with (go_at_call 78; refine HN.out.mono ?_; rintro e w1 ⟨rfl, hb⟩)
      go_ret3
      exact ⟨tup3 (a := (i : Int) % 11 * 16 + (j : Int) % 2 * 176) (b := (i : Int) / 11 * 16 + (j : Int) / 2 * 48) (by omega) (by omega) rfl, hb⟩
  · have e1 : cX f g a = 0 := by unfold cX; rw [if_neg hc]
    have e2 : cY f g a = 0 := by unfold cY; rw [if_neg hc]
    rw [e1, e2]
    clear e1 e2
    by_cases hn : nE f g = 0
    · by_cases hg0 : g = 0
      · subst hg0
        have h1 : isF f = true := by
          by_cases q : isF f = true
          · exact q
          · unfold nE at hn; rw [if_neg q] at hn; omega
        have h2 : isG f 0 = false := by simp [isG]
        have e3 : cE f 0 a = 8 := by unfold cE; rw [if_pos h1, if_neg (by simp [h2])]
        rw [e3]
        rw [hn] at HN
        clear hn hc h1 h2 e3 hg
        generalize nX f 0 = nx at *
        go_enter Try.func60, Try.ntmps60
        go_wp2_with (go_at_call 78; refine HN.out.mono ?_; rintro e w1 ⟨rfl, hb⟩)
        go_ret3
        exact ⟨rfl, hb⟩
      · have h1 : isF f = true := by
          by_cases q : isF f = true
          · exact q
          · unfold nE at hn; rw [if_neg q] at hn; omega
        have h2 : isG f g = true := by
          by_cases q : isG f g = true
          · exact q
          · unfold nE at hn; rw [if_pos h1, if_neg (by rintro (h | h); exact hg0 h; exact q h)] at hn; omega
        have h3 : ¬ (1 ≤ a ∧ a ≤ 33) := fun q => hc (by unfold cE; rw [if_pos h1, if_pos h2, if_pos q])
        have e3 : cE f g a = 13 := by unfold cE; rw [if_pos h1, if_pos h2, if_neg h3]
        have t0 : (g == 0) = false := by simpa using hg0
        rw [e3]
        rw [hn] at HN
        clear hn hc h1 h2 e3 hg0 hg
        generalize nX f g = nx at *
        by_cases h4 : a < 1
        · clear h3
          go_enter Try.func60, Try.ntmps60
          go_wp2_with (go_at_call 78; refine HN.out.mono ?_; rintro e w1 ⟨rfl, hb⟩)
          go_ret3
          exact ⟨rfl, hb⟩
        · have h5 : 33 < a := by omega
          clear h3
          go_enter Try.func60, Try.ntmps60
          go_wp2_with (go_at_call 78; refine HN.out.mono ?_; rintro e w1 ⟨rfl, hb⟩)
          go_ret3
          exact ⟨rfl, hb⟩
    · have e3 : cE f g a = nE f g := by
        unfold cE nE at *
        by_cases q : isF f = true
        · rw [if_pos q, if_pos q] at *
          by_cases q2 : g = 0 ∨ isG f g = true
          · rw [if_pos q2] at hn; exact absurd rfl hn
          · rw [if_neg q2, if_neg (fun h => q2 (.inr h))]
        · rw [if_neg q, if_neg q]
      rw [e3]
      have t0 : (nE f g != 0) = true := by simpa using hn
      clear hn hc e3 hg
      generalize nX f g = nx at *
      generalize nE f g = ne at *
      go_enter Try.func60, Try.ntmps60
      go_wp2_with (go_at_call 78; refine HN.out.mono ?_; rintro e w1 ⟨rfl, hb⟩)
      go_ret3
      exact ⟨rfl, hb⟩


theorem cXY_in (f g a : Int) : 0 ≤ cX f g a ∧ cX f g a ≤ 336 ∧ 0 ≤ cY f g a ∧ cY f g a ≤ 272 := by
  by_cases hc : cE f g a = 0
  · have h1 : isF f = true := by
      by_cases q : isF f = true
      · exact q
      · unfold cE at hc; rw [if_neg q] at hc; omega
    have h2 : isG f g = true := by
      by_cases q : isG f g = true
      · exact q
      · unfold cE at hc; rw [if_pos h1, if_neg q] at hc; omega
    have h3 : 1 ≤ a ∧ a ≤ 33 := by
      by_cases q : 1 ≤ a ∧ a ≤ 33
      · exact q
      · unfold cE at hc; rw [if_pos h1, if_pos h2, if_neg q] at hc; omega
    have hg : 1 ≤ g ∧ g ≤ 12 := by
      unfold isG at h2
      simp at h2
      rcases h2 with ⟨-, h⟩ | ⟨⟨-, h⟩, h'⟩ <;> omega
    unfold cX cY
    rw [if_pos hc, if_pos hc]
    omega
  · unfold cX cY
    rw [if_neg hc, if_neg hc]
    omega
theorem cE_F {f g a : Int} (hc : cE f g a = 0) : f = 0 ∨ f = 1 := by
  rcases f_cases f with h | h | ⟨h0, h1⟩
  · exact .inl h
  · exact .inr h
  · unfold cE at hc
    rw [if_neg (by simp [(none_ans h0 h1).2.2.2.2.2])] at hc
    omega
set_option maxRecDepth 100000 in
set_option maxHeartbeats 4000000 in
theorem rplace13_any (f g a b : Int) (W : World) (hg : -9223372036854775808 ≤ g ∧ g ≤ 9223372036854775807) (ha : -9223372036854775808 ≤ a ∧ a ≤ 9223372036854775807) : Calls Try.prog 45 #[.int .i64 f, .int .i64 g, .int .i64 a, .int .i64 b] W fun e W' => e = .returned (.tuple #[.int .i64 (pA f g a b), .int .i64 (pW f g a b), .int .i64 (pE f g a b)]) ∧ Below W.heap.size W W' := by
  have HC := Lib.hid (rcorner13_any f g a W hg ha)
  have HS := Lib.hid (fun W => rsize13_any f W)
  clear hg ha
  by_cases hc : cE f g a = 0
  · obtain ⟨x0, x1, y0, y1⟩ := cXY_in f g a
    have hf := cE_F hc
    rw [hc] at HC
    by_cases hb : 1 ≤ b ∧ b ≤ 6
    · have e0 : pE f g a b = 0 := by unfold pE; rw [if_pos hc, if_pos hb]
      have e1 : pA f g a b = atP (sW f) (sH f) (cX f g a) (cY f g a) b := by unfold pA; rw [if_pos e0]
      have e2 : pW f g a b = if b ≤ 4 then sW f else sW f / 2 := by unfold pW; rw [if_pos e0]
      rw [e0, e1, e2]
      clear e0 e1 e2 hc
      obtain ⟨x, hx⟩ : ∃ x : Nat, cX f g a = (x : Int) := ⟨(cX f g a).toNat, by omega⟩
      obtain ⟨y, hy⟩ : ∃ y : Nat, cY f g a = (y : Int) := ⟨(cY f g a).toNat, by omega⟩
      rw [hx] at x0 x1
      rw [hy] at y0 y1
      rw [hx, hy] at HC
      rw [hx, hy]
      clear hx hy
      unfold atP
      obtain ⟨i, rfl⟩ : ∃ i : Nat, b = (i : Int) + 1 := ⟨(b - 1).toNat, by omega⟩
      have hi : i ≤ 5 := by omega
      clear hb
      rcases hf with rfl | rfl
      · have HS2 : Hid (∀ W, Calls Try.prog 50 #[.int .i64 0] W fun e W' => e = .returned (.tuple #[.int .i64 176, .int .i64 144, .int .i64 38016, .int .i64 0]) ∧ W = W') := HS
        rw [show sW 0 = 176 from rfl, show sH 0 = 144 from rfl]
        clear HS
        have hcc : i = 0 ∨ i = 1 ∨ i = 2 ∨ i = 3 ∨ i = 4 ∨ i = 5 := by omega
        rcases hcc with rfl | rfl | rfl | rfl | rfl | rfl
        all_goals
          go_enter Try.func45, Try.ntmps45
          go_wp2_with (first | (go_at_call 60; refine HC.out.mono ?_; rintro e w1 ⟨rfl, hb⟩) | (go_at_call 50; refine (HS2.out _).mono ?_; rintro e w' ⟨rfl, rfl⟩))
          go_ret3
          refine ⟨tup3 ?_ ?_ rfl, hb⟩
          · simp
            try omega
          · simp
      · have HS2 : Hid (∀ W, Calls Try.prog 50 #[.int .i64 1] W fun e W' => e = .returned (.tuple #[.int .i64 352, .int .i64 288, .int .i64 152064, .int .i64 0]) ∧ W = W') := HS
        rw [show sW 1 = 352 from rfl, show sH 1 = 288 from rfl]
        clear HS
        have hcc : i = 0 ∨ i = 1 ∨ i = 2 ∨ i = 3 ∨ i = 4 ∨ i = 5 := by omega
        rcases hcc with rfl | rfl | rfl | rfl | rfl | rfl
        all_goals
          go_enter Try.func45, Try.ntmps45
          go_wp2_with (first | (go_at_call 60; refine HC.out.mono ?_; rintro e w1 ⟨rfl, hb⟩) | (go_at_call 50; refine (HS2.out _).mono ?_; rintro e w' ⟨rfl, rfl⟩))
          go_ret3
          refine ⟨tup3 ?_ ?_ rfl, hb⟩
          · simp
            try omega
          · simp
    · have e0 : pE f g a b = 3 := by unfold pE; rw [if_pos hc, if_neg hb]
      have e1 : pA f g a b = 0 := by unfold pA; rw [if_neg (by omega)]
      have e2 : pW f g a b = 0 := by unfold pW; rw [if_neg (by omega)]
      rw [e0, e1, e2]
      clear e0 e1 e2 hc
      generalize cX f g a = x at *
      generalize cY f g a = y at *
      generalize sW f = w at *
      generalize sH f = h at *
      generalize sN f = n at *
      generalize sE f = z at *
      by_cases hb1 : b < 1
      · clear hb
        go_enter Try.func45, Try.ntmps45
        go_wp2_with (first | (go_at_call 60; refine HC.out.mono ?_; rintro e w1 ⟨rfl, hb⟩) | (go_at_call 50; refine (HS.out _).mono ?_; rintro e w' ⟨rfl, rfl⟩))
        go_ret3
        exact ⟨rfl, hb⟩
      · have hb6 : 6 < b := by omega
        clear hb
        go_enter Try.func45, Try.ntmps45
        go_wp2_with (first | (go_at_call 60; refine HC.out.mono ?_; rintro e w1 ⟨rfl, hb⟩) | (go_at_call 50; refine (HS.out _).mono ?_; rintro e w' ⟨rfl, rfl⟩))
        go_ret3
        exact ⟨rfl, hb⟩
  · have e0 : pE f g a b = cE f g a := by unfold pE; rw [if_neg hc]
    have e1 : pA f g a b = 0 := by unfold pA; rw [if_neg (by omega)]
    have e2 : pW f g a b = 0 := by unfold pW; rw [if_neg (by omega)]
    rw [e0, e1, e2]
    have t0 : (cE f g a != 0) = true := by simpa using hc
    clear e0 e1 e2 hc
    generalize cX f g a = x at *
    generalize cY f g a = y at *
    generalize cE f g a = ce at *
    go_enter Try.func45, Try.ntmps45
    go_wp2_with (go_at_call 60; refine HC.out.mono ?_; rintro e w1 ⟨rfl, hb⟩)
    go_ret3
    exact ⟨rfl, hb⟩

end Go.Proofs.Ytenplmmongphoaa
