/- motion: the reference's Fetch (praxinoscoperef14). -/
import Derived.Test.YthoklmhaljjjdaaMRef
namespace Go.Proofs.Ythoklmhaljjjdaa
open Go.RowKit Go.Shelf Go.Sort
set_option linter.unusedVariables false

set_option maxRecDepth 100000 in
set_option maxHeartbeats 4000000 in
theorem rfetch14_any {n₀ : Nat} {W : World} {sv : Value} {zs : List UInt8} (hB : Byt n₀ W sv zs) (hn₀ : n₀ ≤ W.heap.size) (f g a b x y : Int) (hg : -9223372036854775808 ≤ g ∧ g ≤ 9223372036854775807) (ha : -9223372036854775808 ≤ a ∧ a ≤ 9223372036854775807) :
    Calls Try.prog 13 #[sv, .agg #[.int .i64 f, .int .i64 g, .int .i64 a], .int .i64 b, .int .i64 x, .int .i64 y] W fun e W' => ∃ v, e = .returned (.tuple #[v, .int .i64 (mE f g a b x y zs.length)]) ∧ W'.ownsRow W.heap.size 5 1 v (mL f g a b x y zs).length (u8s (mL f g a b x y zs)) ∧ Below W.heap.size W W' := by
  obtain ⟨A, cap, rfl, hlen, hcell⟩ := hB
  obtain ⟨W1, hW1⟩ : ∃ W1, W.alloc (.cells #[.int .i64 f, .int .i64 g, .int .i64 a] 23 (0, 0)) = W1 := ⟨_, rfl⟩
  have hb1 : Below W.heap.size W W1 := by rw [← hW1]; exact (Below.refl _ W).alloc (Nat.le_refl _) _
  have B1 := Lib.hid hb1
  have hz1 : W1.heap.size = W.heap.size + 1 := by rw [← hW1]; simp
  have hbx : SpotAt W1 W.heap.size f g a := ⟨_, by rw [← hW1]; exact World.alloc_heap_new W _⟩
  obtain ⟨c0, c1, c2⟩ := hbx.cells
  have HBx := Lib.hid hbx
  have HC := Lib.hid (rcorner13_any f g a W1 hg ha)
  have HS := Lib.hid (rsize13_any f)
  have HP := Lib.hid (fun W => rplace13_any f g a b W hg ha)
  have HF := Lib.hid (fun W => rfits14_any f g a x y W hg ha)
  have none_of : ∀ z, z ≠ 0 → mE f g a b x y zs.length = z → mL f g a b x y zs = [] := fun z hz h => by unfold mL; rw [if_neg (by omega)]
  have NO := Lib.hid none_of
  clear hg ha hb1 hbx none_of
  by_cases hc : cE f g a = 0
  · rw [hc] at HC
    by_cases hl : (zs.length : Int) = sN f
    · have t1 : ((zs.length : Int) != sN f) = false := by simpa using hl
      by_cases hp : pE f g a b = 0
      · by_cases hf : fE f g a x y = 0
        · have hm : mE f g a b x y zs.length = 0 := by unfold mE; rw [if_pos hc, if_pos hl, if_pos hp, hf]
          obtain ⟨-, hx, hy, -⟩ := fE_zero hf
          have hx2 : -15 ≤ x ∧ x ≤ 15 := by unfold prt at hx; simpa using hx
          have hy2 : -15 ≤ y ∧ y ≤ 15 := by unfold prt at hy; simpa using hy
          have HHx := Lib.hid (rhalf14_any x (by omega) (by omega))
          have HHy := Lib.hid (rhalf14_any y (by omega) (by omega))
          obtain ⟨p0, p1, p2, p3, p4⟩ := pA_in hp
          have hL : mL f g a b x y zs = (List.range 64).map (fun k => zs[(mN f g a b x y k).toNat]?.getD 0) := by unfold mL; rw [if_pos hm]
          obtain ⟨G, hG⟩ : ∃ G : Nat → UInt8, G = fun k => zs[(mN f g a b x y k).toNat]?.getD 0 := ⟨_, rfl⟩
          have HG : Hid (∀ k, k < 64 → ∃ N : Nat, pA f g a b + (((k / 8 : Nat) : Int) + mX b y) * pW f g a b + ((k % 8 : Nat) : Int) + mX b x = (N : Int) ∧ N < zs.length ∧ G k = zs[N]?.getD 0) := fun k hk => by
            obtain ⟨h1, h2, -⟩ := mN_in hp hf hk
            refine ⟨(mN f g a b x y k).toNat, ?_, by omega, by rw [hG]⟩
            rw [Int.toNat_of_nonneg h1]
            rfl
          rw [hm, hL, ← hG]
          have HXX : mX b x = if 4 < b then hv x else x := rfl
          have HYY : mX b y = if 4 < b then hv y else y := rfl
          have hXb : -15 ≤ mX b x ∧ mX b x ≤ 15 := by rw [HXX]; unfold hv; split <;> (try split) <;> omega
          have hYb : -15 ≤ mX b y ∧ mX b y ≤ 15 := by rw [HYY]; unfold hv; split <;> (try split) <;> omega
          have hne : zs ≠ [] := by intro e; rw [e] at hl; simp at hl; omega
          rcases hcell with e | ⟨bb, off, rfl, hbb, hcell⟩
          · exact absurd e hne
          have HCell : Hid (∀ wy, Below W.heap.size W wy → ∀ N, N < zs.length → wy.cell? ⟨bb, off + N, none⟩ = some (.int .u8 ((zs[N]?.getD 0).toNat))) := fun wy hb N hN => (hb.cell (p := ⟨bb, off + N, none⟩) (show bb < W.heap.size by omega)).trans (hcell N hN)
          rw [hp] at HP
          rw [hf] at HF
          clear hcell hL hG hm hx hy hf hp hc NO hne
          generalize hlen' : zs.length = len at *
          generalize hP : pA f g a b = P at *
          generalize hq : pW f g a b = q at *
          generalize hX : mX b x = X at *
          generalize hY : mX b y = Y at *
          generalize cX f g a = xx at *
          generalize cY f g a = yy at *
          generalize sW f = sw at *
          generalize sH f = sh at *
          generalize sN f = sn at *
          generalize sE f = se at *
          have HLn := Lib.hid hlen'
          have hlen2 : (len : Int) ≤ 152064 := by omega
          clear hP hq hX hY hl hlen'
          by_cases h4 : 4 < b
          · rw [if_pos h4] at HXX HYY
            rw [← HXX] at HHx
            rw [← HYY] at HHy
            clear HXX HYY
            go_enter Try.func13, Try.ntmps13
            go_wp2_with fail
            refine HC.out.mono ?_
            rintro e W2 ⟨rfl, hb⟩
            have B2 := Lib.hid (below_chain B1.out (Nat.le_refl _) hb)
            have HBx := Lib.hid (HBx.out.later hb)
            obtain ⟨d0, d1, d2⟩ := HBx.out.cells
            clear hb c0 c1 c2
            go_wp2_with (go_at_call 35; refine (HS.out _).mono ?_; rintro e w' ⟨rfl, rfl⟩)
            refine (HP.out _).mono ?_
            rintro e W3 ⟨rfl, hb⟩
            have B3 := Lib.hid (below_chain B2.out (Nat.le_refl _) hb)
            have HBx := Lib.hid (HBx.out.later hb)
            obtain ⟨e0, e1, e2⟩ := HBx.out.cells
            clear hb d0 d1 d2
            go_wp2_with fail
            refine (HF.out _).mono ?_
            rintro e W4 ⟨rfl, hb⟩
            have B3 := Lib.hid (below_chain B3.out (Nat.le_refl _) hb)
            clear hb e0 e1 e2
            go_wp2_with fail
            refine (HHx.out _).mono ?_
            rintro e w' ⟨rfl, rfl⟩
            go_wp2_with fail
            refine (HHy.out _).mono ?_
            rintro e w' ⟨rfl, rfl⟩
            go_wp2_with fail
            go_loopw [23, 24] (fun v r wr => ∃ s : Nat, r = .int .i64 (s : Int) ∧ s ≤ 8 ∧ wr.ownsRow W.heap.size 5 1 v (8 * s) (u8s ((List.range (8 * s)).map G)) ∧ Below W.heap.size W wr) (fun _ r _ => 8 - (intOf r).toNat)
            case atStart => exact ⟨0, rfl, by omega, World.ownsRow_nil _ _ _ _, B3.out⟩
            case round =>
              obtain ⟨s, rfl, hs, ho, hb⟩ := hrel
              have HO := Lib.hid ho
              have HBw := Lib.hid hb
              clear ho hb
              by_cases hs2 : s < 8
              · have hs3 : (s : Int) < 8 := by omega
                go_wp2
                go_loopg [23, 25] 8 (fun gh v i wy => ∃ j : Nat, j + gh = 8 ∧ i = .int .i64 (j : Int) ∧ wy.ownsRow W.heap.size 5 1 v (8 * s + j) (u8s ((List.range (8 * s + j)).map G)) ∧ Below W.heap.size W wy)
                case atStart => exact ⟨0, by omega, rfl, HO.out, HBw.out⟩
                case round =>
                  obtain ⟨j, hjg, rfl, ho, hb⟩ := hrel
                  have HO := Lib.hid ho
                  have HBw := Lib.hid hb
                  clear ho hb
                  cases gk with
                  | zero =>
                    obtain rfl : j = 8 := by omega
                    rw [show 8 * s + 8 = 8 * (s + 1) by omega] at HO
                    go_wp2
                    exact ⟨⟨s + 1, by go_num, by omega, HO.out, HBw.out⟩, by simp [intOf]; omega⟩
                  | succ gh =>
                    have hj3 : (j : Int) < 8 := by omega
                    have HE := Lib.hid (show j + 1 + gh = 8 by omega)
                    obtain ⟨N, hN1, hN2, hN3⟩ := HG.out (8 * s + j) (by omega)
                    rw [show (8 * s + j) / 8 = s by omega, show (8 * s + j) % 8 = j by omega] at hN1
                    have hT1 : -1000000 ≤ ((s : Int) + Y) * q := by omega
                    have hT2 : ((s : Int) + Y) * q ≤ 1000000 := by omega
                    have cN := HCell.out wr HBw.out N hN2
                    rw [← hN3] at cN
                    have hNl : (N : Int) < (len : Int) := by omega
                    have hGs : (List.range (8 * s + (j + 1))).map G = (List.range (8 * s + j)).map G ++ [G (8 * s + j)] := by
                      rw [show 8 * s + (j + 1) = (8 * s + j) + 1 by omega, List.range_succ, List.map_append]; rfl
                    have HGs := Lib.hid hGs
                    have hz := HBw.out.size
                    obtain ⟨i0, hi0, hz0, hz1, hz2⟩ := info_parts Try.info5
                    clear hN2 hN3 hGs hjg
                    generalize G (8 * s + j) = gz at *
                    go_wp2_with (at_builtin; refine wpList_append_v rfl (.tmp 88) (.tmp 103) 24 5 i0 (.int .u8 0) 1 rfl Try.underlying24 hi0 hz0 hz1 hz2 rfl W.heap.size u23 (8 * s + j) _ rfl (HO.out.alloc _) (some ⟨wr.heap.size, 0, none⟩) 1 1 [.int .u8 gz.toNat] rfl (src_at (heap_new _ rfl _)) (fun e => nomatch e) (by simp [Value.oneCell']) (by omega) (by omega) (by simp; omega) ?_; intro v1 w5 hap; refine Hid.out ?_)
                    obtain ⟨a1, a2, a3⟩ := hap
                    have bar1 := ((Bar.refl (fun k => u23.ownBlock = some k) wr).alloc (.cells #[.int .u8 gz.toNat] 5 (0, 0))).trans (bar_of_grown (S := fun k => u23.ownBlock = some k) a2 (fun j e => e)) (fun j _ e => e)
                    have hb5 : Below W.heap.size W w5 := HBw.out.trans (bar1.below hz (fun k hk e => by have := (HO.out.lt k e).1; omega))
                    have HB5 := Lib.hid hb5
                    have HO5 : Hid (w5.ownsRow W.heap.size 5 1 v1 (8 * s + (j + 1)) (u8s ((List.range (8 * s + (j + 1))).map G))) := by
                      have e1 : u8s ((List.range (8 * s + (j + 1))).map G) = u8s ((List.range (8 * s + j)).map G) ++ [.int .u8 gz.toNat] := by rw [HGs.out]; simp [u8s]
                      rw [e1]
                      exact a1
                    clear a1 a2 a3 bar1 hb5 hT1 hT2 cN hN1 hNl
                    refine Lib.hid ?_
                    go_wp2
                    go_roundg gh
                    case measure => omega
                    case rel => exact ⟨j + 1, HE.out, by go_num, HO5.out, HB5.out⟩
              · obtain rfl : s = 8 := by omega
                go_wp2
                go_ret2
                exact ⟨_, rfl, by simpa using HO.out, HBw.out⟩
          · rw [if_neg h4] at HXX HYY
            subst HXX HYY
            go_enter Try.func13, Try.ntmps13
            go_wp2_with fail
            refine HC.out.mono ?_
            rintro e W2 ⟨rfl, hb⟩
            have B2 := Lib.hid (below_chain B1.out (Nat.le_refl _) hb)
            have HBx := Lib.hid (HBx.out.later hb)
            obtain ⟨d0, d1, d2⟩ := HBx.out.cells
            clear hb c0 c1 c2
            go_wp2_with (go_at_call 35; refine (HS.out _).mono ?_; rintro e w' ⟨rfl, rfl⟩)
            refine (HP.out _).mono ?_
            rintro e W3 ⟨rfl, hb⟩
            have B3 := Lib.hid (below_chain B2.out (Nat.le_refl _) hb)
            have HBx := Lib.hid (HBx.out.later hb)
            obtain ⟨e0, e1, e2⟩ := HBx.out.cells
            clear hb d0 d1 d2
            go_wp2_with fail
            refine (HF.out _).mono ?_
            rintro e W4 ⟨rfl, hb⟩
            have B3 := Lib.hid (below_chain B3.out (Nat.le_refl _) hb)
            clear hb e0 e1 e2
            go_wp2_with fail
            go_loopw [23, 24] (fun v r wr => ∃ s : Nat, r = .int .i64 (s : Int) ∧ s ≤ 8 ∧ wr.ownsRow W.heap.size 5 1 v (8 * s) (u8s ((List.range (8 * s)).map G)) ∧ Below W.heap.size W wr) (fun _ r _ => 8 - (intOf r).toNat)
            case atStart => exact ⟨0, rfl, by omega, World.ownsRow_nil _ _ _ _, B3.out⟩
            case round =>
              obtain ⟨s, rfl, hs, ho, hb⟩ := hrel
              have HO := Lib.hid ho
              have HBw := Lib.hid hb
              clear ho hb
              by_cases hs2 : s < 8
              · have hs3 : (s : Int) < 8 := by omega
                go_wp2
                go_loopg [23, 25] 8 (fun gh v i wy => ∃ j : Nat, j + gh = 8 ∧ i = .int .i64 (j : Int) ∧ wy.ownsRow W.heap.size 5 1 v (8 * s + j) (u8s ((List.range (8 * s + j)).map G)) ∧ Below W.heap.size W wy)
                case atStart => exact ⟨0, by omega, rfl, HO.out, HBw.out⟩
                case round =>
                  obtain ⟨j, hjg, rfl, ho, hb⟩ := hrel
                  have HO := Lib.hid ho
                  have HBw := Lib.hid hb
                  clear ho hb
                  cases gk with
                  | zero =>
                    obtain rfl : j = 8 := by omega
                    rw [show 8 * s + 8 = 8 * (s + 1) by omega] at HO
                    go_wp2
                    exact ⟨⟨s + 1, by go_num, by omega, HO.out, HBw.out⟩, by simp [intOf]; omega⟩
                  | succ gh =>
                    have hj3 : (j : Int) < 8 := by omega
                    have HE := Lib.hid (show j + 1 + gh = 8 by omega)
                    obtain ⟨N, hN1, hN2, hN3⟩ := HG.out (8 * s + j) (by omega)
                    rw [show (8 * s + j) / 8 = s by omega, show (8 * s + j) % 8 = j by omega] at hN1
                    have hT1 : -1000000 ≤ ((s : Int) + Y) * q := by omega
                    have hT2 : ((s : Int) + Y) * q ≤ 1000000 := by omega
                    have cN := HCell.out wr HBw.out N hN2
                    rw [← hN3] at cN
                    have hNl : (N : Int) < (len : Int) := by omega
                    have hGs : (List.range (8 * s + (j + 1))).map G = (List.range (8 * s + j)).map G ++ [G (8 * s + j)] := by
                      rw [show 8 * s + (j + 1) = (8 * s + j) + 1 by omega, List.range_succ, List.map_append]; rfl
                    have HGs := Lib.hid hGs
                    have hz := HBw.out.size
                    obtain ⟨i0, hi0, hz0, hz1, hz2⟩ := info_parts Try.info5
                    clear hN2 hN3 hGs hjg
                    generalize G (8 * s + j) = gz at *
                    go_wp2_with (at_builtin; refine wpList_append_v rfl (.tmp 88) (.tmp 103) 24 5 i0 (.int .u8 0) 1 rfl Try.underlying24 hi0 hz0 hz1 hz2 rfl W.heap.size u23 (8 * s + j) _ rfl (HO.out.alloc _) (some ⟨wr.heap.size, 0, none⟩) 1 1 [.int .u8 gz.toNat] rfl (src_at (heap_new _ rfl _)) (fun e => nomatch e) (by simp [Value.oneCell']) (by omega) (by omega) (by simp; omega) ?_; intro v1 w5 hap; refine Hid.out ?_)
                    obtain ⟨a1, a2, a3⟩ := hap
                    have bar1 := ((Bar.refl (fun k => u23.ownBlock = some k) wr).alloc (.cells #[.int .u8 gz.toNat] 5 (0, 0))).trans (bar_of_grown (S := fun k => u23.ownBlock = some k) a2 (fun j e => e)) (fun j _ e => e)
                    have hb5 : Below W.heap.size W w5 := HBw.out.trans (bar1.below hz (fun k hk e => by have := (HO.out.lt k e).1; omega))
                    have HB5 := Lib.hid hb5
                    have HO5 : Hid (w5.ownsRow W.heap.size 5 1 v1 (8 * s + (j + 1)) (u8s ((List.range (8 * s + (j + 1))).map G))) := by
                      have e1 : u8s ((List.range (8 * s + (j + 1))).map G) = u8s ((List.range (8 * s + j)).map G) ++ [.int .u8 gz.toNat] := by rw [HGs.out]; simp [u8s]
                      rw [e1]
                      exact a1
                    clear a1 a2 a3 bar1 hb5 hT1 hT2 cN hN1 hNl
                    refine Lib.hid ?_
                    go_wp2
                    go_roundg gh
                    case measure => omega
                    case rel => exact ⟨j + 1, HE.out, by go_num, HO5.out, HB5.out⟩
              · obtain rfl : s = 8 := by omega
                go_wp2
                go_ret2
                exact ⟨_, rfl, by simpa using HO.out, HBw.out⟩
        · have hm : mE f g a b x y zs.length = fE f g a x y := by unfold mE; rw [if_pos hc, if_pos hl, if_pos hp]
          rw [hm, NO.out _ hf hm]
          have t2 : (fE f g a x y != 0) = true := by simpa using hf
          rw [hp] at HP
          clear hm hf hp NO hc hcell
          generalize fE f g a x y = fe at *
          generalize pA f g a b = P at *
          generalize pW f g a b = q at *
          generalize cX f g a = xx at *
          generalize cY f g a = yy at *
          generalize sW f = sw at *
          generalize sH f = sh at *
          generalize sN f = sn at *
          generalize sE f = se at *
          go_enter Try.func13, Try.ntmps13
          go_wp2_with fail
          refine HC.out.mono ?_
          rintro e W2 ⟨rfl, hb⟩
          have B2 := Lib.hid (below_chain B1.out (Nat.le_refl _) hb)
          have HBx := Lib.hid (HBx.out.later hb)
          obtain ⟨d0, d1, d2⟩ := HBx.out.cells
          clear hb c0 c1 c2
          go_wp2_with (go_at_call 35; refine (HS.out _).mono ?_; rintro e w' ⟨rfl, rfl⟩)
          refine (HP.out _).mono ?_
          rintro e W3 ⟨rfl, hb⟩
          have B3 := Lib.hid (below_chain B2.out (Nat.le_refl _) hb)
          have HBx := Lib.hid (HBx.out.later hb)
          obtain ⟨e0, e1, e2⟩ := HBx.out.cells
          clear hb d0 d1 d2
          go_wp2_with fail
          refine (HF.out _).mono ?_
          rintro e W4 ⟨rfl, hb⟩
          have B3 := Lib.hid (below_chain B3.out (Nat.le_refl _) hb)
          clear hb e0 e1 e2
          go_wp2
          go_ret2
          exact ⟨_, rfl, World.ownsRow_nil _ _ _ _, B3.out⟩
      · have hm : mE f g a b x y zs.length = pE f g a b := by unfold mE; rw [if_pos hc, if_pos hl, if_neg hp]
        rw [hm, NO.out _ hp hm]
        have t2 : (pE f g a b != 0) = true := by simpa using hp
        clear hm hp NO hc hcell
        generalize pE f g a b = pe at *
        generalize pA f g a b = P at *
        generalize pW f g a b = q at *
        generalize cX f g a = xx at *
        generalize cY f g a = yy at *
        generalize sW f = sw at *
        generalize sH f = sh at *
        generalize sN f = sn at *
        generalize sE f = se at *
        go_enter Try.func13, Try.ntmps13
        go_wp2_with fail
        refine HC.out.mono ?_
        rintro e W2 ⟨rfl, hb⟩
        have B2 := Lib.hid (below_chain B1.out (Nat.le_refl _) hb)
        have HBx := Lib.hid (HBx.out.later hb)
        obtain ⟨d0, d1, d2⟩ := HBx.out.cells
        clear hb c0 c1 c2
        go_wp2_with (go_at_call 35; refine (HS.out _).mono ?_; rintro e w' ⟨rfl, rfl⟩)
        refine (HP.out _).mono ?_
        rintro e W3 ⟨rfl, hb⟩
        have B3 := Lib.hid (below_chain B2.out (Nat.le_refl _) hb)
        have HBx := Lib.hid (HBx.out.later hb)
        obtain ⟨e0, e1, e2⟩ := HBx.out.cells
        clear hb d0 d1 d2
        go_wp2
        go_ret2
        exact ⟨_, rfl, World.ownsRow_nil _ _ _ _, B3.out⟩
    · have hm : mE f g a b x y zs.length = 2 := by unfold mE; rw [if_pos hc, if_neg hl]
      rw [hm, NO.out _ (by decide) hm]
      have t1 : ((zs.length : Int) != sN f) = true := by simpa using hl
      clear hm hl NO hc hcell
      generalize cX f g a = xx at *
      generalize cY f g a = yy at *
      generalize sW f = sw at *
      generalize sH f = sh at *
      generalize sN f = sn at *
      generalize sE f = se at *
      go_enter Try.func13, Try.ntmps13
      go_wp2_with fail
      refine HC.out.mono ?_
      rintro e W2 ⟨rfl, hb⟩
      have B2 := Lib.hid (below_chain B1.out (Nat.le_refl _) hb)
      have HBx := Lib.hid (HBx.out.later hb)
      obtain ⟨d0, d1, d2⟩ := HBx.out.cells
      clear hb c0 c1 c2
      go_wp2_with (go_at_call 35; refine (HS.out _).mono ?_; rintro e w' ⟨rfl, rfl⟩)
      go_ret2
      exact ⟨_, rfl, World.ownsRow_nil _ _ _ _, B2.out⟩
  · have hm : mE f g a b x y zs.length = cE f g a := by unfold mE; rw [if_neg hc]
    rw [hm, NO.out _ hc hm]
    have t1 : (cE f g a != 0) = true := by simpa using hc
    clear hm hc NO hcell
    generalize cE f g a = ce at *
    generalize cX f g a = xx at *
    generalize cY f g a = yy at *
    generalize sW f = sw at *
    generalize sH f = sh at *
    generalize sN f = sn at *
    generalize sE f = se at *
    go_enter Try.func13, Try.ntmps13
    go_wp2_with fail
    refine HC.out.mono ?_
    rintro e W2 ⟨rfl, hb⟩
    have B2 := Lib.hid (below_chain B1.out (Nat.le_refl _) hb)
    have HBx := Lib.hid (HBx.out.later hb)
    obtain ⟨d0, d1, d2⟩ := HBx.out.cells
    clear hb c0 c1 c2
    go_wp2
    go_ret2
    exact ⟨_, rfl, World.ownsRow_nil _ _ _ _, B2.out⟩

end Go.Proofs.Ythoklmhaljjjdaa
