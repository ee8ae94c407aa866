/- cosine's samples and Inverse. -/
import Derived.Test.YtpmdeoiajnfabaaCTurn
import Derived.Test.YtpmdeoiajnfabaaCOne
namespace Go.Proofs.Ytpmdeoiajnfabaa
open Go.RowKit Go.Shelf
set_option linter.unusedVariables false

/-- the sums, so many of them rounded -/
def rndL (S : List Int) (k : Nat) : List Int := ofC 64 fun j => if j < k then rndC (nthC S j) else nthC S j
theorem rndL_length (S : List Int) (k : Nat) : (rndL S k).length = 64 := ofC_length _ _
theorem rndL_zero {S : List Int} (h : S.length = 64) : rndL S 0 = S := listC_ext (rndL_length _ _) h (fun j hj => by unfold rndL; rw [ofC_get hj, if_neg (by omega)])
theorem rndL_step (S : List Int) {k : Nat} (hk : k < 64) : (rndL S k).set k (rndC (nthC S k)) = rndL S (k + 1) := by
  unfold rndL
  rw [ofC_set hk]
  apply ofC_congr
  intro j hj
  by_cases h : j = k
  · rw [if_pos h, if_pos (by omega), h]
  · rw [if_neg h]
    by_cases h2 : j < k
    · rw [if_pos h2, if_pos (by omega)]
    · rw [if_neg h2, if_neg (by omega)]
theorem rndL_all (b : List Int) : rndL (ofC 64 (invS b)) 64 = invL b := by
  unfold rndL invL
  apply ofC_congr
  intro j hj
  rw [if_pos hj, ofC_get hj]

structure SmW (W0 : World) (G : Nat) (cur : List Int) (W : World) : Prop where
  below : Below W0.heap.size W0 W
  res : NumsAt W (W0.heap.size + 1) 42 zeros64
  blk : NumsAt W W0.heap.size 42 cur
  wts : NumsAt W G 46 wtL
  lo : W0.heap.size + 2 ≤ G
theorem SmW.bar {W0 W W' : World} {G : Nat} {cur cur' : List Int} (h : SmW W0 G cur W) (hb : Bar (fun k => k = W0.heap.size) W W') (hN : NumsAt W' W0.heap.size 42 cur') : SmW W0 G cur' W' := by
  have h1 := h.res.lt
  have h2 := h.wts.lt
  have h3 := h.lo
  exact ⟨h.below.trans (hb.below (by omega) (fun k hk e => by omega)), (hb.block _ h1 (by omega)).trans h.res, hN, (hb.block _ h2 (by omega)).trans h.wts, h3⟩
theorem SmW.set {W0 W : World} {G : Nat} {cur : List Int} (h : SmW W0 G cur W) (k : Nat) (x : Int) : SmW W0 G (cur.set k x) (W.setCell ⟨W0.heap.size, k, none⟩ (.int .i64 x)) :=
  ⟨h.below.setCell (p := ⟨W0.heap.size, k, none⟩) (by simp) _, h.res.other (by simp) _, h.blk.set k x, h.wts.other (by have := h.lo; simp; omega) _, h.lo⟩
/-- turn, where samples calls it -/
theorem SmW.rows {W0 W : World} {G : Nat} {B : List Int} {y : Nat} (h : SmW W0 G (mixC false B B y 0) W) (hy : y < 8) (hin : ∀ j, -1099511627776 ≤ nthC (mixC false B B y 0) j ∧ nthC (mixC false B B y 0) j ≤ 1099511627776) :
    Calls Try.prog 31 #[.pointer (some ⟨W0.heap.size, 0, none⟩), .pointer (some ⟨G, 0, none⟩), .int .i64 (8 * (y : Int)), .int .i64 1] W fun e w' => e = .returned (.tuple #[]) ∧ SmW W0 G (mixC false B B (y + 1) 0) w' := by
  have := turn_any h.blk (mix_length _ _ _ _ _) h.wts hin false hy
  rw [turn_mix false B hy, show ((plC false y 0 : Nat) : Int) = 8 * (y : Int) by simp [plC], show ((stpC false : Nat) : Int) = 1 from rfl] at this
  exact this.mono (fun e w' hh => ⟨hh.1, h.bar hh.2.2 hh.2.1⟩)
theorem SmW.cols {W0 W : World} {G : Nat} {B : List Int} {x : Nat} (h : SmW W0 G (mixC true B B x 0) W) (hx : x < 8) (hin : ∀ j, -1099511627776 ≤ nthC (mixC true B B x 0) j ∧ nthC (mixC true B B x 0) j ≤ 1099511627776) :
    Calls Try.prog 31 #[.pointer (some ⟨W0.heap.size, 0, none⟩), .pointer (some ⟨G, 0, none⟩), .int .i64 (x : Int), .int .i64 8] W fun e w' => e = .returned (.tuple #[]) ∧ SmW W0 G (mixC true B B (x + 1) 0) w' := by
  have := turn_any h.blk (mix_length _ _ _ _ _) h.wts hin true hx
  rw [turn_mix true B hx, show ((plC true x 0 : Nat) : Int) = (x : Int) by simp [plC], show ((stpC true : Nat) : Int) = 8 from rfl] at this
  exact this.mono (fun e w' hh => ⟨hh.1, h.bar hh.2.2 hh.2.1⟩)
theorem num11_index {b : List Int} (hb : b.length = 64) {k : Nat} (hk : k < 64) (W : World) : (Instr.index 42 (.agg (numsA b)) (.int .i64 k)).run Try.prog W = .ok (.int .i64 (nthC b k)) W :=
  run_indexC 64 _ num11_under _ k _ hk (numsA_get (by omega)) W
theorem zero64_size : (numsA zeros64).size = 64 := rfl

set_option maxRecDepth 100000 in
set_option maxHeartbeats 4000000 in
theorem samples_any (B : List Int) (hBl : B.length = 64) (hb : ∀ j, -2048 ≤ nthC B j ∧ nthC B j ≤ 2048) (W : World) :
    Calls Try.prog 26 #[.agg (numsA B)] W fun e w' => e = .returned (.agg (numsA (invL B))) ∧ Below W.heap.size W w' := by
  have HM := Lib.hid (makeWeights_any ((W.alloc (.cells (numsA B) 42)).alloc (.cells (numsA zeros64) 42)))
  have HMk : Hid (∀ d f j, -1099511627776 ≤ nthC (mixC d B B f 0) j ∧ nthC (mixC d B B f 0) j ≤ 1099511627776) := by
    show ∀ d f j, _
    intro d f j
    have := mix_in d (M := 2048) (by omega) hb f 0 j
    omega
  have HMk2 : Hid (∀ f j, -1099511627776 ≤ nthC (mixC true (linesC false B) (linesC false B) f 0) j ∧ nthC (mixC true (linesC false B) (linesC false B) f 0) j ≤ 1099511627776) := by
    show ∀ f j, _
    intro f j
    have := mix_in true (M := 8 * (2048 * 2048)) (by omega) (lines_in false (M := 2048) (by omega) hb) f 0 j
    omega
  have HIn : Hid (∀ k, k < 64 → -549755813888 ≤ invS B k ∧ invS B k ≤ 549755813888) := fun k hk => invP_in (n := 64) (by omega) hb hk
  have HBA := Lib.hid (show (numsA B).size = 64 by simp [hBl])
  clear hb
  go_enter Try.func26, Try.ntmps26
  go_wp2_with (first
    | (with_reducible refine wpList_boxZ rfl 42 _ rfl (numsA B) rfl ?_)
    | (with_reducible refine wpList_allocZ rfl 42 (numsA zeros64) rfl num11_zero ?_)
    | (go_at_call 28; refine HM.out.mono ?_; rintro e w1 ⟨rfl, b1⟩; have B1 := Lib.hid b1; clear b1)
    | (with_reducible refine wpList_allocZ rfl 46 (numsA zeros64) rfl wts_zero ?_)
    | (with_reducible refine stop_storeZ 46 _ _ rfl ?_; refine Hid.out ?_))
  refine Lib.hid ?_
  refine wpList_storeZ rfl 46 _ _ rfl w1.heap.size (numsA wtL) rfl rfl 46 (numsA zeros64) (World.alloc_heap_new _ _) 64 wtL_size wts_info zeroW_size (numsA_one _) ?_
  have hs1 := B1.out.size
  simp only [World.size_alloc] at hs1
  have hS : SmW W w1.heap.size B ((w1.alloc (.cells (numsA zeros64) 46)).setRow w1.heap.size (numsA wtL)) := by
    have hb0 : Below W.heap.size W ((W.alloc (.cells (numsA B) 42)).alloc (.cells (numsA zeros64) 42)) := ((Below.refl _ W).alloc (Nat.le_refl _) _).alloc (by simp) _
    have hb1 : Below W.heap.size W w1 := hb0.trans (B1.out.mono hb0.size)
    have n0 : NumsAt w1 W.heap.size 42 B := ((numsAt_new W 42 B).alloc _).below B1.out (by simp; omega)
    have n1 : NumsAt w1 (W.heap.size + 1) 42 zeros64 := by
      have := (numsAt_new (W.alloc (.cells (numsA B) 42)) 42 zeros64).below B1.out (by simp)
      rwa [World.size_alloc] at this
    exact ⟨below_setRowZ (hb1.alloc hb1.size _) hb1.size _, (n1.alloc _).setRow_other (by omega) _, (n0.alloc _).setRow_other (by omega) _, (numsAt_new w1 46 zeros64).setRow, by omega⟩
  have HS := Lib.hid hS
  clear hS
  generalize (w1.alloc (.cells (numsA zeros64) 46)).setRow w1.heap.size (numsA wtL) = w2 at *
  generalize w1.heap.size = G at *
  generalize hWA : numsA wtL = WA at *
  clear B1 HM hWA
  go_wp2_with fail
  go_loopw [9] (fun i wr => ∃ y : Nat, i = .int .i64 y ∧ y ≤ 8 ∧ SmW W G (mixC false B B y 0) wr) (fun i _ => 8 - (intOf i).toNat)
  case atStart => exact ⟨0, rfl, by omega, by rw [mix_zero false B hBl]; exact HS.out⟩
  case round =>
    obtain ⟨y, rfl, hy, hW⟩ := hrel
    by_cases hy2 : y < 8
    · have z1 : (y : Int) < 8 := by omega
      have HC := Lib.hid (hW.rows hy2 (HMk.out false y))
      clear hW
      go_wp2_with fail
      refine HC.out.mono ?_
      rintro e w3 ⟨rfl, hW3⟩
      have HW3 := Lib.hid hW3
      clear hW3
      go_wp2_with fail
      go_roundw
      case rel => exact ⟨y + 1, by go_num, by omega, HW3.out⟩
      case measure => simp [intOf]; omega
    · obtain rfl : y = 8 := by omega
      have HW := Lib.hid hW
      rw [mix_all] at HW
      clear hW
      have hBl1 := lines_length false B
      have HTwo := Lib.hid (lines_two B)
      generalize linesC false B = B1 at *
      go_wp2_with fail
      go_loopw [16] (fun i wr => ∃ x : Nat, i = .int .i64 x ∧ x ≤ 8 ∧ SmW W G (mixC true B1 B1 x 0) wr) (fun i _ => 8 - (intOf i).toNat)
      case atStart => exact ⟨0, rfl, by omega, by rw [mix_zero true B1 hBl1]; exact HW.out⟩
      case round =>
        obtain ⟨x, rfl, hx, hW⟩ := hrel
        by_cases hx2 : x < 8
        · have z1 : (x : Int) < 8 := by omega
          have HC := Lib.hid (hW.cols hx2 (HMk2.out x))
          clear hW
          go_wp2_with fail
          refine HC.out.mono ?_
          rintro e w3 ⟨rfl, hW3⟩
          have HW3 := Lib.hid hW3
          clear hW3
          go_wp2_with fail
          go_roundw
          case rel =>
            repeat apply Exists.intro
            exact ⟨⟨x + 1, by go_num, by omega, HW3.out⟩, rfl⟩
          case measure => simp [intOf]; omega
        · obtain rfl : x = 8 := by omega
          have HW2 := Lib.hid hW
          rw [mix_all, HTwo.out] at HW2
          clear hW
          have hSl := ofC_length 64 (invS B)
          have HRa := Lib.hid (rndL_all B)
          have HSn : Hid (∀ k, k < 64 → -549755813888 ≤ nthC (ofC 64 (invS B)) k ∧ nthC (ofC 64 (invS B)) k ≤ 549755813888) := by
            show ∀ k, _ → _
            intro k hk
            rw [ofC_get hk]
            exact HIn.out k hk
          generalize ofC 64 (invS B) = S at *
          have HSc := Lib.hid HW2.out.blk.cells
          have HSv := Lib.hid (show (intV S).length = 64 by simp [hSl])
          have HIx := Lib.hid (fun k hk W' => @num11_index S hSl k hk W')
          go_wp2_with (with_reducible refine wpList_loadZ rfl 42 _ rfl ⟨W.heap.size, 0, none⟩ rfl (intV S) HSc.out 64 3 num11_under 64 HSv.out num11_info ?_)
          go_loopw [23] (fun i wr => ∃ k : Nat, i = .int .i64 k ∧ k ≤ 64 ∧ SmW W G (rndL S k) wr) (fun i _ => 64 - (intOf i).toNat)
          case atStart => exact ⟨0, rfl, by omega, by rw [rndL_zero hSl]; exact HW2.out⟩
          case round =>
            obtain ⟨k, rfl, hk, hW⟩ := hrel
            have HW4 := Lib.hid hW
            clear hW
            by_cases hk2 : k < 64
            · have z1 : (k : Int) < 64 := by omega
              have ix := HIx.out k hk2
              obtain ⟨s1, s2⟩ := HSn.out k hk2
              have HRd := Lib.hid (fun W => rounded_any (nthC S k) s1 s2 W)
              have HSt := Lib.hid (rndL_step S hk2)
              have c1 := HW4.out.blk.cell (k := k) (by rw [rndL_length]; omega)
              have f1 := HW4.out.blk.frozen k
              go_wp2_with (go_at_call 32; refine (HRd.out _).mono ?_; rintro e w' ⟨rfl, rfl⟩)
              go_roundw
              case rel => exact ⟨k + 1, by go_num, by omega, by rw [← HSt.out]; exact HW4.out.set k _⟩
              case measure => simp [intOf]; omega
            · obtain rfl : k = 64 := by omega
              have HB4 := Lib.hid HW4.out.blk
              rw [HRa.out] at HB4
              have HRs := Lib.hid (show wr.heap[W.heap.size + 1]? = some (.cells (numsA zeros64) 42 (0, 0)) from HW4.out.res)
              have HLs := Lib.hid (show (intV (invL B)).length = 64 by simp [invL_length])
              have HLz := Lib.hid (show (numsA (invL B)).size = 64 by simp [invL_length])
              go_wp2_with (first
                | (with_reducible refine wpList_loadZ rfl 42 _ rfl ⟨W.heap.size, 0, none⟩ rfl (intV (invL B)) HB4.out.cells 64 3 num11_under 64 HLs.out num11_info ?_)
                | (with_reducible refine wpList_storeZ rfl 42 _ _ rfl (W.heap.size + 1) (numsA (invL B)) rfl rfl 42 (numsA zeros64) HRs.out 64 HLz.out num11_info zero64_size (numsA_one _) ?_))
              have hR5 : (wr.setRow (W.heap.size + 1) (numsA (invL B))).heap[W.heap.size + 1]? = some (.cells (numsA (invL B)) 42 (0, 0)) := setRow_heap wr _ _ _ _ _ HRs.out
              exact bodyPost_ret (v := .agg (numsA (invL B))) (results_cell_row rfl _ _ (W.heap.size + 1) 42 _ (0, 0) (.array 64 3) rfl hR5 num11_under rfl (by rw [HLz.out]; exact num11_info)) rfl ⟨rfl, below_setRowZ HW4.out.below (by omega) _⟩

theorem invR_size (l : List Int) : (invR l).2.length ≤ 64 := by
  unfold invR
  split <;> simp [invL_length]

set_option maxRecDepth 100000 in
set_option maxHeartbeats 2000000 in
theorem inv11_any {n₀ : Nat} {w : World} {av : Option Addr} {len cap : Nat} {xs : List Int} (hR : RowV n₀ w av len cap (intV xs)) (hn : n₀ ≤ w.heap.size) (hlen : len ≤ 1000000) :
    Calls Try.prog 12 #[.slice av len cap] w fun e w' => ∃ v, e = .returned (.tuple #[v, .int .i64 (invR xs).1]) ∧ OwnI w' w.heap.size v (invR xs).2 ∧ Below w.heap.size w w' := by
  have hl : xs.length = len := by have := hR.1; simpa using this
  have HC := Lib.hid (show Calls Try.prog 25 #[.slice av len cap, .int .i64 64, .int .i64 (-2048), .int .i64 2047] w _ from check11_any hR hn hlen 64 (-2048) 2047)
  rcases checkR_cases xs 64 (-2048) 2047 with h | h | ⟨h, h8, hall⟩
  · rw [invR_bad (by rw [h]; decide)]
    rw [h] at HC ⊢
    clear h hR
    go_enter Try.func12, Try.ntmps12
    go_wp2_with fail
    refine HC.out.mono ?_
    rintro e w1 ⟨rfl, rfl⟩
    go_wp2_with fail
    go_ret2
    exact ⟨_, rfl, ownI_nil _ _, Below.refl _ _⟩
  · rw [invR_bad (by rw [h]; decide)]
    rw [h] at HC ⊢
    clear h hR
    go_enter Try.func12, Try.ntmps12
    go_wp2_with fail
    refine HC.out.mono ?_
    rintro e w1 ⟨rfl, rfl⟩
    go_wp2_with fail
    go_ret2
    exact ⟨_, rfl, ownI_nil _ _, Below.refl _ _⟩
  · rw [invR_ok h]
    rw [h] at HC
    obtain rfl : len = 64 := by omega
    have HIn := Lib.hid (checkR_in (m := 64) hall (M := 2048) (by omega) (by omega) (by omega))
    obtain ⟨b, off, rfl, hb, hc⟩ := hR.cells (by omega)
    have HB := Lib.hid (fun w' (hb' : Below w.heap.size w w') j u (hu : (intV xs)[j]? = some u) => (hb'.cell (p := ⟨b, off + j, none⟩) (by simp; omega)).trans (hc j u hu))
    have HS := Lib.hid (samples_any xs h8 HIn.out w)
    have HAd := Lib.hid (RowV.addCells (n₀ := 0) (len := 64) (cap := 64) (HB.out _ (Below.refl _ w)))
    have HLn := Lib.hid (show (intV xs).length = 64 by simp [hl])
    have HLz := Lib.hid (show (numsA (invL xs)).size = 64 by simp [invL_length])
    have HLi := invL_length xs
    clear h hR hall hc HIn
    simp only
    go_enter Try.func12, Try.ntmps12
    go_wp2_with fail
    refine HC.out.mono ?_
    rintro e w1 ⟨rfl, rfl⟩
    go_wp2_with (first
      | (with_reducible refine wpList_arrZ rfl 42 _ rfl _ 64 _ 64 3 rfl num11_under (Nat.le_refl _) ?_)
      | (with_reducible refine wpList_loadZ rfl 42 _ rfl ⟨b, off, none⟩ rfl (intV xs) HAd.out 64 3 num11_under 64 HLn.out num11_info ?_))
    refine HS.out.mono ?_
    rintro e w4 ⟨rfl, b4⟩
    have B4 := Lib.hid b4
    have HZ4 := Lib.hid (World.alloc_heap_new w4 (.cells (numsA zeros64) 42))
    have HN5 := Lib.hid ((numsAt_new w4 42 zeros64).setRow (c := invL xs))
    have h5 := B4.out.size
    have HB5 := Lib.hid (below_setRowZ (B4.out.alloc h5 (.cells (numsA zeros64) 42)) h5 (numsA (invL xs)))
    clear b4
    go_wp2_with (first
      | (with_reducible refine wpList_allocZ rfl 42 (numsA zeros64) rfl num11_zero ?_)
      | (with_reducible refine wpList_storeZ rfl 42 _ _ rfl w4.heap.size (numsA (invL xs)) rfl rfl 42 (numsA zeros64) HZ4.out 64 HLz.out num11_info zero64_size (numsA_one _) ?_))
    go_ret2
    exact ⟨_, rfl, ⟨42, by rw [HLi]; exact HN5.out.ownC HLi (by omega) h5⟩, HB5.out⟩

end Go.Proofs.Ytpmdeoiajnfabaa
