/- scan.spread and scan.Spread: the block of pairs. -/
import Derived.Test.YtjfekhjfdapilaaZTab
namespace Go.Proofs.Ytjfekhjfdapilaa
open Go.RowKit Go.Shelf
set_option linter.unusedVariables false

theorem built_nums : Try.prog.built 50 [] = some (numsA zeros64) := by kernel_rfl
theorem zerosN_size : (numsA zeros64).size = 64 := rfl
section
variable {P : Program} {ops : Array Oper} {rest : List Oper} {o : Oper} {a : Act} {w : World} {Q : Exit → Act → World → Prop}
theorem wpList_buildZ (hg : o.guard = none) (t : TypeId) (ho : o.op = .build t #[]) (cells : Array Value) (hb : P.built t [] = some cells)
    (h : wpList P ops Q rest (a.put o.dst (.agg cells)) w) : wpList P ops Q (o :: rest) a w := by
  refine wpList_build hg t #[] ho ?_ ?_
  · simp [hb]
  · simpa [hb] using h
theorem results_cell_tmp {fn : Func} {p q : Tmp} {ty : TypeId} (h : fn.results = #[.cell p ty, .tmp q]) (tmps : Array Value) (w : World) (g : Nat) (t : TypeId) (cs : Array Value) (fr : Nat × Nat) (d : TypeDesc)
    (hp : tmps.getD p undef = .pointer (some ⟨g, 0, none⟩)) (v : Value) (hq : tmps.getD q undef = v) (hg : w.heap[g]? = some (.cells cs t fr))
    (hu : P.underlying ty = some d) (hd : (match d with | .struct _ | .array _ _ => true | _ => false) = true) (hi : (P.info? ty).map (·.size) = some cs.size) :
    (results fn tmps).run P w = .ok (.tuple #[.agg cs, v]) w := by
  have hq' : tmps[q]?.getD undef = v := by simpa using hq
  have hp' : tmps[p]?.getD undef = .pointer (some ⟨g, 0, none⟩) := by simpa using hp
  simp [results, h, hp', hq', asAddr, run_loadVar_row w g t ty cs fr d hg hu hd hi]
end

/-- what spread answers: the block, noughts where there is none -/
def sprB (R : Int × List Int) : List Int := if R.1 = 0 then R.2 else zeros64
theorem spr_step {r l : Int} {rest : List (Int × Int)} {a : Nat} {b : List Int} (h1 : okLv l = true) (h2 : 0 ≤ r) (h3 : (a : Int) + r < 64) : spr ((r, l) :: rest) a b = spr rest (a + r.toNat + 1) (b.set (ordAt (a + r.toNat)) l) := by
  conv => lhs; unfold spr
  rw [if_neg (by simp [h1]), if_neg (by omega)]
theorem spr_lv {r l : Int} {rest : List (Int × Int)} {a : Nat} {b : List Int} (h1 : okLv l = false) : spr ((r, l) :: rest) a b = (10, []) := by
  unfold spr
  rw [if_pos h1]
theorem spr_run {r l : Int} {rest : List (Int × Int)} {a : Nat} {b : List Int} (h1 : okLv l = true) (h2 : r < 0 ∨ 64 - (a : Int) ≤ r) : spr ((r, l) :: rest) a b = (11, []) := by
  unfold spr
  rw [if_neg (by simp [h1]), if_pos h2]

/-- between two rounds of spread -/
structure SprW (w : World) (G : Nat) (blk : List Int) (W : World) : Prop where
  below : Below w.heap.size w W
  res : NumsAt W w.heap.size 50 zeros64
  blk : NumsAt W (w.heap.size + 1) 50 blk
  tab : NumsAt W G 49 orderI
  lo : w.heap.size + 2 ≤ G
theorem SprW.alloc {w W : World} {G : Nat} {blk : List Int} (h : SprW w G blk W) (o : Obj) : SprW w G blk (W.alloc o) := ⟨h.below.alloc h.below.size o, h.res.alloc o, h.blk.alloc o, h.tab.alloc o, h.lo⟩
theorem SprW.drew {w W : World} {G : Nat} {blk : List Int} (h : SprW w G blk W) : SprW w G blk W.drew := ⟨h.below.drew, h.res, h.blk, h.tab, h.lo⟩
theorem SprW.set {w W : World} {G : Nat} {blk : List Int} (h : SprW w G blk W) (k : Nat) (x : Int) : SprW w G (blk.set k x) (W.setCell ⟨w.heap.size + 1, k, none⟩ (.int .i64 x)) :=
  ⟨h.below.setCell (p := ⟨w.heap.size + 1, k, none⟩) (by simp) _, h.res.other (by simp) _, h.blk.set k x, h.tab.other (by have := h.lo; simp; omega) _, h.lo⟩
theorem SprW.pair {w W : World} {G p i : Nat} {blk : List Int} (h : SprW w G blk W) (hp : G < p) (v : Value) : SprW w G blk (W.setCell ⟨p, i, none⟩ v) := by
  have := h.lo
  exact ⟨h.below.setCell (p := ⟨p, i, none⟩) (by simp; omega) _, h.res.other (by simp; omega) _, h.blk.other (by simp; omega) _, h.tab.other (by simp; omega) _, h.lo⟩

set_option maxRecDepth 100000 in
set_option maxHeartbeats 4000000 in
theorem zspread_any {n₀ : Nat} {w : World} {av : Option Addr} {len cap : Nat} {ps : List (Int × Int)} (hR : RowP n₀ w av len cap ps) (hn : n₀ ≤ w.heap.size) (hlen : len ≤ 1000000) (first : Nat) (hf : first ≤ 1) :
    Calls Try.prog 26 #[.slice av len cap, .int .i64 first] w fun e w' => e = .returned (.tuple #[.agg (numsA (sprB (spr ps first zeros64))), .int .i64 (spr ps first zeros64).1]) ∧ Below w.heap.size w w' := by
  have hl := hR.1
  have HR := Lib.hid hR
  have HP := Lib.hid (fun W => places_any W)
  have HL := Lib.hid (fun x W => isLevel_any x W)
  obtain ⟨R, hRes⟩ : ∃ R, spr ps first zeros64 = R := ⟨_, rfl⟩
  rw [hRes]
  have HRes := Lib.hid hRes
  clear hR hRes
  go_enter Try.func26, Try.ntmps26
  go_wp2_with (first
    | (with_reducible refine wpList_allocZ rfl 50 (numsA zeros64) rfl nums_zero ?_)
    | (with_reducible refine wpList_allocZ rfl 49 (numsA zeros64) rfl a64_zero ?_)
    | (with_reducible refine stop_storeZ 49 _ _ rfl ?_; refine Hid.out ?_)
    | (go_at_call 28; refine (HP.out _).mono ?_; rintro e w1 ⟨rfl, hb1⟩; have HB1 := Lib.hid hb1; clear hb1))
  refine Lib.hid ?_
  refine wpList_storeZ rfl 49 _ _ rfl w1.heap.size (numsA orderI) rfl rfl 49 (numsA zeros64) (World.alloc_heap_new _ _) 64 orderA_size a64_info zerosA_size (numsA_one _) ?_
  rw [World.setRow_alloc_new]
  have hb0 : Below w.heap.size w ((w.alloc (.cells (numsA zeros64) 50)).alloc (.cells (numsA zeros64) 50)) := ((Below.refl _ w).alloc (Nat.le_refl _) _).alloc (by simp) _
  have hs1 := HB1.out.size
  simp only [World.size_alloc] at hs1
  have hS : SprW w w1.heap.size zeros64 (w1.alloc (.cells (numsA orderI) 49)) := by
    have e0 : NumsAt w1 w.heap.size 50 zeros64 := ((numsAt_new w 50 zeros64).alloc _).below HB1.out (by simp; omega)
    have e1 : NumsAt w1 (w.heap.size + 1) 50 zeros64 := by
      have := (numsAt_new (w.alloc (.cells (numsA zeros64) 50)) 50 zeros64).below HB1.out (by simp)
      rw [World.size_alloc] at this
      exact this
    exact ⟨(hb0.trans (HB1.out.mono hb0.size)).alloc (by omega) _, e0.alloc _, e1.alloc _, numsAt_new _ _ _, by omega⟩
  have HS := Lib.hid hS
  have hG : w1.heap.size < (w1.alloc (.cells (numsA orderI) 49)).heap.size := by simp
  clear hb0 hS HB1
  generalize w1.alloc (.cells (numsA orderI) 49) = w2 at *
  generalize w1.heap.size = G at *
  generalize hzA : numsA orderI = TA at *
  have HzA := Lib.hid hzA
  clear hzA
  go_wp2_with fail
  go_loopw [8, 15] (fun nx k wr => ∃ (j na : Nat) (blk : List Int), k = .int .i64 j ∧ j ≤ len ∧ nx = .int .i64 na ∧ na ≤ 64 ∧ blk.length = 64 ∧ spr (ps.drop j) na blk = R ∧ SprW w G blk wr) (fun _ k _ => len - (intOf k).toNat)
  case atStart => exact ⟨0, first, zeros64, rfl, by omega, rfl, by omega, rfl, HRes.out, HS.out⟩
  case round =>
    obtain ⟨j, na, blk, rfl, hj, rfl, hna, hbl, hsp, hS2⟩ := hrel
    have HS2 := Lib.hid hS2
    have HSp := Lib.hid hsp
    clear hsp hS2
    by_cases hj2 : j < len
    · have hjp : j < ps.length := by omega
      have hd : ps.drop j = ps[j] :: ps.drop (j + 1) := List.drop_eq_getElem_cons hjp
      rw [hd] at HSp
      have hpj : ps[j]? = some ps[j] := List.getElem?_eq_getElem hjp
      rcases HR.out.2.2.2 with h0 | ⟨b, off, rfl, hb, hc⟩
      · have := HR.out.2.1
        omega
      have hb2 : b < w.heap.size := by have := hb (by omega); omega
      obtain ⟨x1, x2⟩ := hc.below HS2.out.below hb2 j _ hpj
      clear hd hpj hc
      generalize ps[j] = p at *
      obtain ⟨r, l⟩ := p
      simp only at x1 x2
      have q1 : (j : Int) < (len : Int) := by omega
      have q2 : (0 : Int) ≤ (j : Int) := by omega
      have hsz := HS2.out.below.size
      have hGw := HS2.out.tab.lt
      have HSA := Lib.hid (HS2.out.alloc (.cells #[.int .i64 r, .int .i64 l] 39 (0, 0)))
      obtain ⟨y0, y1⟩ := two_cells wr (.int .i64 r) (.int .i64 l) 39
      cases hok : okLv l with
      | false =>
        have hR0 := spr_lv (rest := ps.drop (j + 1)) (a := na) (b := blk) (r := r) hok
        have HR0 : Hid (R = (10, [])) := by show R = _; rw [← HSp.out, hR0]
        have HLl := Lib.hid (fun W => HL.out l W)
        rw [hok] at HLl
        clear hR0 hok
        go_wp2_with (first
          | (go_at_call 31; refine (HLl.out _).mono ?_; rintro e w' ⟨rfl, rfl⟩)
          | (with_reducible refine wpList_buildZ rfl 50 rfl (numsA zeros64) built_nums ?_)
          | (with_reducible refine stop_storeZ 50 _ _ rfl ?_; refine Hid.out ?_))
        have HZ := Lib.hid (show (wr.alloc (.cells #[.int .i64 r, .int .i64 l] 39 (0, 0))).heap[w.heap.size]? = some (.cells (numsA zeros64) 50 (0, 0)) from HSA.out.res)
        have HSB := Lib.hid HSA.out.below
        refine Lib.hid ?_
        clear y0 y1 x1 x2
        generalize wr.alloc (.cells #[.int .i64 r, .int .i64 l] 39 (0, 0)) = w5 at *
        go_wp2_with (with_reducible refine wpList_storeZ rfl 50 _ _ rfl w.heap.size (numsA zeros64) rfl rfl 50 (numsA zeros64) HZ.out 64 zerosN_size nums_info zerosN_size (numsA_one _) ?_)
        have hR6 : (w5.setRow w.heap.size (numsA zeros64)).heap[w.heap.size]? = some (.cells (numsA zeros64) 50 (0, 0)) := setRow_heap w5 w.heap.size _ _ _ _ HZ.out
        exact bodyPost_ret (v := .tuple #[.agg (numsA zeros64), .int .i64 10]) (results_cell_tmp (fn := Try.f26) (p := 4) (q := 5) (ty := 50) rfl _ _ w.heap.size 50 (numsA zeros64) (0, 0) (.array 64 3) rfl _ rfl hR6 nums_under rfl nums_info) rfl ⟨by rw [HR0.out]; rfl, below_setRowZ HSB.out (Nat.le_refl _) _⟩
      | true =>
        have HLl := Lib.hid (fun W => HL.out l W)
        rw [hok] at HLl
        by_cases hin : r < 0 ∨ 64 - (na : Int) ≤ r
        · have hR0 := spr_run (rest := ps.drop (j + 1)) (a := na) (b := blk) (r := r) hok hin
          have HR0 : Hid (R = (11, [])) := by show R = _; rw [← HSp.out, hR0]
          clear hR0 hok
          have fin : ∀ w5 : World, w5 = wr.alloc (.cells #[.int .i64 r, .int .i64 l] 39 (0, 0)) → w5.heap[w.heap.size]? = some (.cells (numsA zeros64) 50 (0, 0)) ∧ Below w.heap.size w w5 := fun w5 e => by subst e; exact ⟨HSA.out.res, HSA.out.below⟩
          have FIN := Lib.hid fin
          clear fin
          by_cases h0 : r < 0
          · clear hin
            go_wp2_with (first
              | (go_at_call 31; refine (HLl.out _).mono ?_; rintro e w' ⟨rfl, rfl⟩)
              | (with_reducible refine wpList_buildZ rfl 50 rfl (numsA zeros64) built_nums ?_)
              | (with_reducible refine wpList_storeZ rfl 50 _ _ rfl w.heap.size (numsA zeros64) rfl rfl 50 (numsA zeros64) (FIN.out _ rfl).1 64 zerosN_size nums_info zerosN_size (numsA_one _) ?_))
            obtain ⟨f1, f2⟩ := FIN.out _ rfl
            have hR6 := setRow_heap _ w.heap.size _ (numsA zeros64) _ _ f1
            exact bodyPost_ret (v := .tuple #[.agg (numsA zeros64), .int .i64 11]) (results_cell_tmp (fn := Try.f26) (p := 4) (q := 5) (ty := 50) rfl _ _ w.heap.size 50 (numsA zeros64) (0, 0) (.array 64 3) rfl _ rfl hR6 nums_under rfl nums_info) rfl ⟨by rw [HR0.out]; rfl, below_setRowZ f2 (Nat.le_refl _) _⟩
          · have h1 : 64 - (na : Int) ≤ r := by omega
            clear hin
            go_wp2_with (first
              | (go_at_call 31; refine (HLl.out _).mono ?_; rintro e w' ⟨rfl, rfl⟩)
              | (with_reducible refine wpList_buildZ rfl 50 rfl (numsA zeros64) built_nums ?_)
              | (with_reducible refine wpList_storeZ rfl 50 _ _ rfl w.heap.size (numsA zeros64) rfl rfl 50 (numsA zeros64) (FIN.out _ rfl).1 64 zerosN_size nums_info zerosN_size (numsA_one _) ?_))
            obtain ⟨f1, f2⟩ := FIN.out _ rfl
            have hR6 := setRow_heap _ w.heap.size _ (numsA zeros64) _ _ f1
            exact bodyPost_ret (v := .tuple #[.agg (numsA zeros64), .int .i64 11]) (results_cell_tmp (fn := Try.f26) (p := 4) (q := 5) (ty := 50) rfl _ _ w.heap.size 50 (numsA zeros64) (0, 0) (.array 64 3) rfl _ rfl hR6 nums_under rfl nums_info) rfl ⟨by rw [HR0.out]; rfl, below_setRowZ f2 (Nat.le_refl _) _⟩
        · obtain ⟨nr, rfl⟩ : ∃ nr : Nat, r = nr := ⟨r.toNat, by omega⟩
          have h0 : 0 ≤ (nr : Int) := by omega
          have h1 : (na : Int) + nr < 64 := by omega
          have h2 : ¬ (nr : Int) < 0 := by omega
          have h3 : ¬ 64 - (na : Int) ≤ (nr : Int) := by omega
          have hsp2 := spr_step (rest := ps.drop (j + 1)) (b := blk) hok h0 h1
          rw [Int.toNat_natCast] at hsp2
          have HSp2 : Hid (spr (ps.drop (j + 1)) (na + nr + 1) (blk.set (ordAt (na + nr)) l) = R) := by show _ = R; rw [← HSp.out, hsp2]
          clear hsp2 hok hin
          go_wp2_with (go_at_call 31; refine (HLl.out _).mono ?_; rintro e w' ⟨rfl, rfl⟩)
          obtain ⟨M, hM⟩ : ∃ M : Nat, na + nr = M := ⟨_, rfl⟩
          have hMi : (na : Int) + (nr : Int) = (M : Int) := by omega
          have hM64 : M < 64 := by omega
          have hM65 : (M : Int) < 64 := by omega
          have hM0 : (0 : Int) ≤ (M : Int) := by omega
          rw [hM] at HSp2
          rw [hMi]
          have hoM := ordAt_lt M
          have hoI : ((ordAt M : Nat) : Int) < 64 := by omega
          have hoJ : (0 : Int) ≤ ((ordAt M : Nat) : Int) := by omega
          have c0 := HSA.out.tab.cell (k := M) (by rw [orderI_length]; exact hM64)
          rw [orderI_get hM64] at c0
          have c2 := HSA.out.blk.cell (k := ordAt M) (by omega)
          have f2 := HSA.out.blk.frozen (ordAt M)
          have hpb : wr.heap.size < (wr.alloc (.cells #[.int .i64 nr, .int .i64 l] 39 (0, 0))).heap.size := by simp
          have hpG := HS2.out.tab.lt
          clear x1 x2 y0 hMi h0 h1 h2 h3
          generalize wr.alloc (.cells #[.int .i64 nr, .int .i64 l] 39 (0, 0)) = w5 at *
          generalize wr.heap.size = pb at *
          generalize ordAt M = oM at *
          go_region
          have HBl2 := Lib.hid (show (blk.set oM l).length = 64 by simp [hbl])
          clear c0 c2 f2
          go_wp2
          go_roundw
          case rel => exact ⟨j + 1, M + 1, blk.set oM l, by go_num, by omega, by go_num, by omega, HBl2.out, HSp2.out, (HSA.out.set oM l).drew⟩
          case measure => simp [intOf]; omega
    · obtain rfl : j = len := by omega
      have hR0 : R = (0, blk) := by rw [← HSp.out, List.drop_eq_nil_of_le (by omega)]; rfl
      have HR0 := Lib.hid hR0
      have HBl := Lib.hid HS2.out.blk.cells
      have HRs := Lib.hid (show wr.heap[w.heap.size]? = some (.cells (numsA zeros64) 50 (0, 0)) from HS2.out.res)
      have HLn := Lib.hid (show (intV blk).length = 64 by simp [hbl])
      have HAs := Lib.hid (show (numsA blk).size = 64 by simp [hbl])
      clear hR0
      go_wp2_with (first
        | (with_reducible refine wpList_loadZ rfl 50 _ rfl ⟨w.heap.size + 1, 0, none⟩ rfl (intV blk) HBl.out 64 3 nums_under 64 HLn.out nums_info ?_)
        | (with_reducible refine wpList_storeZ rfl 50 _ _ rfl w.heap.size (numsA blk) rfl rfl 50 (numsA zeros64) HRs.out 64 HAs.out nums_info zerosN_size (numsA_one _) ?_))
      have hR6 : (wr.setRow w.heap.size (numsA blk)).heap[w.heap.size]? = some (.cells (numsA blk) 50 (0, 0)) := setRow_heap wr w.heap.size _ _ _ _ HRs.out
      exact bodyPost_ret (v := .tuple #[.agg (numsA blk), .int .i64 0]) (results_cell_tmp (fn := Try.f26) (p := 4) (q := 5) (ty := 50) rfl _ _ w.heap.size 50 (numsA blk) (0, 0) (.array 64 3) rfl _ rfl hR6 nums_under rfl (by rw [HAs.out]; exact nums_info)) rfl ⟨by rw [HR0.out]; rfl, below_setRowZ HS2.out.below (Nat.le_refl _) _⟩

theorem spr_err : ∀ (ps : List (Int × Int)) (a : Nat) (b : List Int), (spr ps a b).1 ≠ 0 → (spr ps a b).2 = []
  | [], _, _, h => absurd rfl h
  | (r, l) :: rest, a, b, h => by
    unfold spr at h ⊢
    split
    · rfl
    · rename_i h1
      rw [if_neg h1] at h
      split
      · rfl
      · rename_i h2
        rw [if_neg h2] at h
        exact spr_err rest _ _ h
/-- numbers in a row that the call owns -/
def OwnI (w : World) (base : Nat) (v : Value) (xs : List Int) : Prop := ∃ t, w.ownsRow base t 1 v xs.length (intV xs)
theorem ownI_nil (w : World) (base : Nat) : OwnI w base (.slice none 0 0) [] := ⟨0, World.ownsRow_nil _ _ _ _⟩

set_option maxRecDepth 100000 in
set_option maxHeartbeats 2000000 in
theorem spreadZ_any {n₀ : Nat} {w : World} {av : Option Addr} {len cap : Nat} {ps : List (Int × Int)} (hR : RowP n₀ w av len cap ps) (hn : n₀ ≤ w.heap.size) (hlen : len ≤ 1000000) (first : Int) :
    Calls Try.prog 10 #[.slice av len cap, .int .i64 first] w fun e w' => ∃ v, e = .returned (.tuple #[v, .int .i64 (sprR ps first).1]) ∧ OwnI w' w.heap.size v (sprR ps first).2 ∧ Below w.heap.size w w' := by
  have HF := Lib.hid (fun W => isFirst_any first W)
  by_cases h : first = 0 ∨ first = 1
  · obtain ⟨k, rfl⟩ : ∃ k : Nat, first = k := ⟨first.toNat, by omega⟩
    have hk : k ≤ 1 := by omega
    have HS := Lib.hid (zspread_any hR hn hlen k hk)
    have hsR : sprR ps k = spr ps k zeros64 := by unfold sprR; rw [if_pos h, Int.toNat_natCast]
    rw [hsR]
    have herr := spr_err ps k zeros64
    have hlen64 := spr_length ps k zeros64 rfl
    rw [show decide ((k : Int) = 0 ∨ (k : Int) = 1) = true from decide_eq_true h] at HF
    clear hsR h hR
    generalize spr ps k zeros64 = R at *
    by_cases h0 : R.1 = 0
    · have hB : sprB R = R.2 := by unfold sprB; rw [if_pos h0]
      rw [hB] at HS
      rw [h0] at HS ⊢
      have h64 := hlen64 h0
      clear hB herr hlen64 h0
      generalize R.2 = blk at *
      have HAs := Lib.hid (show (numsA blk).size = 64 by simp [h64])
      go_enter Try.func10, Try.ntmps10
      go_wp2_with (first
        | (go_at_call 25; refine (HF.out _).mono ?_; rintro e w' ⟨rfl, rfl⟩)
        | (go_at_call 26; refine HS.out.mono ?_; rintro e w1 ⟨rfl, hb1⟩; have HB1 := Lib.hid hb1; clear hb1)
        | (with_reducible refine wpList_allocZ rfl 50 (numsA zeros64) rfl nums_zero ?_)
        | (with_reducible refine wpList_storeZ rfl 50 _ _ rfl w1.heap.size (numsA blk) rfl rfl 50 (numsA zeros64) (World.alloc_heap_new _ _) 64 HAs.out nums_info zerosN_size (numsA_one _) ?_))
      go_ret2
      rw [World.setRow_alloc_new]
      exact ⟨_, rfl, ⟨50, by rw [h64]; exact (numsAt_new _ _ _).own h64 HB1.out.size⟩, HB1.out.alloc HB1.out.size _⟩
    · have hB : sprB R = zeros64 := by unfold sprB; rw [if_neg h0]
      rw [hB] at HS
      rw [herr h0]
      have hne : (R.1 != 0) = true := by simpa using h0
      clear hB herr hlen64 h0
      generalize R.1 = err at *
      go_enter Try.func10, Try.ntmps10
      go_wp2_with (first
        | (go_at_call 25; refine (HF.out _).mono ?_; rintro e w' ⟨rfl, rfl⟩)
        | (go_at_call 26; refine HS.out.mono ?_; rintro e w1 ⟨rfl, hb1⟩; have HB1 := Lib.hid hb1; clear hb1)
        | (with_reducible refine wpList_allocZ rfl 50 (numsA zeros64) rfl nums_zero ?_)
        | (with_reducible refine wpList_storeZ rfl 50 _ _ rfl w1.heap.size (numsA zeros64) rfl rfl 50 (numsA zeros64) (World.alloc_heap_new _ _) 64 zerosN_size nums_info zerosN_size (numsA_one _) ?_))
      go_ret2
      rw [World.setRow_alloc_new]
      exact ⟨_, rfl, ownI_nil _ _, HB1.out.alloc HB1.out.size _⟩
  · have hsR : sprR ps first = (3, []) := by unfold sprR; rw [if_neg h]
    rw [hsR]
    rw [show decide (first = 0 ∨ first = 1) = false from decide_eq_false h] at HF
    clear hsR h
    go_enter Try.func10, Try.ntmps10
    go_wp2_with (go_at_call 25; refine (HF.out _).mono ?_; rintro e w' ⟨rfl, rfl⟩)
    go_ret2
    exact ⟨_, rfl, ownI_nil _ _, Below.refl _ _⟩

end Go.Proofs.Ytjfekhjfdapilaa
