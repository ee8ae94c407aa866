/- paint: Lay, Copy: paintI (praxinoscope/paint). -/
import Derived.Test.YtenplmmongphoaaTSum
import Derived.Test.YtenplmmongphoaaTSpt
namespace Go.Proofs.Ytenplmmongphoaa
open Go.RowKit Go.Shelf Go.Sort
set_option linter.unusedVariables false

theorem run_load_held (W : World) (p : Addr) (us : List UInt8) (hus : us.length = 64) (hc : ∀ j v, (u8s us)[j]? = some v → W.cell? (p.add j) = some v) : (Instr.loadAt 66 (.pointer (some p))).run Try.prog W = .ok (.agg (u8s us).toArray) W := by
  have hl : (loadCells p (u8s us).length).run Try.prog W = .ok (u8s us).toArray W := run_loadCells_list (P := Try.prog) W p (u8s us) hc
  rw [List.length_map, hus] at hl
  have hagg : (isAgg 66).run Try.prog W = .ok true W := by kernel_rfl
  have hsz : (sizeOf 66).run Try.prog W = .ok 64 W := by kernel_rfl
  simp only [Instr.loadAt, Instr.sureAddr, loadVar, Sem.run_bind, Sem.run_pure, Result.andThen_ok, hagg, if_true, hsz, hl]
theorem run_array_held (W : World) (p : Option Addr) (len cap : Nat) (h : 64 ≤ len) : (Instr.arrayAt 66 (.slice p len cap)).run Try.prog W = .ok (.pointer p) W := by
  simp [Instr.arrayAt, Sem.run_bind, run_underlying held_under, show ¬ len < 64 by omega]

/-- a load of a whole array, in a region that draws its order -/
theorem wpQuiet_load {P : Program} {ops : Array Oper} {C : World → Prop} {Q : Act → Prop} {rest : List Oper} {o : Oper} {a : Act} (hgd : o.guard = none) (t : TypeId) (x : Operand) (ho : o.op = .load t x) (u v : Value) (hx : a.eval x = u)
    (hr : ∀ w, C w → (Instr.loadAt t u).run P w = .ok v w) (h : wpQuiet P ops C Q rest (a.put o.dst v)) : wpQuiet P ops C Q (o :: rest) a :=
  wpQuiet_step fun K hK => by
   rw [if_pos (show Region.wanted o (yielded ops a.tmps) = true by simp [Region.wanted, hgd])]
   exact ⟨v, fun w hw => by
    have e : (execOp a.eval o).run P w = .ok (.value v) w := by
      unfold execOp
      simp [ho, hx, hr w hw]
    unfold Oper.quietAt
    rw [e]
    exact ⟨rfl, rfl⟩, hK _ h⟩

/-- a block's place, told by natural numbers -/
theorem place_nat {f g a b : Int} (hp : pE f g a b = 0) {n : Nat} (hn : (n : Int) = sN f) : ∃ P q : Nat, pA f g a b = (P : Int) ∧ pW f g a b = (q : Int) ∧ P + q * 7 + 8 ≤ n ∧ ∀ k, k < 64 → psT f g a b k = psN P q k := by
  obtain ⟨h1, h2, h3, h4, h5⟩ := pA_in hp
  obtain ⟨P, hP⟩ : ∃ P : Nat, pA f g a b = (P : Int) := ⟨_, (Int.toNat_of_nonneg h1).symm⟩
  obtain ⟨q, hq⟩ : ∃ q : Nat, pW f g a b = (q : Int) := ⟨_, (Int.toNat_of_nonneg h3).symm⟩
  have key : ∀ k, k < 64 → psT f g a b k = psN P q k := fun k hk => by
    obtain ⟨e, -⟩ := psT_at hp hk
    rw [hP, hq] at e
    have e2 : ((k / 8 : Nat) : Int) * (q : Int) = ((k / 8 * q : Nat) : Int) := by push_cast; rfl
    unfold psN
    omega
  refine ⟨P, q, hP, hq, ?_, key⟩
  obtain ⟨-, e⟩ := psT_at hp (k := 63) (by omega)
  rw [key 63 (by omega)] at e
  unfold psN at e
  omega

set_option maxRecDepth 100000 in
set_option maxHeartbeats 4000000 in
theorem tlay_any {W : World} {G cap n₁ : Nat} {pre post : List Value} {zs ss : List UInt8} {sv : Value} (f g a b : Int) (hP : PicW W G pre zs post) (hcap : zs.length ≤ cap) (hl : zs.length ≤ 1000000) (hS : Byt n₁ W sv ss) (hn₁ : n₁ ≤ W.heap.size) (hne : sv.ownBlock ≠ some G) :
    Calls Try.prog 24 #[.slice (some ⟨G, pre.length, none⟩) zs.length cap, spotV f g a, .int .i64 b, sv] W fun e W' => e = .returned (.int .i64 (lyE f g a b zs.length ss.length)) ∧ PicW W' G pre (lyL f g a b zs ss) post ∧ Bar (fun k => k = G) W W' := by
  obtain ⟨sa, scap, rfl, hsl, hsc⟩ := hS
  obtain ⟨W1, hW1⟩ : ∃ W1, W.alloc (.cells #[.int .i64 f, .int .i64 g, .int .i64 a] 37 (0, 0)) = W1 := ⟨_, rfl⟩
  have hb1 : Below W.heap.size W W1 := by rw [← hW1]; exact (Below.refl _ W).alloc (Nat.le_refl _) _
  have hz1 : W1.heap.size = W.heap.size + 1 := by rw [← hW1]; simp
  have hbx : SpotAt W1 W.heap.size f g a := ⟨_, by rw [← hW1]; exact World.alloc_heap_new W _⟩
  obtain ⟨c0, c1, c2⟩ := hbx.cells
  obtain ⟨W2, hW2⟩ : ∃ W2, W1.alloc (.cells #[.slice (some ⟨G, pre.length, none⟩) zs.length cap] 22 (0, 0)) = W2 := ⟨_, rfl⟩
  have hb2 : Below W1.heap.size W1 W2 := by rw [← hW2]; exact (Below.refl _ W1).alloc (Nat.le_refl _) _
  have hz2 : W2.heap.size = W1.heap.size + 1 := by rw [← hW2]; simp
  have hrow : LensAt W2 (W.heap.size + 1) 1 (fun _ => zs.length) := ⟨by omega, fun j hj => ⟨_, _, by
    obtain rfl : j = 0 := by omega
    have := World.alloc_heap_new W1 (.cells #[.slice (some ⟨G, pre.length, none⟩) zs.length cap] 22 (0, 0))
    rw [hW2, hz1] at this
    rw [Lib.cell_of_heap this]
    rfl⟩⟩
  have HRf := Lib.hid (tpics_any f g a hrow (by omega))
  have HPl := Lib.hid (fun W => tplaceOf_any f g a b W)
  have B2 := Lib.hid (below_chain hb1 (Nat.le_refl _) hb2)
  have HBx := Lib.hid (hbx.later hb2)
  have hGlt := hP.lt
  have HP := Lib.hid hP
  have hrf : rfE f g a (lensL 1 fun _ => zs.length) = if cE f g a = 0 then (if (zs.length : Int) = sN f then 0 else 2) else cE f g a := by
    unfold rfE
    by_cases hc : cE f g a = 0
    · rw [if_pos hc, if_pos hc]
      by_cases h : (zs.length : Int) = sN f
      · rw [if_pos h, if_pos (by simp [lensL, List.range_succ, h])]
      · rw [if_neg h, if_neg (by simp [lensL, List.range_succ, h])]
    · rw [if_neg hc, if_neg hc]
  rw [hrf] at HRf
  clear hrf hbx hrow hb1 hb2 hP
  by_cases hE : lyE f g a b zs.length ss.length = 0
  · have hL : lyL f g a b zs ss = putT (psT f g a b) (fun k => ss[k]?.getD 0) zs 64 := if_pos hE
    have hE2 := hE
    unfold lyE at hE2
    have hc : cE f g a = 0 := by
      by_cases h : cE f g a = 0
      · exact h
      · rw [if_neg h] at hE2; exact hE2
    rw [if_pos hc] at hE2
    have hln : (zs.length : Int) = sN f ∧ (ss.length : Int) = 64 := by
      by_cases h : (zs.length : Int) = sN f ∧ (ss.length : Int) = 64
      · exact h
      · rw [if_neg h] at hE2; omega
    rw [if_pos hln] at hE2
    rw [hE, hL]
    rw [if_pos hc, if_pos hln.1] at HRf
    have hss : ss.length = 64 := by omega
    rcases hsc with e | ⟨b2, off2, rfl, hb2, hsc⟩
    · rw [e] at hss; cases hss
    have hne2 : b2 ≠ G := fun e => hne (by rw [e]; rfl)
    obtain ⟨P, q, eP, eq, hfit, hps⟩ := place_nat hE2 hln.1
    rw [putT_cong zs 64 hps (fun _ _ => rfl)]
    rw [eP, eq, hE2] at HPl
    have HSc : Hid (∀ W', Below W.heap.size W W' → ∀ j v, (u8s ss)[j]? = some v → W'.cell? ((⟨b2, off2, none⟩ : Addr).add j) = some v) := fun W' hb j v hv => by
      have hj : j < ss.length := by have := (List.getElem?_eq_some_iff.1 hv).1; simpa using this
      have hadd : (⟨b2, off2, none⟩ : Addr).add j = ⟨b2, off2 + j, none⟩ := by unfold Addr.add; split <;> simp_all
      rw [hadd, hb.cell (by simp; omega), hsc j hj, ← hv]
      simp [hj]
    have HT := Lib.hid (fun W' (hp : PicW W' G pre zs post) => tlays_any (P := P) (q := q) hp hcap hl hfit hss)
    rw [hss]
    clear hE hE2 hL hc hsc hsl hln eP eq hps hfit hcap hl hne2 hne
    have HSs := Lib.hid hss
    generalize hzl : zs.length = zl at *
    clear hss hzl
    go_enter Try.func24, Try.ntmps24
    go_wp2_with fail
    refine HRf.out.mono ?_
    rintro e W3 ⟨rfl, hb⟩
    have B3 := Lib.hid (below_chain B2.out (Nat.le_refl _) hb)
    have HBx := Lib.hid (HBx.out.later hb)
    obtain ⟨d0, d1, d2⟩ := HBx.out.cells
    clear hb c0 c1 c2
    go_wp2_with fail
    refine (HPl.out _).mono ?_
    rintro e W4 ⟨rfl, hb⟩
    have B4 := Lib.hid (below_chain B3.out (Nat.le_refl _) hb)
    clear hb d0 d1 d2
    go_wp2_with fail
    obtain ⟨W5, hW5⟩ : ∃ W5, W4.alloc (.cells #[.int .i64 (P : Int), .int .i64 (q : Int)] 61) = W5 := ⟨_, rfl⟩
    rw [hW5]
    have hp5 : W5.heap[W4.heap.size]? = some (.cells #[.int .i64 (P : Int), .int .i64 (q : Int)] 61 (0, 0)) := by rw [← hW5]; exact World.alloc_heap_new W4 _
    have B5 := Lib.hid (show Below W.heap.size W W5 from by rw [← hW5]; exact B4.out.alloc B4.out.size _)
    clear hW5
    have y0 : ∀ n, (W5.drewN n).cell? ⟨W4.heap.size, 0, none⟩ = some (.int .i64 (P : Int)) := fun n => by simp [World.cell?, World.drewN, hp5]
    have y1 : ∀ n, (W5.drewN n).cell? ⟨W4.heap.size, 1, none⟩ = some (.int .i64 (q : Int)) := fun n => by simp [World.cell?, World.drewN, hp5]
    have y2 : ∀ n, (Instr.arrayAt 66 (.slice (some ⟨b2, off2, none⟩) 64 scap)).run Try.prog (W5.drewN n) = .ok (.pointer (some ⟨b2, off2, none⟩)) (W5.drewN n) := fun n => run_array_held _ _ _ _ (Nat.le_refl _)
    have y3 : ∀ n, (Instr.loadAt 66 (.pointer (some ⟨b2, off2, none⟩))).run Try.prog (W5.drewN n) = .ok (.agg (u8s ss).toArray) (W5.drewN n) := fun n => run_load_held _ _ ss HSs.out (HSc.out _ (B5.out.trans (below_drewN _ _ _)))
    refine wp_region_quiet_tail (C := fun w' => ∃ n, w' = W5.drewN n) 5 (by kernel_rfl) (by kernel_rfl) ⟨1, rfl⟩ ?_
    simp only [List.take_succ_cons, List.take_zero, List.drop_succ_cons, List.drop_zero]
    iterate 4 quiet_step (fail)
    refine wpQuiet_load rfl 66 _ rfl (.pointer (some ⟨b2, off2, none⟩)) (.agg (u8s ss).toArray) rfl (by rintro w' ⟨n, rfl⟩; exact y3 n) ?_
    refine wpQuiet_nil ?_
    rintro _ ⟨nq, rfl⟩
    have B6 := Lib.hid (show Below W.heap.size W (W5.drewN nq) from B5.out.trans (below_drewN _ _ _))
    clear y0 y1 y2 y3 hp5
    generalize W5.drewN nq = W6 at *
    have HT6 := Lib.hid (HT.out W6 (HP.out.below B6.out hGlt))
    go_wp2_with fail
    refine HT6.out.mono ?_
    rintro e W7 ⟨rfl, hp7, hb7⟩
    have HP7 := Lib.hid hp7
    have B7 := Lib.hid ((bar_of_below (S := fun k => k = G) B6.out).trans hb7 (fun _ _ h => h))
    clear hp7 hb7 HT6
    go_wp2
    go_ret
    exact ⟨rfl, HP7.out, B7.out⟩
  · have hL : lyL f g a b zs ss = zs := if_neg hE
    rw [hL]
    have HEnd : Hid (∀ W', Below W.heap.size W W' → PicW W' G pre zs post ∧ Bar (fun k => k = G) W W') := fun W' hb => ⟨HP.out.below hb hGlt, bar_of_below hb⟩
    clear hL hsc hne
    unfold lyE at hE ⊢
    by_cases hc : cE f g a = 0
    · rw [if_pos hc] at hE ⊢
      rw [if_pos hc] at HRf
      by_cases hz : (zs.length : Int) = sN f
      · rw [if_pos hz] at HRf
        by_cases hs : (ss.length : Int) = 64
        · rw [if_pos ⟨hz, hs⟩]
          rw [if_pos ⟨hz, hs⟩] at hE
          have t1 : ((ss.length : Int) != 64) = false := by simpa using hs
          have t2 : (pE f g a b != 0) = true := by simpa using hE
          clear hs hz hc hE
          generalize pE f g a b = pe at *
          generalize pA f g a b = pa at *
          generalize pW f g a b = pw at *
          generalize zs.length = zl at *
          go_enter Try.func24, Try.ntmps24
          go_wp2_with fail
          refine HRf.out.mono ?_
          rintro e W3 ⟨rfl, hb⟩
          have B3 := Lib.hid (below_chain B2.out (Nat.le_refl _) hb)
          have HBx := Lib.hid (HBx.out.later hb)
          obtain ⟨d0, d1, d2⟩ := HBx.out.cells
          clear hb c0 c1 c2
          go_wp2_with fail
          refine (HPl.out _).mono ?_
          rintro e W4 ⟨rfl, hb⟩
          have B4 := Lib.hid (below_chain B3.out (Nat.le_refl _) hb)
          have B5 := Lib.hid (fun o => B4.out.alloc B4.out.size o)
          clear hb d0 d1 d2
          go_wp2_with fail
          go_ret
          exact ⟨rfl, HEnd.out _ (B5.out _)⟩
        · rw [if_neg (fun h => hs h.2)]
          have t1 : ((ss.length : Int) != 64) = true := by simpa using hs
          clear hs hz hc hE
          generalize zs.length = zl at *
          go_enter Try.func24, Try.ntmps24
          go_wp2_with fail
          refine HRf.out.mono ?_
          rintro e W3 ⟨rfl, hb⟩
          have B3 := Lib.hid (below_chain B2.out (Nat.le_refl _) hb)
          clear hb c0 c1 c2
          go_wp2_with fail
          go_ret
          exact ⟨rfl, HEnd.out _ B3.out⟩
      · rw [if_neg hz] at HRf
        rw [if_neg (fun h => hz h.1)]
        clear hz hc hE
        generalize zs.length = zl at *
        go_enter Try.func24, Try.ntmps24
        go_wp2_with fail
        refine HRf.out.mono ?_
        rintro e W3 ⟨rfl, hb⟩
        have B3 := Lib.hid (below_chain B2.out (Nat.le_refl _) hb)
        clear hb c0 c1 c2
        go_wp2_with fail
        go_ret
        exact ⟨rfl, HEnd.out _ B3.out⟩
    · rw [if_neg hc] at hE HRf ⊢
      have t1 : (cE f g a != 0) = true := by simpa using hc
      clear hc hE
      generalize cE f g a = ce at *
      generalize zs.length = zl at *
      go_enter Try.func24, Try.ntmps24
      go_wp2_with fail
      refine HRf.out.mono ?_
      rintro e W3 ⟨rfl, hb⟩
      have B3 := Lib.hid (below_chain B2.out (Nat.le_refl _) hb)
      clear hb c0 c1 c2
      go_wp2_with fail
      go_ret
      exact ⟨rfl, HEnd.out _ B3.out⟩

/-- six blocks' samples, so many of them taken -/
def tkT (F : Nat → Nat → UInt8) (m : Nat) : List UInt8 := (List.range 384).map fun j => if j < 64 * m then F (j / 64) (j % 64) else 0
theorem tkT_length (F : Nat → Nat → UInt8) (m : Nat) : (tkT F m).length = 384 := by simp [tkT]
theorem tkT_get (F : Nat → Nat → UInt8) (m : Nat) {j : Nat} (hj : j < 384) : (tkT F m)[j]? = some (if j < 64 * m then F (j / 64) (j % 64) else 0) := by simp [tkT, hj]
def zeros384 : List UInt8 := List.replicate 384 0
theorem tkT_zero (F : Nat → Nat → UInt8) : tkT F 0 = zeros384 := listB_ext (n := 384) (tkT_length _ _) (by unfold zeros384; rw [List.length_replicate]) (fun j hj => by
  rw [tkT_get _ _ hj, if_neg (by omega)]
  unfold zeros384
  rw [List.getElem?_replicate, if_pos hj])
theorem tkT_step (F : Nat → Nat → UInt8) {k : Nat} (hk : k < 6) : splice (tkT F k) (k * 64) (upU (F k) 64) = tkT F (k + 1) := listB_ext (n := 384) (by rw [length_splice _ _ _ (by rw [upU_length, tkT_length]; omega), tkT_length]) (tkT_length _ _) (fun j hj => by
  rw [splice_get _ _ _ (by rw [upU_length, tkT_length]; omega), upU_length, tkT_get _ _ hj, tkT_get _ _ hj]
  by_cases h : k * 64 ≤ j ∧ j < k * 64 + 64
  · rw [if_pos h, upU_get _ _ (by omega), if_pos (by omega), if_pos (by omega), show j / 64 = k by omega, show j % 64 = j - k * 64 by omega]
  · rw [if_neg h]
    by_cases h2 : j < 64 * k
    · rw [if_pos h2, if_pos (by omega)]
    · rw [if_neg h2, if_neg (by omega)])
theorem tkT_at (F : Nat → Nat → UInt8) {k j : Nat} (hk : k < 6) (hj : j < 64) : (tkT F 6)[k * 64 + j]? = (upU (F k) 64)[j]? := by
  rw [tkT_get _ _ (by omega), if_pos (by omega), upU_get _ _ hj, if_pos hj, show (k * 64 + j) / 64 = k by omega, show (k * 64 + j) % 64 = j by omega]
theorem helds_under : Try.prog.underlying 72 = some (.array 6 66) := by kernel_rfl
theorem helds_zero : (Try.prog.info? 72).map (·.zero) = some (some (.agg (u8s zeros384).toArray)) := by kernel_rfl

/-- where a picture is none -/
theorem tcopy_bad {W : World} {a0 a1 : Option Addr} {l0 c0 l1 c1 : Nat} (f g a : Int) (hE : cpE f g a l0 l1 ≠ 0) :
    Calls Try.prog 26 #[.slice a0 l0 c0, .slice a1 l1 c1, spotV f g a] W fun e W' => e = .returned (.int .i64 (cpE f g a l0 l1)) ∧ Below W.heap.size W W' := by
  obtain ⟨W1, hW1⟩ : ∃ W1, W.alloc (.cells #[.int .i64 f, .int .i64 g, .int .i64 a] 37 (0, 0)) = W1 := ⟨_, rfl⟩
  have hb1 : Below W.heap.size W W1 := by rw [← hW1]; exact (Below.refl _ W).alloc (Nat.le_refl _) _
  have hz1 : W1.heap.size = W.heap.size + 1 := by rw [← hW1]; simp
  have hbx : SpotAt W1 W.heap.size f g a := ⟨_, by rw [← hW1]; exact World.alloc_heap_new W _⟩
  obtain ⟨d0, d1, d2⟩ := hbx.cells
  obtain ⟨W2, hW2⟩ : ∃ W2, W1.alloc (.cells #[.slice a0 l0 c0, .slice a1 l1 c1] 22 (0, 0)) = W2 := ⟨_, rfl⟩
  have hb2 : Below W1.heap.size W1 W2 := by rw [← hW2]; exact (Below.refl _ W1).alloc (Nat.le_refl _) _
  have hz2 : W2.heap.size = W1.heap.size + 1 := by rw [← hW2]; simp
  have hrow : LensAt W2 (W.heap.size + 1) 2 (fun j => if j = 0 then l0 else l1) := ⟨by omega, fun j hj => by
    have := World.alloc_heap_new W1 (.cells #[.slice a0 l0 c0, .slice a1 l1 c1] 22 (0, 0))
    rw [hW2, hz1] at this
    have hj2 : j = 0 ∨ j = 1 := by omega
    rcases hj2 with rfl | rfl
    · exact ⟨a0, c0, by rw [Lib.cell_of_heap this]; rfl⟩
    · exact ⟨a1, c1, by rw [Lib.cell_of_heap this]; rfl⟩⟩
  have hrf : rfE f g a (lensL 2 fun j => if j = 0 then l0 else l1) = cpE f g a l0 l1 := by
    unfold rfE cpE
    by_cases hc : cE f g a = 0
    · rw [if_pos hc, if_pos hc]
      by_cases h : (l0 : Int) = sN f ∧ (l1 : Int) = sN f
      · rw [if_pos h, if_pos (by simp [lensL, List.range_succ, h.1, h.2])]
      · rw [if_neg h, if_neg (by simpa [lensL, List.range_succ] using h)]
    · rw [if_neg hc, if_neg hc]
  have HRf := Lib.hid (tpics_any f g a hrow (by omega))
  rw [hrf] at HRf
  have B2 := Lib.hid (below_chain hb1 (Nat.le_refl _) hb2)
  have t1 : (cpE f g a l0 l1 != 0) = true := by simpa using hE
  clear hrf hrow hbx hb1 hb2 hE
  generalize cpE f g a l0 l1 = ce at *
  go_enter Try.func26, Try.ntmps26
  go_wp2_with fail
  refine HRf.out.mono ?_
  rintro e W3 ⟨rfl, hb⟩
  have B3 := Lib.hid (below_chain B2.out (Nat.le_refl _) hb)
  clear hb d0 d1 d2
  go_wp2_with fail
  go_ret
  exact ⟨rfl, B3.out⟩

set_option maxRecDepth 100000 in
set_option maxHeartbeats 4000000 in
theorem tcopy_any {W : World} {G cap n₁ : Nat} {pre post : List Value} {zs fs : List UInt8} {fv : Value} (f g a : Int) (hP : PicW W G pre zs post) (hcap : zs.length ≤ cap) (hl : zs.length ≤ 1000000) (hlf : fs.length ≤ 1000000) (hS : Byt n₁ W fv fs) (hn₁ : n₁ ≤ W.heap.size) (hne : fv.ownBlock ≠ some G) (hC : Capped fv) :
    Calls Try.prog 26 #[.slice (some ⟨G, pre.length, none⟩) zs.length cap, fv, spotV f g a] W fun e W' => e = .returned (.int .i64 (cpE f g a zs.length fs.length)) ∧ PicW W' G pre (cpL f g a zs fs) post ∧ Bar (fun k => k = G) W W' := by
  obtain ⟨sa, scap, rfl, hsl, hsc⟩ := hS
  have hsk : fs.length ≤ scap := by obtain ⟨_, _, _, e, h⟩ := hC; cases e; exact h
  by_cases hE : cpE f g a zs.length fs.length = 0
  case neg =>
    rw [show cpL f g a zs fs = zs from if_neg hE]
    exact (tcopy_bad f g a hE).mono fun e W' ⟨h1, h2⟩ => ⟨h1, hP.below h2 hP.lt, bar_of_below h2⟩
  have hL : cpL f g a zs fs = cpN f g a zs fs 6 := if_pos hE
  have hE2 := hE
  unfold cpE at hE2
  have hc : cE f g a = 0 := by
    by_cases h : cE f g a = 0
    · exact h
    · rw [if_neg h] at hE2; exact hE2
  rw [if_pos hc] at hE2
  have hln : (zs.length : Int) = sN f ∧ (fs.length : Int) = sN f := by
    by_cases h : (zs.length : Int) = sN f ∧ (fs.length : Int) = sN f
    · exact h
    · rw [if_neg h] at hE2; omega
  have hpos : 0 < sN f := by rcases cE_F hc with rfl | rfl <;> decide
  rcases hsc with e | ⟨b2, off2, rfl, hb2, hsc⟩
  · rw [e] at hln; simp at hln; omega
  have hne2 : b2 ≠ G := fun e => hne (by rw [e]; rfl)
  have hfz : fs.length = zs.length := by omega
  obtain ⟨P, q, hPq⟩ : ∃ P q : Nat → Nat, ∀ k : Nat, k < 6 → pA f g a ((k : Int) + 1) = (P k : Int) ∧ pW f g a ((k : Int) + 1) = (q k : Int) ∧ P k + q k * 7 + 8 ≤ zs.length ∧ ∀ j, j < 64 → psT f g a ((k : Int) + 1) j = psN (P k) (q k) j := by
    refine ⟨fun k => (pA f g a ((k : Int) + 1)).toNat, fun k => (pW f g a ((k : Int) + 1)).toNat, fun k hk => ?_⟩
    obtain ⟨P, q, h1, h2, h3, h4⟩ := place_nat (pE_six hc hk) hln.1
    simp only [h1, h2, Int.toNat_natCast]
    exact ⟨trivial, trivial, h3, h4⟩
  obtain ⟨F, hF⟩ : ∃ F : Nat → Nat → UInt8, F = fun k j => fs[psN (P k) (q k) j]?.getD 0 := ⟨_, rfl⟩
  have HNx : Hid (∀ k, k < 6 → putT (psN (P k) (q k)) (fun j => (upU (F k) 64)[j]?.getD 0) (cpN f g a zs fs k) 64 = cpN f g a zs fs (k + 1)) := fun k hk => by
    show _ = putT (psT f g a ((k : Int) + 1)) (fun j => fs[psT f g a ((k : Int) + 1) j]?.getD 0) (cpN f g a zs fs k) 64
    refine putT_cong _ 64 (fun j hj => ((hPq k hk).2.2.2 j hj).symm) (fun j hj => ?_)
    rw [upU_get _ _ hj, if_pos hj, hF, (hPq k hk).2.2.2 j hj]
    rfl
  have HPq := Lib.hid hPq
  obtain ⟨W1, hW1⟩ : ∃ W1, W.alloc (.cells #[.int .i64 f, .int .i64 g, .int .i64 a] 37 (0, 0)) = W1 := ⟨_, rfl⟩
  have hb1 : Below W.heap.size W W1 := by rw [← hW1]; exact (Below.refl _ W).alloc (Nat.le_refl _) _
  have hz1 : W1.heap.size = W.heap.size + 1 := by rw [← hW1]; simp
  have hbx : SpotAt W1 W.heap.size f g a := ⟨_, by rw [← hW1]; exact World.alloc_heap_new W _⟩
  obtain ⟨d0, d1, d2⟩ := hbx.cells
  obtain ⟨W2, hW2⟩ : ∃ W2, W1.alloc (.cells #[.slice (some ⟨G, pre.length, none⟩) zs.length cap, .slice (some ⟨b2, off2, none⟩) fs.length scap] 22 (0, 0)) = W2 := ⟨_, rfl⟩
  have hbw2 : Below W1.heap.size W1 W2 := by rw [← hW2]; exact (Below.refl _ W1).alloc (Nat.le_refl _) _
  have hz2 : W2.heap.size = W1.heap.size + 1 := by rw [← hW2]; simp
  have hrow : LensAt W2 (W.heap.size + 1) 2 (fun j => if j = 0 then zs.length else fs.length) := ⟨by omega, fun j hj => by
    have := World.alloc_heap_new W1 (.cells #[.slice (some ⟨G, pre.length, none⟩) zs.length cap, .slice (some ⟨b2, off2, none⟩) fs.length scap] 22 (0, 0))
    rw [hW2, hz1] at this
    have hj2 : j = 0 ∨ j = 1 := by omega
    rcases hj2 with rfl | rfl
    · exact ⟨_, _, by rw [Lib.cell_of_heap this]; rfl⟩
    · exact ⟨_, _, by rw [Lib.cell_of_heap this]; rfl⟩⟩
  have HRf := Lib.hid (tpics_any f g a hrow (by omega))
  rw [show rfE f g a (lensL 2 fun j => if j = 0 then zs.length else fs.length) = 0 by
    unfold rfE
    rw [if_pos hc, if_pos (by simp [lensL, List.range_succ, hln.1, hln.2])]] at HRf
  have HPo := Lib.hid (fun W => tplacesOf_any f g a W)
  have B2 := Lib.hid (below_chain hb1 (Nat.le_refl _) hbw2)
  have HBx := Lib.hid (hbx.later hbw2)
  have hGlt := hP.lt
  have HP := Lib.hid hP
  have HSc : Hid (∀ W', Below W.heap.size W W' → ∀ k, k < fs.length → W'.cell? ⟨b2, off2 + k, none⟩ = some (.int .u8 ((fs[k]?.getD 0).toNat))) := fun W' hb k hk => (hb.cell (p := ⟨b2, off2 + k, none⟩) (by simp; omega)).trans (hsc k hk)
  have HTk : Hid (∀ k, k < 6 → ∀ W', Below W.heap.size W W' → Calls Try.prog 47 #[.agg #[.int .i64 (P k : Int), .int .i64 (q k : Int)], .slice (some ⟨b2, off2, none⟩) fs.length scap] W' fun e W'' => e = .returned (.agg (u8s (upU (F k) 64)).toArray) ∧ Below W'.heap.size W' W'') := fun k hk W' hb => by
    have := ttake_any (P := P k) (q := q k) (HSc.out W' hb) (by have := hb.size; omega) hsk hlf (by have := (hPq k hk).2.2.1; omega)
    rw [hF]
    exact this
  have HTl : Hid (∀ k, k < 6 → ∀ W', PicW W' G pre (cpN f g a zs fs k) post → Calls Try.prog 43 #[.agg #[.int .i64 (P k : Int), .int .i64 (q k : Int)], .slice (some ⟨G, pre.length, none⟩) zs.length cap, .agg (u8s (upU (F k) 64)).toArray] W' fun e W'' => e = .returned (.tuple #[]) ∧ PicW W'' G pre (cpN f g a zs fs (k + 1)) post ∧ Bar (fun q => q = G) W' W'') := fun k hk W' hp => by
    have hlk := cpN_length f g a zs fs k
    have := tlays_any (P := P k) (q := q k) (us := upU (F k) 64) hp (by rw [hlk]; exact hcap) (by rw [hlk]; exact hl) (by rw [hlk]; exact (hPq k hk).2.2.1) (upU_length _ _)
    rw [hlk, HNx.out k hk] at this
    exact this
  have HIx : Hid (∀ k : Nat, k < 6 → ∀ W', (Instr.index 70 (.agg (numsA (plcL f g a 6))) (.int .i64 (k : Int))).run Try.prog W' = .ok (.agg #[.int .i64 (P k : Int), .int .i64 (q k : Int)]) W') := fun k hk W' => by
    have := plcs_index (plcL_length f g a 6) hk W'
    rw [(plcL_at f g a hk).1, (plcL_at f g a hk).2, (hPq k hk).1, (hPq k hk).2.1] at this
    exact this
  have HPLl := Lib.hid (plcL_length f g a 6)
  generalize plcL f g a 6 = PL at *
  rw [hE, hL, hfz] at *
  clear hE hE2 hL hsc hln hpos hfz hrow hbx hb1 hbw2 hP hPq hF hne hC hc HNx
  have HN0 : Hid (cpN f g a zs fs 0 = zs) := rfl
  obtain ⟨CN, hCN⟩ : ∃ CN, CN = cpN f g a zs fs := ⟨_, rfl⟩
  rw [← hCN] at HN0 HTl ⊢
  clear hCN
  generalize zs.length = zl at *
  go_enter Try.func26, Try.ntmps26
  go_wp2_with fail
  refine HRf.out.mono ?_
  rintro e W3 ⟨rfl, hb⟩
  have B3 := Lib.hid (below_chain B2.out (Nat.le_refl _) hb)
  have HBx := Lib.hid (HBx.out.later hb)
  obtain ⟨e0, e1, e2⟩ := HBx.out.cells
  clear hb d0 d1 d2
  go_wp2_with fail
  refine (HPo.out _).mono ?_
  rintro e W4 ⟨rfl, hb⟩
  have B4 := Lib.hid (below_chain B3.out (Nat.le_refl _) hb)
  have HLs : Hid ((intV PL).length = 12) := by show (intV PL).length = 12; rw [List.length_map]; exact HPLl.out
  have HLz : Hid ((numsA PL).size = 12) := by show (numsA PL).size = 12; rw [List.size_toArray]; exact HLs.out
  have HZz : Hid ((numsA zeros12).size = 12) := rfl
  clear hb e0 e1 e2 HBx
  go_wp2_with (first
    | (with_reducible refine wpList_allocZ rfl 70 (numsA zeros12) rfl plcs_zero ?_)
    | (with_reducible refine stop_storeZ 70 _ _ rfl ?_; refine Hid.out ?_))
  refine Lib.hid ?_
  refine wpList_storeZ rfl 70 _ _ rfl W4.heap.size (numsA PL) (by rfl) (by rfl) 70 (numsA zeros12) (World.alloc_heap_new W4 _) 12 HLz.out plcs_info HZz.out (numsA_one _) ?_
  have hb5 : Below W.heap.size W ((W4.alloc (.cells (numsA zeros12) 70)).setRow W4.heap.size (numsA PL)) := below_setRowZ (B4.out.alloc B4.out.size _) B4.out.size _
  have hn5 : NumsAt ((W4.alloc (.cells (numsA zeros12) 70)).setRow W4.heap.size (numsA PL)) W4.heap.size 70 PL := NumsAt.setRow (b := zeros12) (World.alloc_heap_new W4 _)
  have hz5 : ((W4.alloc (.cells (numsA zeros12) 70)).setRow W4.heap.size (numsA PL)).heap.size = W4.heap.size + 1 := by simp
  have hs4 := B4.out.size
  generalize (W4.alloc (.cells (numsA zeros12) 70)).setRow W4.heap.size (numsA PL) = W5 at *
  obtain ⟨W6, hW6⟩ : ∃ W6, W5.alloc (.cells (u8s zeros384).toArray 72) = W6 := ⟨_, rfl⟩
  have hb6 : Below W5.heap.size W5 W6 := by rw [← hW6]; exact (Below.refl _ W5).alloc (Nat.le_refl _) _
  have B6 := Lib.hid (below_chain hb5 (Nat.le_refl _) hb6)
  have HN6 := Lib.hid (hn5.below hb6 hn5.lt)
  have HT6 : Hid (W6.heap[W4.heap.size + 1]? = some (.cells (u8s (tkT F 0)).toArray 72 (0, 0))) := by
    show W6.heap[W4.heap.size + 1]? = some (.cells (u8s (tkT F 0)).toArray 72 (0, 0))
    rw [tkT_zero, ← hz5, ← hW6]
    exact World.alloc_heap_new W5 _
  clear hb5 hn5 hb6
  go_wp2_with (first
    | (with_reducible refine wpList_allocZ rfl 72 (u8s zeros384).toArray rfl helds_zero ?_)
    | (with_reducible refine stop_load 70 _ rfl ?_; refine Hid.out ?_))
  refine Lib.hid ?_
  rw [hW6]
  refine wpList_loadZ rfl 70 _ rfl ⟨W4.heap.size, 0, none⟩ (by rfl) (intV PL) HN6.out.cells 6 61 plcs_under 12 HLs.out plcs_info ?_
  go_wp2
  clear hW6
  go_loopw [25] (fun i wr => ∃ k : Nat, i = .int .i64 (k : Int) ∧ k ≤ 6 ∧ wr.heap[W4.heap.size + 1]? = some (.cells (u8s (tkT F k)).toArray 72 (0, 0)) ∧ NumsAt wr W4.heap.size 70 PL ∧ Below W.heap.size W wr) (fun i _ => 6 - (intOf i).toNat)
  case atStart => exact ⟨0, rfl, by omega, HT6.out, HN6.out, B6.out⟩
  case round =>
    obtain ⟨k, rfl, hk, ht, hn, hb⟩ := hrel
    have HTa := Lib.hid ht
    have HNu := Lib.hid hn
    have HB := Lib.hid hb
    have hgt := (Array.getElem?_eq_some_iff.1 ht).1
    have hgn := hn.lt
    clear ht hn hb HT6 HN6 B6
    by_cases hk2 : k < 6
    · have z1 : (k : Int) < 6 := by omega
      have z0 : (0 : Int) ≤ k := by omega
      have hix := HIx.out k hk2
      obtain ⟨w5, hw5⟩ : ∃ w5, wr.alloc (.cells #[.int .i64 (P k : Int), .int .i64 (q k : Int)] 61) = w5 := ⟨_, rfl⟩
      have hb5 : Below wr.heap.size wr w5 := by rw [← hw5]; exact (Below.refl _ wr).alloc (Nat.le_refl _) _
      have hp5 : w5.heap[wr.heap.size]? = some (.cells #[.int .i64 (P k : Int), .int .i64 (q k : Int)] 61 (0, 0)) := by rw [← hw5]; exact World.alloc_heap_new wr _
      have p0 : w5.cell? ⟨wr.heap.size, 0, none⟩ = some (.int .i64 (P k : Int)) := by simp [World.cell?, hp5]
      have p1 : w5.cell? ⟨wr.heap.size, 1, none⟩ = some (.int .i64 (q k : Int)) := by simp [World.cell?, hp5]
      have HB5 := Lib.hid (below_chain HB.out (Nat.le_refl _) hb5)
      have HTk5 := Lib.hid (HTk.out k hk2 w5 HB5.out)
      have HTa5 := Lib.hid ((hb5.block _ hgt).trans HTa.out)
      have HNu5 := Lib.hid (HNu.out.below hb5 hgn)
      generalize P k = Pk at *
      generalize q k = qk at *
      clear hp5 hb5
      go_wp2_with fail
      refine HTk5.out.mono ?_
      rintro e w6 ⟨rfl, hb6⟩
      have HTa6 := Lib.hid ((hb6.block _ (Array.getElem?_eq_some_iff.1 HTa5.out).1).trans HTa5.out)
      have HNu6 := Lib.hid (HNu5.out.below hb6 HNu5.out.lt)
      have HB6 := Lib.hid (below_chain HB5.out (Nat.le_refl _) hb6)
      have HLu : Hid ((u8s (upU (F k) 64)).length = 64) := by show (u8s (upU (F k) 64)).length = 64; rw [List.length_map, upU_length]
      have HFt : Hid (k * 64 + 64 ≤ (u8s (tkT F k)).length) := by show k * 64 + 64 ≤ (u8s (tkT F k)).length; rw [List.length_map, tkT_length]; omega
      have hst := tkT_step F hk2
      clear hb6 p0 p1 HTk5 HB5 HTa5 HNu5 hix
      go_wp2_with (with_reducible refine stop_storeZ 66 _ _ rfl ?_; refine Hid.out ?_)
      refine Lib.hid ?_
      refine wpList_storeMid rfl 66 _ _ rfl (W4.heap.size + 1) (k * 64) (u8s (upU (F k) 64)) (u8s (tkT F k)) (by rfl) (by rfl) 72 HTa6.out 64 HLu.out held_info HFt.out u8s_one ?_
      rw [u8s_splice, hst]
      have HTa7 := Lib.hid (show (w6.setRow (W4.heap.size + 1) (u8s (tkT F (k + 1))).toArray).heap[W4.heap.size + 1]? = some (.cells (u8s (tkT F (k + 1))).toArray 72 (0, 0)) from setRow_heap w6 _ _ _ _ _ HTa6.out)
      have HNu7 := Lib.hid (HNu6.out.setRow_other (g' := W4.heap.size + 1) (by omega) (u8s (tkT F (k + 1))).toArray)
      have HB7 := Lib.hid (below_setRowZ (g := W4.heap.size + 1) HB6.out (by omega) (u8s (tkT F (k + 1))).toArray)
      clear hst HTa6 HNu6 HB6 HLu HFt
      generalize w6.setRow (W4.heap.size + 1) (u8s (tkT F (k + 1))).toArray = w7 at *
      go_wp2_with fail
      exact ⟨⟨k + 1, by go_num, by omega, HTa7.out, HNu7.out, HB7.out⟩, by simp [intOf]; omega⟩
    · obtain rfl : k = 6 := by omega
      have HPw := Lib.hid (HP.out.below HB.out hGlt)
      have HBr := Lib.hid (bar_of_below (S := fun k => k = G) HB.out)
      have HGn : Hid (G ≠ W4.heap.size + 1) := by show G ≠ W4.heap.size + 1; omega
      clear HB HP
      go_wp2_with (with_reducible refine stop_load 70 _ rfl ?_; refine Hid.out ?_)
      refine Lib.hid ?_
      refine wpList_loadZ rfl 70 _ rfl ⟨W4.heap.size, 0, none⟩ (by rfl) (intV PL) HNu.out.cells 6 61 plcs_under 12 HLs.out plcs_info ?_
      go_wp2
      go_loopw [36] (fun i wx => ∃ k : Nat, i = .int .i64 (k : Int) ∧ k ≤ 6 ∧ wx.heap[W4.heap.size + 1]? = some (.cells (u8s (tkT F 6)).toArray 72 (0, 0)) ∧ PicW wx G pre (CN k) post ∧ Bar (fun j => j = G) W wx) (fun i _ => 6 - (intOf i).toNat)
      case atStart => exact ⟨0, rfl, by omega, HTa.out, by rw [HN0]; exact HPw.out, HBr.out⟩
      case round =>
        obtain ⟨k, rfl, hk, ht, hp, hb⟩ := hrel
        have HTb := Lib.hid ht
        have HPb := Lib.hid hp
        have HBb := Lib.hid hb
        have hgb := (Array.getElem?_eq_some_iff.1 ht).1
        have hpb := hp.lt
        clear ht hp hb HTa HPw HBr HNu
        by_cases hk2 : k < 6
        · have z1 : (k : Int) < 6 := by omega
          have z0 : (0 : Int) ≤ k := by omega
          have hix := HIx.out k hk2
          have HTl5 := Lib.hid (fun W' hp => HTl.out k hk2 W' hp)
          have HAt := Lib.hid (fun j (hj : j < 64) => tkT_at F hk2 hj)
          generalize P k = Pk at *
          generalize q k = qk at *
          go_wp2_with fail
          obtain ⟨w5, hw5⟩ : ∃ w5, wr.alloc (.cells #[.int .i64 (Pk : Int), .int .i64 (qk : Int)] 61) = w5 := ⟨_, rfl⟩
          rw [hw5]
          have hb5 : Below wr.heap.size wr w5 := by rw [← hw5]; exact (Below.refl _ wr).alloc (Nat.le_refl _) _
          have hp5 : w5.heap[wr.heap.size]? = some (.cells #[.int .i64 (Pk : Int), .int .i64 (qk : Int)] 61 (0, 0)) := by rw [← hw5]; exact World.alloc_heap_new wr _
          have HT5 := Lib.hid ((hb5.block _ hgb).trans HTb.out)
          have HP5 := Lib.hid (HPb.out.below hb5 hpb)
          have HB5 := Lib.hid (HBb.out.thenBelow hb5 HBb.out.size)
          have y0 : ∀ n, (w5.drewN n).cell? ⟨wr.heap.size, 0, none⟩ = some (.int .i64 (Pk : Int)) := fun n => by simp [World.cell?, World.drewN, hp5]
          have y1 : ∀ n, (w5.drewN n).cell? ⟨wr.heap.size, 1, none⟩ = some (.int .i64 (qk : Int)) := fun n => by simp [World.cell?, World.drewN, hp5]
          have y3 : ∀ n, (Instr.loadAt 66 (.pointer (some ⟨W4.heap.size + 1, k * 64, none⟩))).run Try.prog (w5.drewN n) = .ok (.agg (u8s (upU (F k) 64)).toArray) (w5.drewN n) := fun n => run_load_held _ _ _ (upU_length _ _) (fun j v hv => by
            have hj : j < 64 := by have := (List.getElem?_eq_some_iff.1 hv).1; rwa [List.length_map, upU_length] at this
            have hadd : (⟨W4.heap.size + 1, k * 64, none⟩ : Addr).add j = ⟨W4.heap.size + 1, k * 64 + j, none⟩ := by unfold Addr.add; split <;> simp_all
            have h5 : (w5.drewN n).heap[W4.heap.size + 1]? = some (.cells (u8s (tkT F 6)).toArray 72 (0, 0)) := HT5.out
            rw [hadd, Lib.cell_of_heap h5, List.getElem?_toArray, List.getElem?_map, HAt.out j hj, ← List.getElem?_map]
            exact hv)
          clear hw5 hb5 hp5 HTb HPb HBb HAt
          refine wp_region_quiet_tail (C := fun w' => ∃ n, w' = w5.drewN n) 5 (by kernel_rfl) (by kernel_rfl) ⟨1, rfl⟩ ?_
          simp only [List.take_succ_cons, List.take_zero, List.drop_succ_cons, List.drop_zero]
          iterate 4 quiet_step (fail)
          refine wpQuiet_load rfl 66 _ rfl (.pointer (some ⟨W4.heap.size + 1, k * 64, none⟩)) (.agg (u8s (upU (F k) 64)).toArray) rfl (by rintro w' ⟨n, rfl⟩; exact y3 n) ?_
          refine wpQuiet_nil ?_
          rintro _ ⟨nq, rfl⟩
          have HT6 := Lib.hid (show (w5.drewN nq).heap[W4.heap.size + 1]? = some (.cells (u8s (tkT F 6)).toArray 72 (0, 0)) from HT5.out)
          have HB6 := Lib.hid (show Bar (fun j => j = G) W (w5.drewN nq) from HB5.out.thenBelow (below_drewN w5.heap.size w5 nq) HB5.out.size)
          have HC6 := Lib.hid (HTl5.out (w5.drewN nq) (show PicW (w5.drewN nq) G pre (CN k) post from HP5.out))
          clear y0 y1 y3 HT5 HP5 HB5 HTl5
          generalize w5.drewN nq = w6 at *
          go_wp2_with fail
          refine HC6.out.mono ?_
          rintro e w7 ⟨rfl, hp7, hb7⟩
          have HP7 := Lib.hid hp7
          have HB7 := Lib.hid (HB6.out.trans hb7 (fun _ _ h => h))
          have HT7 := Lib.hid ((hb7.block _ (Array.getElem?_eq_some_iff.1 HT6.out).1 (fun e => HGn.out e.symm)).trans HT6.out)
          clear hp7 hb7 HC6 HT6 HB6
          go_wp2_with fail
          exact ⟨⟨k + 1, by go_num, by omega, HT7.out, HP7.out, HB7.out⟩, by simp [intOf]; omega⟩
        · obtain rfl : k = 6 := by omega
          go_wp2_with fail
          go_ret
          exact ⟨rfl, HPb.out, HBb.out⟩

theorem paintI : PaintI where
  clip := fun n W _ => (tclip_any n W).mono fun e W' ⟨h1, h2⟩ => ⟨h1, by rw [← h2]; exact Below.refl _ _⟩
  grey := fun f W _ => tgrey_any f W
  add := fun hB hn _ hR hn₁ hl _ => tadd_any hB hn hR hn₁ hl
  flat := fun hR hn₁ hl _ => tflat_any hR hn₁ hl
  lay := fun f g a b hP hcap hl hS hn₁ hne _ _ _ _ _ => tlay_any f g a b hP hcap hl hS hn₁ hne
  copy := fun f g a hP hcap hl hlf hS hn₁ hne hC _ _ _ => tcopy_any f g a hP hcap hl hlf hS hn₁ hne hC
  copyNil := fun f g a W _ _ _ => tcopy_bad f g a (by
    unfold cpE
    by_cases hc : cE f g a = 0
    · have hpos : 0 < sN f := by rcases cE_F hc with rfl | rfl <;> decide
      rw [if_pos hc, if_neg (by simp; omega)]
      decide
    · rw [if_neg hc]; exact hc)

end Go.Proofs.Ytenplmmongphoaa
