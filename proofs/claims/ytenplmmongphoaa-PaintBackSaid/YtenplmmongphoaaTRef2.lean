/- paint: the reference's Flat, refuses, Lay, Copy (praxinoscoperef16). -/
import Derived.Test.YtenplmmongphoaaTRef
import Derived.Test.YtenplmmongphoaaMRef
namespace Go.Proofs.Ytenplmmongphoaa
open Go.RowKit Go.Shelf Go.Sort
set_option linter.unusedVariables false

theorem rflat16_any {n₁ : Nat} {w : World} {av : Option Addr} {len cap2 : Nat} {rs : List Int} (hR : RowV n₁ w av len cap2 (intV rs)) (hn₁ : n₁ ≤ w.heap.size) (hlen : len ≤ 1000000) :
    Calls Try.prog 15 #[.slice av len cap2] w fun e w' => ∃ v, e = .returned (.tuple #[v, .int .i64 (adE 64 rs)]) ∧ w'.ownsRow w.heap.size 5 1 v (adL zeroB64 rs).length (u8s (adL zeroB64 rs)) ∧ Below w.heap.size w w' := by
  have hmk := made64b w
  have hn := bytR_new w zeroB64
  have hb : Below w.heap.size w (w.alloc (.cells (u8s zeroB64).toArray 5 (0, 0))) := (Below.refl _ _).alloc (Nat.le_refl _) _
  generalize w.alloc (.cells (u8s zeroB64).toArray 5 (0, 0)) = w1 at *
  have HA := Lib.hid (radd16_any (hn.byt (n := 64) rfl (by omega)) (Nat.le_refl _) (hR.below (hb.mono hn₁)) (by have := hb.size; omega) hlen)
  rw [show zeroB64.length = 64 from rfl] at HA
  have HB := Lib.hid hb
  clear hn hb hR
  go_enter Try.func15, Try.ntmps15
  go_wp2_with fail
  refine HA.out.mono ?_
  rintro e w2 ⟨v, rfl, ho, hb2⟩
  have HO := Lib.hid (ownsRow_base ho HB.out.size)
  have HB2 := Lib.hid (below_chain HB.out (Nat.le_refl _) hb2)
  clear ho hb2 HA
  go_wp2_with fail
  exact bodyPost_ret (v := .tuple #[v, .int .i64 (adE 64 rs)]) (by simp [results, Try.f15, go_sem]) rfl ⟨v, rfl, HO.out, HB2.out⟩

/-- why there is no such place in bytes -/
def rfE (f g a : Int) (ms : List Int) : Int := if cE f g a = 0 then (if ms.all (· == sN f) = true then 0 else 2) else cE f g a
set_option maxRecDepth 100000 in
set_option maxHeartbeats 2000000 in
theorem rrefuses16_any {n₀ : Nat} {w : World} {av : Option Addr} {len cap : Nat} {ms : List Int} (f g a : Int) (hR : RowV n₀ w av len cap (intV ms)) (hn : n₀ ≤ w.heap.size) (hlen : len ≤ 1000) (hg : I64 g) (ha : I64 a) :
    Calls Try.prog 44 #[.agg #[.int .i64 f, .int .i64 g, .int .i64 a], .slice av len cap] w fun e w' => e = .returned (.int .i64 (rfE f g a ms)) ∧ Below w.heap.size w w' := by
  have hl : ms.length = len := by have := hR.1; simpa using this
  obtain ⟨W1, hW1⟩ : ∃ W1, w.alloc (.cells #[.int .i64 f, .int .i64 g, .int .i64 a] 37 (0, 0)) = W1 := ⟨_, rfl⟩
  have hb1 : Below w.heap.size w W1 := by rw [← hW1]; exact (Below.refl _ w).alloc (Nat.le_refl _) _
  have B1 := Lib.hid hb1
  have hz1 : W1.heap.size = w.heap.size + 1 := by rw [← hW1]; simp
  have hbx : SpotAt W1 w.heap.size f g a := ⟨_, by rw [← hW1]; exact World.alloc_heap_new w _⟩
  obtain ⟨c0, c1, c2⟩ := hbx.cells
  have HBx := Lib.hid hbx
  have HC := Lib.hid (rcorner13_any f g a W1 hg ha)
  have HS := Lib.hid (fun W => rsize13_any f W)
  clear hg ha hb1 hbx
  by_cases hc : cE f g a = 0
  · rw [hc] at HC
    have e0 : rfE f g a ms = if ms.all (· == sN f) = true then 0 else 2 := if_pos hc
    rw [e0]
    clear e0 hc
    have HX : Hid (∀ w', Below w.heap.size w w' → ∀ j, j < len → ∃ b off, av = some ⟨b, off, none⟩ ∧ w'.cell? ⟨b, off + j, none⟩ = some (.int .i64 (nthC ms j))) := fun w' hb j hj => by
      obtain ⟨b, off, rfl, hbl, hc⟩ := hR.cells (by omega)
      exact ⟨b, off, rfl, (hb.cell (p := ⟨b, off + j, none⟩) (by simp; omega)).trans (hc j (.int .i64 (nthC ms j)) (by simp [nthC, show j < ms.length by omega]))⟩
    have HAll : Hid ((∀ j, j < len → nthC ms j = sN f) → ms.all (· == sN f) = true) := fun h => by
      rw [List.all_eq_true]
      intro x hx
      obtain ⟨j, hj, rfl⟩ := List.getElem_of_mem hx
      have := h j (by omega)
      unfold nthC at this
      rw [List.getElem?_eq_getElem hj] at this
      simpa using this
    have HOne : Hid (∀ j, j < len → nthC ms j ≠ sN f → ms.all (· == sN f) = false) := fun j hj h => by
      rw [Bool.eq_false_iff]
      intro h2
      rw [List.all_eq_true] at h2
      have := h2 (ms[j]'(by omega)) (List.getElem_mem _)
      unfold nthC at h
      rw [List.getElem?_eq_getElem (by omega)] at h
      exact h (by simpa using this)
    clear hR
    generalize ms.all (· == sN f) = ok at *
    generalize sN f = sn at *
    go_enter Try.func44, Try.ntmps44
    go_wp2_with fail
    refine HC.out.mono ?_
    rintro e W2 ⟨rfl, hb⟩
    have B2 := Lib.hid (below_chain B1.out (Nat.le_refl _) hb)
    have HBx := Lib.hid (HBx.out.later hb)
    obtain ⟨d0, d1, d2⟩ := HBx.out.cells
    clear hb c0 c1 c2
    go_wp2_with (go_at_call 50; refine (HS.out _).mono ?_; rintro e w' ⟨rfl, rfl⟩)
    go_loopw [12] (fun i wr => ∃ k : Nat, i = .int .i64 (k : Int) ∧ k ≤ len ∧ (∀ j, j < k → nthC ms j = sn) ∧ Below w.heap.size w wr) (fun i _ => len - (intOf i).toNat)
    case atStart => exact ⟨0, rfl, by omega, fun j hj => by omega, B2.out⟩
    case round =>
      obtain ⟨k, rfl, hk, hok, hb⟩ := hrel
      have HB := Lib.hid hb
      clear hb
      by_cases hk2 : k < len
      · have z1 : (k : Int) < (len : Int) := by omega
        obtain ⟨b, off, rfl, x1⟩ := HX.out _ HB.out k hk2
        by_cases e : nthC ms k = sn
        · rw [e] at x1
          have HOk := Lib.hid (show ∀ j, j < k + 1 → nthC ms j = sn from fun j hj => by
            by_cases e2 : j = k
            · rw [e2]; exact e
            · exact hok j (by omega))
          clear hok e
          go_wp2_with fail
          go_roundw
          case rel => exact ⟨k + 1, by go_num, by omega, HOk.out, HB.out⟩
          case measure => simp [intOf]; omega
        · have t1 : (nthC ms k != sn) = true := by simpa using e
          have hf := HOne.out k hk2 e
          subst hf
          clear hok e HAll HOne
          generalize nthC ms k = y at *
          go_wp2_with fail
          go_ret
          exact ⟨rfl, HB.out⟩
      · obtain rfl : k = len := by omega
        have hf := HAll.out hok
        subst hf
        clear hok HAll HOne
        go_wp2_with fail
        go_ret
        exact ⟨rfl, HB.out⟩
  · have e0 : rfE f g a ms = cE f g a := if_neg hc
    rw [e0]
    have t1 : (cE f g a != 0) = true := by simpa using hc
    clear e0 hc hR
    generalize cE f g a = ce at *
    go_enter Try.func44, Try.ntmps44
    go_wp2_with fail
    refine HC.out.mono ?_
    rintro e W2 ⟨rfl, hb⟩
    have B2 := Lib.hid (below_chain B1.out (Nat.le_refl _) hb)
    clear hb c0 c1 c2
    go_wp2
    go_ret
    exact ⟨rfl, B2.out⟩

theorem mX_nought (b : Int) : mX b 0 = 0 := by unfold mX hv; split <;> rfl
/-- a block's places, by its place and stride -/
theorem psT_at {f g a b : Int} (hp : pE f g a b = 0) {k : Nat} (hk : k < 64) : pA f g a b + ((k / 8 : Nat) : Int) * pW f g a b + ((k % 8 : Nat) : Int) = ((psT f g a b k : Nat) : Int) ∧ ((psT f g a b k : Nat) : Int) < sN f := by
  obtain ⟨hc, -⟩ := pE_zero hp
  obtain ⟨h1, h2, -⟩ := mN_in hp (fE_still hc) hk
  unfold psT
  rw [Int.toNat_of_nonneg h1]
  refine ⟨?_, h2⟩
  unfold mN
  rw [mX_nought]
  simp only [Int.add_zero]
theorem byt_mono {n m : Nat} {W : World} {v : Value} {zs : List UInt8} (h : Byt n W v zs) (hm : n ≤ m) : Byt m W v zs := by
  obtain ⟨a, c, e, hl, hz⟩ := h
  exact ⟨a, c, e, hl, hz.imp id fun ⟨b, off, e, hb, hc⟩ => ⟨b, off, e, by omega, hc⟩⟩

set_option maxRecDepth 100000 in
set_option maxHeartbeats 1000000 in
theorem rlay16_any {W : World} {G cap n₁ : Nat} {pre post : List Value} {zs ss : List UInt8} {sv : Value} (f g a b : Int) (hP : PicW W G pre zs post) (hcap : zs.length ≤ cap) (hl : zs.length ≤ 1000000) (hS : Byt n₁ W sv ss) (hn₁ : n₁ ≤ W.heap.size) (hne : ss ≠ [] → sv.ownBlock ≠ some G) (hf : I64 f) (hg : I64 g) (ha : I64 a) :
    Calls Try.prog 25 #[.slice (some ⟨G, pre.length, none⟩) zs.length cap, spotV f g a, .int .i64 b, sv] W fun e W' => e = .returned (.int .i64 (lyE f g a b zs.length ss.length)) ∧ PicW W' G pre (lyL f g a b zs ss) post ∧ Bar (fun k => k = G) W W' := by
  obtain ⟨sa, scap, rfl, hsl, hsc⟩ := hS
  obtain ⟨W1, hW1⟩ : ∃ W1, W.alloc (.cells #[.int .i64 f, .int .i64 g, .int .i64 a] 37 (0, 0)) = W1 := ⟨_, rfl⟩
  have hb1 : Below W.heap.size W W1 := by rw [← hW1]; exact (Below.refl _ W).alloc (Nat.le_refl _) _
  have hz1 : W1.heap.size = W.heap.size + 1 := by rw [← hW1]; simp
  have hbx : SpotAt W1 W.heap.size f g a := ⟨_, by rw [← hW1]; exact World.alloc_heap_new W _⟩
  obtain ⟨c0, c1, c2⟩ := hbx.cells
  obtain ⟨W2, hW2⟩ : ∃ W2, W1.alloc (.cells #[.int .i64 (zs.length : Int)] 3 (0, 0)) = W2 := ⟨_, rfl⟩
  have hb2 : Below W1.heap.size W1 W2 := by rw [← hW2]; exact (Below.refl _ W1).alloc (Nat.le_refl _) _
  have hz2 : W2.heap.size = W1.heap.size + 1 := by rw [← hW2]; simp
  have hrow : RowV W2.heap.size W2 (some ⟨W1.heap.size, 0, none⟩) 1 1 (intV [(zs.length : Int)]) := by rw [← hW2]; exact rowV_new W1 (intV [(zs.length : Int)]) 3 1 rfl (by omega)
  rw [hz1] at hrow
  have HRf := Lib.hid (rrefuses16_any f g a hrow (Nat.le_refl _) (by omega) hg ha)
  have HPl := Lib.hid (fun W => rplace13_any f g a b W hg ha)
  have B2 := Lib.hid (below_chain hb1 (Nat.le_refl _) hb2)
  have HBx := Lib.hid (hbx.later hb2)
  have hGlt := hP.lt
  have HP := Lib.hid hP
  have hlen : 0 ≤ (zs.length : Int) ∧ (zs.length : Int) ≤ 1000000 := by omega
  have hrf : rfE f g a [(zs.length : Int)] = if cE f g a = 0 then (if (zs.length : Int) = sN f then 0 else 2) else cE f g a := by
    unfold rfE
    by_cases hc : cE f g a = 0
    · rw [if_pos hc, if_pos hc]
      by_cases h : (zs.length : Int) = sN f
      · rw [if_pos h, if_pos (by simp [h])]
      · rw [if_neg h, if_neg (by simp [h])]
    · rw [if_neg hc, if_neg hc]
  rw [hrf] at HRf
  clear hrf hbx hrow hb1 hb2 hP hg ha
  by_cases hE : lyE f g a b zs.length ss.length = 0
  · have hL : lyL f g a b zs ss = putT (psT f g a b) (fun k => ss[k]?.getD 0) zs 64 := if_pos hE
    have hE2 := hE
    unfold lyE at hE2
    have hc : cE f g a = 0 := by
      by_cases h : cE f g a = 0
      · exact h
      · rw [if_neg h] at hE2; exact hE2
    rw [if_pos hc] at hE2
    have hln : (zs.length : Int) = sN f ∧ (ss.length : Int) = 64 := by
      by_cases h : (zs.length : Int) = sN f ∧ (ss.length : Int) = 64
      · exact h
      · rw [if_neg h] at hE2; omega
    rw [if_pos hln] at hE2
    rw [hE, hL]
    rw [if_pos hc, if_pos hln.1] at HRf
    have hss : ss.length = 64 := by omega
    rcases hsc with e | ⟨b2, off2, rfl, hb2, hsc⟩
    · rw [e] at hss; cases hss
    have hne2 : b2 ≠ G := fun e => hne (fun e0 => by rw [e0] at hss; cases hss) (by rw [e]; rfl)
    have HSc : Hid (∀ W', Bar (fun k => k = G) W W' → ∀ k, k < 64 → W'.cell? ⟨b2, off2 + k, none⟩ = some (.int .u8 ((ss[k]?.getD 0).toNat))) := fun W' hb k hk => (hb.cellC (p := ⟨b2, off2 + k, none⟩) (by simp; omega) (by simpa using hne2)).trans (hsc k (by omega))
    have HPs : Hid (∀ k, k < 64 → pA f g a b + ((k / 8 : Nat) : Int) * pW f g a b + ((k % 8 : Nat) : Int) = ((psT f g a b k : Nat) : Int) ∧ psT f g a b k < zs.length) := fun k hk => by
      obtain ⟨h1, h2⟩ := psT_at hE2 hk
      exact ⟨h1, by omega⟩
    have hpa := pA_in hE2
    rw [hE2] at HPl
    rw [hss]
    have HLn := Lib.hid (fun k => putT_length (psT f g a b) (fun k => ss[k]?.getD 0) zs k)
    have HSt : Hid (∀ k, (putT (psT f g a b) (fun k => ss[k]?.getD 0) zs k).set (psT f g a b k) (ss[k]?.getD 0) = putT (psT f g a b) (fun k => ss[k]?.getD 0) zs (k + 1)) := fun k => rfl
    have HLen := Lib.hid hln
    have HPa := Lib.hid hpa
    clear hE hE2 hL hc hsc hss hsl hln hpa
    generalize psT f g a b = ps at *
    generalize pA f g a b = P at *
    generalize pW f g a b = q at *
    generalize sN f = sn at *
    generalize hzl : zs.length = zl at *
    go_enter Try.func25, Try.ntmps25
    go_wp2_with fail
    refine HRf.out.mono ?_
    rintro e W3 ⟨rfl, hb⟩
    have B3 := Lib.hid (below_chain B2.out (Nat.le_refl _) hb)
    have HBx := Lib.hid (HBx.out.later hb)
    obtain ⟨d0, d1, d2⟩ := HBx.out.cells
    clear hb c0 c1 c2
    go_wp2_with fail
    refine (HPl.out _).mono ?_
    rintro e W4 ⟨rfl, hb⟩
    have B4 := Lib.hid (below_chain B3.out (Nat.le_refl _) hb)
    clear hb d0 d1 d2
    go_wp2_with fail
    go_loopw [13] (fun i wr => ∃ k : Nat, i = .int .i64 (k : Int) ∧ k ≤ 64 ∧ PicW wr G pre (putT ps (fun k => ss[k]?.getD 0) zs k) post ∧ Bar (fun k => k = G) W wr) (fun i _ => 64 - (intOf i).toNat)
    case atStart => exact ⟨0, rfl, by omega, HP.out.below B4.out hGlt, bar_of_below B4.out⟩
    case round =>
      obtain ⟨k, rfl, hk, hp, hb⟩ := hrel
      have HPw := Lib.hid hp
      have HB := Lib.hid hb
      clear hp hb
      by_cases hk2 : k < 64
      · have z1 : (k : Int) < 64 := by omega
        have z0 : (0 : Int) ≤ k := by omega
        have x1 := HSc.out _ HB.out k hk2
        obtain ⟨h1, h2⟩ := HPs.out k hk2
        obtain ⟨p0, p1, p2, p3, p4⟩ := HPa.out
        have c1 := HPw.out.cell (k := ps k) (by rw [HLn.out]; exact h2)
        have f1 := HPw.out.frozen (pre.length + ps k)
        have hst := HSt.out k
        have hll := HLn.out k
        have hlen1 := HLen.out.1
        generalize ss[k]?.getD 0 = z at *
        generalize ps k = N at *
        obtain ⟨r, hr⟩ : ∃ r, r = k % 8 := ⟨_, rfl⟩
        obtain ⟨c, hc⟩ : ∃ c, c = k / 8 := ⟨_, rfl⟩
        rw [← hr, ← hc] at h1
        obtain ⟨T, hT⟩ : ∃ T, (c : Int) * q = T := ⟨_, rfl⟩
        rw [hT] at h1
        have e1 : Int.tmod (k : Int) 8 = (r : Int) := by rw [Int.tmod_eq_emod_of_nonneg (by omega)]; omega
        have e2 : Int.tdiv (k : Int) 8 = (c : Int) := by rw [Int.tdiv_eq_ediv_of_nonneg (by omega)]; omega
        have i1 : (N : Int) < (zl : Int) := by omega
        have i2 : -1000000 ≤ T := by omega
        have i3 : T ≤ 1000000 := by omega
        have i4 : (r : Int) < 8 := by omega
        have i5 : (c : Int) < 8 := by omega
        have i6 : P ≤ 1000000 := by omega
        have HSk := Lib.hid hst
        have HLk := Lib.hid (show N < (putT ps (fun k => ss[k]?.getD 0) zs k).length by rw [hll]; exact h2)
        clear hst hll hlen1 h2 hr hc
        go_wp2_with fail
        exact ⟨⟨k + 1, by go_num, by omega, by rw [← HSk.out]; exact HPw.out.set HLk.out z, HB.out.setCell (p := ⟨G, pre.length + N, none⟩) (fun _ => rfl) _⟩, by simp [intOf]; omega⟩
      · obtain rfl : k = 64 := by omega
        go_wp2_with fail
        go_ret
        exact ⟨rfl, HPw.out, HB.out⟩
  · have hL : lyL f g a b zs ss = zs := if_neg hE
    rw [hL]
    have HEnd : Hid (∀ W', Below W.heap.size W W' → PicW W' G pre zs post ∧ Bar (fun k => k = G) W W') := fun W' hb => ⟨HP.out.below hb hGlt, bar_of_below hb⟩
    clear hL hsc hne
    unfold lyE at hE ⊢
    by_cases hc : cE f g a = 0
    · rw [if_pos hc] at hE ⊢
      rw [if_pos hc] at HRf
      by_cases hz : (zs.length : Int) = sN f
      · rw [if_pos hz] at HRf
        by_cases hs : (ss.length : Int) = 64
        · rw [if_pos ⟨hz, hs⟩]
          rw [if_pos ⟨hz, hs⟩] at hE
          have t1 : ((ss.length : Int) != 64) = false := by simpa using hs
          have t2 : (pE f g a b != 0) = true := by simpa using hE
          clear hs hz hc hE
          generalize pE f g a b = pe at *
          generalize zs.length = zl at *
          go_enter Try.func25, Try.ntmps25
          go_wp2_with fail
          refine HRf.out.mono ?_
          rintro e W3 ⟨rfl, hb⟩
          have B3 := Lib.hid (below_chain B2.out (Nat.le_refl _) hb)
          have HBx := Lib.hid (HBx.out.later hb)
          obtain ⟨d0, d1, d2⟩ := HBx.out.cells
          clear hb c0 c1 c2
          go_wp2_with fail
          refine (HPl.out _).mono ?_
          rintro e W4 ⟨rfl, hb⟩
          have B4 := Lib.hid (below_chain B3.out (Nat.le_refl _) hb)
          clear hb d0 d1 d2
          go_wp2_with fail
          go_ret
          exact ⟨rfl, HEnd.out _ B4.out⟩
        · rw [if_neg (fun h => hs h.2)]
          have t1 : ((ss.length : Int) != 64) = true := by simpa using hs
          clear hs hz hc hE
          generalize zs.length = zl at *
          go_enter Try.func25, Try.ntmps25
          go_wp2_with fail
          refine HRf.out.mono ?_
          rintro e W3 ⟨rfl, hb⟩
          have B3 := Lib.hid (below_chain B2.out (Nat.le_refl _) hb)
          clear hb c0 c1 c2
          go_wp2_with fail
          go_ret
          exact ⟨rfl, HEnd.out _ B3.out⟩
      · rw [if_neg hz] at HRf
        rw [if_neg (fun h => hz h.1)]
        clear hz hc hE
        generalize zs.length = zl at *
        go_enter Try.func25, Try.ntmps25
        go_wp2_with fail
        refine HRf.out.mono ?_
        rintro e W3 ⟨rfl, hb⟩
        have B3 := Lib.hid (below_chain B2.out (Nat.le_refl _) hb)
        clear hb c0 c1 c2
        go_wp2_with fail
        go_ret
        exact ⟨rfl, HEnd.out _ B3.out⟩
    · rw [if_neg hc]
      rw [if_neg hc] at HRf
      have t1 : (cE f g a != 0) = true := by simpa using hc
      clear hc hE
      generalize cE f g a = ce at *
      generalize zs.length = zl at *
      go_enter Try.func25, Try.ntmps25
      go_wp2_with fail
      refine HRf.out.mono ?_
      rintro e W3 ⟨rfl, hb⟩
      have B3 := Lib.hid (below_chain B2.out (Nat.le_refl _) hb)
      clear hb c0 c1 c2
      go_wp2_with fail
      go_ret
      exact ⟨rfl, HEnd.out _ B3.out⟩

end Go.Proofs.Ytenplmmongphoaa
