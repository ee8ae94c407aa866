/- paint: the reference's Copy (praxinoscoperef16). -/
import Derived.Test.YtenplmmongphoaaTRef2
namespace Go.Proofs.Ytenplmmongphoaa
open Go.RowKit Go.Shelf Go.Sort
set_option linter.unusedVariables false

theorem pE_six {f g a : Int} (hc : cE f g a = 0) {B : Nat} (hB : B < 6) : pE f g a ((B : Int) + 1) = 0 := by
  unfold pE
  rw [if_pos hc, if_pos (by omega)]

theorem spotAt_set {W : World} {b : Nat} {f g a : Int} (h : SpotAt W b f g a) {p : Addr} (hp : b ≠ p.block) (v : Value) : SpotAt (W.setCell p v) b f g a := by
  obtain ⟨t, h⟩ := h
  exact ⟨t, (heap_setCell_other W p b v hp).trans h⟩

set_option maxRecDepth 100000 in
set_option maxHeartbeats 2000000 in
theorem rcopy16_any {W : World} {G cap n₁ : Nat} {pre post : List Value} {zs fs : List UInt8} {fv : Value} (f g a : Int) (hP : PicW W G pre zs post) (hcap : zs.length ≤ cap) (hl : zs.length ≤ 1000000) (hlf : fs.length ≤ 1000000) (hS : Byt n₁ W fv fs) (hn₁ : n₁ ≤ W.heap.size) (hne : fv.ownBlock ≠ some G) (hf : I64 f) (hg : I64 g) (ha : I64 a) :
    Calls Try.prog 27 #[.slice (some ⟨G, pre.length, none⟩) zs.length cap, fv, spotV f g a] W fun e W' => e = .returned (.int .i64 (cpE f g a zs.length fs.length)) ∧ PicW W' G pre (cpL f g a zs fs) post ∧ Bar (fun k => k = G) W W' := by
  obtain ⟨sa, scap, rfl, hsl, hsc⟩ := hS
  obtain ⟨W1, hW1⟩ : ∃ W1, W.alloc (.cells #[.int .i64 f, .int .i64 g, .int .i64 a] 37 (0, 0)) = W1 := ⟨_, rfl⟩
  have hb1 : Below W.heap.size W W1 := by rw [← hW1]; exact (Below.refl _ W).alloc (Nat.le_refl _) _
  have hz1 : W1.heap.size = W.heap.size + 1 := by rw [← hW1]; simp
  have hbx : SpotAt W1 W.heap.size f g a := ⟨_, by rw [← hW1]; exact World.alloc_heap_new W _⟩
  obtain ⟨c0, c1, c2⟩ := hbx.cells
  obtain ⟨W2, hW2⟩ : ∃ W2, W1.alloc (.cells #[.int .i64 (zs.length : Int), .int .i64 (fs.length : Int)] 3 (0, 0)) = W2 := ⟨_, rfl⟩
  have hb2 : Below W1.heap.size W1 W2 := by rw [← hW2]; exact (Below.refl _ W1).alloc (Nat.le_refl _) _
  have hz2 : W2.heap.size = W1.heap.size + 1 := by rw [← hW2]; simp
  have hrow : RowV W2.heap.size W2 (some ⟨W1.heap.size, 0, none⟩) 2 2 (intV [(zs.length : Int), (fs.length : Int)]) := by rw [← hW2]; exact rowV_new W1 (intV [(zs.length : Int), (fs.length : Int)]) 3 2 rfl (by omega)
  rw [hz1] at hrow
  have HRf := Lib.hid (rrefuses16_any f g a hrow (Nat.le_refl _) (by omega) hg ha)
  have HPl := Lib.hid (fun b W => rplace13_any f g a b W hg ha)
  have B2 := Lib.hid (below_chain hb1 (Nat.le_refl _) hb2)
  have HBx := Lib.hid (hbx.later hb2)
  have hGlt := hP.lt
  have HP := Lib.hid hP
  have hlen : 0 ≤ (zs.length : Int) ∧ (zs.length : Int) ≤ 1000000 := by omega
  have hrf : rfE f g a [(zs.length : Int), (fs.length : Int)] = cpE f g a zs.length fs.length := by
    unfold rfE cpE
    by_cases hc : cE f g a = 0
    · rw [if_pos hc, if_pos hc]
      by_cases h : (zs.length : Int) = sN f ∧ (fs.length : Int) = sN f
      · rw [if_pos h, if_pos (by simp [h.1, h.2])]
      · rw [if_neg h, if_neg (by simpa using h)]
    · rw [if_neg hc, if_neg hc]
  rw [hrf] at HRf
  clear hrf hbx hrow hb1 hb2 hP hg ha
  by_cases hE : cpE f g a zs.length fs.length = 0
  · have hL : cpL f g a zs fs = cpN f g a zs fs 6 := if_pos hE
    rw [hE] at HRf
    rw [hE, hL]
    have hE2 := hE
    unfold cpE at hE2
    have hc : cE f g a = 0 := by
      by_cases h : cE f g a = 0
      · exact h
      · rw [if_neg h] at hE2; exact hE2
    rw [if_pos hc] at hE2
    have hln : (zs.length : Int) = sN f ∧ (fs.length : Int) = sN f := by
      by_cases h : (zs.length : Int) = sN f ∧ (fs.length : Int) = sN f
      · exact h
      · rw [if_neg h] at hE2; omega
    have hpos : 0 < sN f := by rcases cE_F hc with rfl | rfl <;> decide
    rcases hsc with e | ⟨b2, off2, rfl, hb2, hsc⟩
    · rw [e] at hln; simp at hln; omega
    have hne2 : b2 ≠ G := fun e => hne (by rw [e]; rfl)
    have hfz : fs.length = zs.length := by omega
    have HSc : Hid (∀ W', Bar (fun k => k = G) W W' → ∀ k, k < zs.length → W'.cell? ⟨b2, off2 + k, none⟩ = some (.int .u8 ((fs[k]?.getD 0).toNat))) := fun W' hb k hk => (hb.cellC (p := ⟨b2, off2 + k, none⟩) (by simp; omega) (by simpa using hne2)).trans (hsc k (by omega))
    have HPs : Hid (∀ (B k : Nat), B < 6 → k < 64 → (pA f g a ((B : Int) + 1) + ((k / 8 : Nat) : Int) * pW f g a ((B : Int) + 1) + ((k % 8 : Nat) : Int) = ((psT f g a ((B : Int) + 1) k : Nat) : Int) ∧ psT f g a ((B : Int) + 1) k < zs.length) ∧ (0 ≤ pA f g a ((B : Int) + 1) ∧ pA f g a ((B : Int) + 1) ≤ 1000000)) := fun B k hB hk => by
      obtain ⟨h1, h2⟩ := psT_at (pE_six hc hB) hk
      obtain ⟨p0, p1, p2, p3, p4⟩ := pA_in (pE_six hc hB)
      exact ⟨⟨h1, by omega⟩, by omega⟩
    have HPe := Lib.hid (fun (B : Nat) (hB : B < 6) => @pE_six f g a hc B hB)
    have HLn := Lib.hid (fun (B : Nat) (k : Nat) => (putT_length (psT f g a ((B : Int) + 1)) (fun k => fs[psT f g a ((B : Int) + 1) k]?.getD 0) (cpN f g a zs fs B) k).trans (cpN_length f g a zs fs B))
    have HSt : Hid (∀ (B k : Nat), (putT (psT f g a ((B : Int) + 1)) (fun k => fs[psT f g a ((B : Int) + 1) k]?.getD 0) (cpN f g a zs fs B) k).set (psT f g a ((B : Int) + 1) k) (fs[psT f g a ((B : Int) + 1) k]?.getD 0) = putT (psT f g a ((B : Int) + 1)) (fun k => fs[psT f g a ((B : Int) + 1) k]?.getD 0) (cpN f g a zs fs B) (k + 1)) := fun B k => rfl
    have HNx : Hid (∀ B : Nat, putT (psT f g a ((B : Int) + 1)) (fun k => fs[psT f g a ((B : Int) + 1) k]?.getD 0) (cpN f g a zs fs B) 64 = cpN f g a zs fs (B + 1)) := fun B => rfl
    have HN0 : Hid (cpN f g a zs fs 0 = zs) := rfl
    clear hE hE2 hL hc hsc hsl hln hpos
    obtain ⟨CN, hCN⟩ : ∃ CN, CN = cpN f g a zs fs := ⟨_, rfl⟩
    obtain ⟨PT, hPT⟩ : ∃ PT : Nat → Nat → List UInt8, PT = fun (B k : Nat) => putT (psT f g a ((B : Int) + 1)) (fun k => fs[psT f g a ((B : Int) + 1) k]?.getD 0) (cpN f g a zs fs B) k := ⟨_, rfl⟩
    replace HLn : Hid (∀ (B k : Nat), (PT B k).length = zs.length) := fun B k => by rw [hPT]; exact HLn.out B k
    replace HSt : Hid (∀ (B k : Nat), (PT B k).set (psT f g a ((B : Int) + 1) k) (fs[psT f g a ((B : Int) + 1) k]?.getD 0) = PT B (k + 1)) := fun B k => by rw [hPT]; exact HSt.out B k
    replace HNx : Hid (∀ B, PT B 64 = CN (B + 1)) := fun B => by rw [hPT, hCN]; exact HNx.out B
    have HN1 : Hid (∀ B, PT B 0 = CN B) := fun B => by rw [hPT, hCN]; rfl
    replace HN0 : Hid (CN 0 = zs) := by rw [hCN]; exact HN0.out
    rw [← hCN]
    clear hCN hPT
    rw [hfz] at hW2 ⊢
    generalize hzl : zs.length = zl at *
    have HQ := Lib.hid hfz
    clear hfz hne2
    go_enter Try.func27, Try.ntmps27
    go_wp2_with fail
    refine HRf.out.mono ?_
    rintro e W3 ⟨rfl, hb⟩
    have B3 := Lib.hid (below_chain B2.out (Nat.le_refl _) hb)
    have HBx := Lib.hid (HBx.out.later hb)
    clear hb c0 c1 c2
    go_wp2_with fail
    go_loopw [8] (fun i wr => ∃ B : Nat, i = .int .i64 ((B : Int) + 1) ∧ B ≤ 6 ∧ PicW wr G pre (CN B) post ∧ Bar (fun k => k = G) W wr ∧ SpotAt wr W.heap.size f g a) (fun i _ => 7 - (intOf i).toNat)
    case atStart => exact ⟨0, rfl, by omega, by rw [HN0.out]; exact HP.out.below B3.out hGlt, bar_of_below B3.out, HBx.out⟩
    case round =>
      obtain ⟨B, rfl, hB, hp, hb, hx⟩ := hrel
      have HPw := Lib.hid hp
      have HB := Lib.hid hb
      have HBw := Lib.hid hx
      clear hp hb hx
      by_cases hB2 : B < 6
      · have z1 : (B : Int) + 1 ≤ 6 := by omega
        have z0 : (0 : Int) ≤ B := by omega
        obtain ⟨d0, d1, d2⟩ := HBw.out.cells
        have hpl := HPl.out ((B : Int) + 1) wr
        rw [HPe.out B hB2] at hpl
        have HPl1 := Lib.hid hpl
        clear hpl
        go_wp2_with fail
        refine HPl1.out.mono ?_
        rintro e W4 ⟨rfl, hb⟩
        have B4 := Lib.hid hb
        clear hb d0 d1 d2
        go_wp2_with fail
        have HPw := Lib.hid (HPw.out.below (B4.out) HPw.out.lt)
        have HB := Lib.hid (HB.out.trans (bar_of_below B4.out) (fun j _ e => e))
        have HBw := Lib.hid (HBw.out.later B4.out)
        have HQw := Lib.hid (show 0 ≤ pA f g a ((B : Int) + 1) ∧ pA f g a ((B : Int) + 1) ≤ 1000000 from (HPs.out B 0 hB2 (by omega)).2)
        go_loopg [12] 64 (fun gh i wy => ∃ k : Nat, k + gh = 64 ∧ i = .int .i64 (k : Int) ∧ PicW wy G pre (PT B k) post ∧ Bar (fun k => k = G) W wy ∧ SpotAt wy W.heap.size f g a)
        case atStart => exact ⟨0, by omega, rfl, by rw [HN1.out]; exact HPw.out, HB.out, HBw.out⟩
        case round =>
          obtain ⟨k, hk, rfl, hp, hb, hx⟩ := hrel
          have HPw := Lib.hid hp
          have HB := Lib.hid hb
          have HBw := Lib.hid hx
          clear hp hb hx
          cases gk with
          | zero =>
            obtain rfl : k = 64 := by omega
            have HPw := Lib.hid (show PicW wr G pre (CN (B + 1)) post by rw [← HNx.out]; exact HPw.out)
            go_wp2
            exact ⟨⟨B + 1, by go_num, by omega, HPw.out, HB.out, HBw.out⟩, by simp [intOf]; omega⟩
          | succ gh =>
            have z1 : (k : Int) < 64 := by omega
            have z0 : (0 : Int) ≤ k := by omega
            have HE := Lib.hid (show k + 1 + gh = 64 by omega)
            have hk2 : k < 64 := by omega
            obtain ⟨⟨h1, h2⟩, p1, p2⟩ := HPs.out B k hB2 hk2
            have x1 := HSc.out _ HB.out (psT f g a ((B : Int) + 1) k) h2
            have c1 := HPw.out.cell (k := psT f g a ((B : Int) + 1) k) (by rw [HLn.out]; exact h2)
            have f1 := HPw.out.frozen (pre.length + psT f g a ((B : Int) + 1) k)
            have hst := HSt.out B k
            have hll := HLn.out B k
            obtain ⟨q1, q2⟩ := HQw.out
            have hfl := HQ.out
            generalize fs[psT f g a ((B : Int) + 1) k]?.getD 0 = z at *
            generalize psT f g a ((B : Int) + 1) k = N at *
            generalize pA f g a ((B : Int) + 1) = P at *
            generalize pW f g a ((B : Int) + 1) = q at *
            obtain ⟨r, hr⟩ : ∃ r, r = k % 8 := ⟨_, rfl⟩
            obtain ⟨c, hc⟩ : ∃ c, c = k / 8 := ⟨_, rfl⟩
            rw [← hr, ← hc] at h1
            obtain ⟨T, hT⟩ : ∃ T, (c : Int) * q = T := ⟨_, rfl⟩
            rw [hT] at h1
            have e1 : Int.tmod (k : Int) 8 = (r : Int) := by rw [Int.tmod_eq_emod_of_nonneg (by omega)]; omega
            have e2 : Int.tdiv (k : Int) 8 = (c : Int) := by rw [Int.tdiv_eq_ediv_of_nonneg (by omega)]; omega
            have i1 : (N : Int) < (zl : Int) := by omega
            have i2 : -2000000 ≤ T := by omega
            have i3 : T ≤ 2000000 := by omega
            have i4 : (r : Int) < 8 := by omega
            have i5 : (c : Int) < 8 := by omega
            have i6 : P ≤ 1000000 := by omega
            have HSk := Lib.hid hst
            have HLk := Lib.hid (show N < (PT B k).length by rw [hll]; exact h2)
            clear hst hll h2 hr hc hfl hk
            go_wp2_with fail
            go_roundg gh
            case measure => omega
            case rel => exact ⟨k + 1, HE.out, by go_num, by rw [← HSk.out]; exact HPw.out.set HLk.out z, HB.out.setCell (p := ⟨G, pre.length + N, none⟩) (fun _ => rfl) _, spotAt_set HBw.out (by simp; omega) _⟩
      · obtain rfl : B = 6 := by omega
        go_wp2_with fail
        go_ret
        exact ⟨rfl, HPw.out, HB.out⟩
  · have hL : cpL f g a zs fs = zs := if_neg hE
    rw [hL]
    have HEnd : Hid (∀ W', Below W.heap.size W W' → PicW W' G pre zs post ∧ Bar (fun k => k = G) W W') := fun W' hb => ⟨HP.out.below hb hGlt, bar_of_below hb⟩
    have t1 : (cpE f g a zs.length fs.length != 0) = true := by simpa using hE
    clear hL hsc hne hE
    generalize cpE f g a zs.length fs.length = ce at *
    generalize zs.length = zl at *
    go_enter Try.func27, Try.ntmps27
    go_wp2_with fail
    refine HRf.out.mono ?_
    rintro e W3 ⟨rfl, hb⟩
    have B3 := Lib.hid (below_chain B2.out (Nat.le_refl _) hb)
    clear hb c0 c1 c2
    go_wp2_with fail
    go_ret
    exact ⟨rfl, HEnd.out _ B3.out⟩

end Go.Proofs.Ytenplmmongphoaa
