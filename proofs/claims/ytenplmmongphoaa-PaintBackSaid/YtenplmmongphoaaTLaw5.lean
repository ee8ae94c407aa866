/- paint: the walk of PaintAll (praxinoscopelaw16). -/
import Derived.Test.YtenplmmongphoaaTLaw
import Derived.Test.YtenplmmongphoaaTPic
import Derived.Test.YtenplmmongphoaaTPlain3
import Derived.Test.YtenplmmongphoaaMKit
namespace Go.Proofs.Ytenplmmongphoaa
open Go.RowKit Go.Shelf Go.Sort
set_option linter.unusedVariables false

/-- all spots ahead of this one were copied -/
def AllS (W0 : World) (s1 s2 : Nat) (F : Int) (fs : List UInt8) (gr ad : Int) (W : World) : Prop :=
  ∃ Z : List UInt8, Z.length = fs.length ∧ PicW W s1 [] Z [] ∧ PicW W s2 [] fs [] ∧ Below W0.heap.size W0 W ∧
    ∀ (G A : Int) (i j x : Nat), cE F G A = 0 → (G < gr ∨ (G = gr ∧ A < ad)) → i < 6 → j < 64 → psT F G A ((i : Int) + 1) j = x → Z[x]?.getD 0 = fs[x]?.getD 0
theorem cE_parts {F G A : Int} (h : cE F G A = 0) : isG F G = true ∧ 1 ≤ A ∧ A ≤ 33 := by
  unfold cE at h
  by_cases e : isF F = true
  · rw [if_pos e] at h
    by_cases e2 : isG F G = true
    · rw [if_pos e2] at h
      by_cases e3 : 1 ≤ A ∧ A ≤ 33
      · exact ⟨e2, e3⟩
      · rw [if_neg e3] at h; omega
    · rw [if_neg e2] at h; omega
  · rw [if_neg e] at h; omega
theorem AllS.skip {W0 W : World} {s1 s2 : Nat} {F : Int} {fs : List UInt8} {gr : Int} (h : AllS W0 s1 s2 F fs gr 1 W) (hn : isG F gr = false) : AllS W0 s1 s2 F fs (gr + 1) 1 W := by
  obtain ⟨Z, h1, h2, h3, h4, h5⟩ := h
  refine ⟨Z, h1, h2, h3, h4, fun G A i j x hc hg hi hj e => h5 G A i j x hc ?_ hi hj e⟩
  obtain ⟨c1, c2, c3⟩ := cE_parts hc
  by_cases e2 : G = gr
  · rw [e2, hn] at c1; cases c1
  · omega
theorem AllS.next {W0 W : World} {s1 s2 : Nat} {F : Int} {fs : List UInt8} {gr : Int} (h : AllS W0 s1 s2 F fs gr 34 W) : AllS W0 s1 s2 F fs (gr + 1) 1 W := by
  obtain ⟨Z, h1, h2, h3, h4, h5⟩ := h
  refine ⟨Z, h1, h2, h3, h4, fun G A i j x hc hg hi hj e => h5 G A i j x hc ?_ hi hj e⟩
  obtain ⟨c1, c2, c3⟩ := cE_parts hc
  omega
theorem isG_cE {F gr ad : Int} (h : isG F gr = true) (ha : 1 ≤ ad ∧ ad ≤ 33) : cE F gr ad = 0 := by
  have hf : isF F = true := by
    unfold isG at h
    unfold isF
    simp only [Bool.or_eq_true, Bool.and_eq_true, beq_iff_eq, decide_eq_true_eq] at h ⊢
    rcases h with ⟨h, -⟩ | ⟨⟨h, -⟩, -⟩
    · exact .inl h
    · exact .inr h
  unfold cE
  rw [if_pos hf, if_pos h, if_pos ha]
theorem AllS.copy (I : PaintI) {W0 W : World} {s1 s2 : Nat} {F : Int} {fs : List UInt8} {gr ad : Int} (h : AllS W0 s1 s2 F fs gr ad W) (hs1 : W0.heap.size ≤ s1) (hne : s1 ≠ s2) (hl : (fs.length : Int) = sN F) (hl2 : fs.length ≤ 152064) (hg : isG F gr = true) (ha : 1 ≤ ad ∧ ad ≤ 33) (hgr : 1 ≤ gr ∧ gr ≤ 12) (hF : F = 0 ∨ F = 1) :
    Calls Try.prog 26 #[.slice (some ⟨s1, 0, none⟩) fs.length fs.length, .slice (some ⟨s2, 0, none⟩) fs.length fs.length, .agg #[.int .i64 F, .int .i64 gr, .int .i64 ad]] W fun e W' => e = .returned (.int .i64 0) ∧ AllS W0 s1 s2 F fs gr (ad + 1) W' := by
  obtain ⟨Z, h1, h2, h3, h4, h5⟩ := h
  have hc := isG_cE hg ha
  have hE : cpE F gr ad Z.length fs.length = 0 := by unfold cpE; rw [if_pos hc, h1, if_pos ⟨hl, hl⟩]
  have := I.copy (cap := fs.length) F gr ad h2 (by omega) (by omega) (by omega) (h3.byt h3.lt (by omega) fs.length) (Nat.le_refl _) (fun e => hne (by simpa [Value.ownBlock, eq_comm] using e)) ⟨_, _, _, rfl, Nat.le_refl _⟩ (by unfold I64; omega) (by unfold I64; omega) (by unfold I64; omega)
  rw [hE, h1] at this
  refine this.mono ?_
  rintro e W' ⟨rfl, hp, hb⟩
  have hL : cpL F gr ad Z fs = cpN F gr ad Z fs 6 := if_pos hE
  rw [hL] at hp
  refine ⟨rfl, _, (cpN_length _ _ _ _ _ _).trans h1, hp, h3.bar hb (fun e => hne e.symm), h4.trans (hb.below h4.size (fun k hk e => by omega)), fun G A i j x hc2 hgA hi hj e => ?_⟩
  obtain ⟨q1, q2⟩ := cpN_at (f := F) (g := gr) (a := ad) (zs := Z) (fs := fs) (B := 6) (fun i k hi hk => by rw [h1]; exact psT_lt hc hi hk hl) x
  by_cases hx : ∃ i k : Nat, i < 6 ∧ k < 64 ∧ psT F gr ad ((i : Int) + 1) k = x
  · exact q1 hx
  · rw [q2 (fun i k hi hk e2 => hx ⟨i, k, hi, hk, e2⟩)]
    refine h5 G A i j x hc2 ?_ hi hj e
    by_cases e2 : G = gr ∧ A = ad
    · obtain ⟨rfl, rfl⟩ := e2
      exact absurd ⟨i, j, hi, hj, e⟩ hx
    · omega
theorem AllS.whole {W0 W : World} {s1 s2 : Nat} {F : Int} {fs : List UInt8} (h : AllS W0 s1 s2 F fs 13 1 W) (hl : (fs.length : Int) = sN F) : PicW W s1 [] fs [] ∧ PicW W s2 [] fs [] ∧ Below W0.heap.size W0 W := by
  obtain ⟨Z, h1, h2, h3, h4, h5⟩ := h
  have : Z = fs := listB_ext h1 rfl (fun x hx => by
    obtain ⟨G, A, i, j, hc, hG, hi, hj, e⟩ := psT_all hl hx
    have hv := h5 G A i j x hc (.inl (by omega)) hi hj e
    rw [List.getElem?_eq_getElem (by omega), List.getElem?_eq_getElem hx] at hv ⊢
    simpa using hv)
  rw [this] at h2
  exact ⟨h2, h3, h4⟩
theorem picW_whole {w : World} {g : Nat} {zs : List UInt8} (h : w.heap[g]? = some (.cells (u8s zs).toArray 5 (0, 0))) : PicW w g [] zs [] := by
  unfold PicW
  rw [h]
  simp

set_option maxRecDepth 100000 in
set_option maxHeartbeats 4000000 in
theorem all16_walk (I : PaintI) (f p q r : Int) (hp : I64 p) (hq : I64 q) (hr : I64 r) (w : World) :
    Calls Try.prog 8 #[.int .i64 f, .int .i64 p, .int .i64 q, .int .i64 r] w fun e w' => e = .returned (.bool true) ∧ Below w.heap.size w w' := by
  have HAw := Lib.hid (fun W => awake16_any I W)
  have HP2 := Lib.hid (fun W => pick_any f 2 W (by omega) (by omega))
  have hF : f % 2 = 0 ∨ f % 2 = 1 := by omega
  have HSc1 := Lib.hid (fun W => scene14_any (f % 2) p q hp hq W)
  have HSc2 := Lib.hid (fun W => scene14_any (f % 2) r q hr hq W)
  clear hp hq hr
  generalize f % 2 = F at *
  go_enter Try.func8, Try.ntmps8
  go_wp2_with fail
  refine (HAw.out _).mono ?_
  rintro e W1 ⟨rfl, hb⟩
  have B1 := Lib.hid hb
  have hs1 := hb.size
  clear hb
  go_wp2_with fail
  refine (HP2.out _).mono ?_
  rintro e w' ⟨rfl, rfl⟩
  go_wp2_with fail
  refine (HSc1.out _).mono ?_
  rintro e W2 ⟨zs, hzl, rfl, hzs, hb⟩
  have B2 := Lib.hid (below_chain B1.out (Nat.le_refl _) hb)
  have HZ := Lib.hid (picW_whole hzs)
  have hg1 := (Array.getElem?_eq_some_iff.1 hzs).1
  clear hb hzs
  go_wp2_with fail
  refine (HSc2.out _).mono ?_
  rintro e W3 ⟨fs, hfl, rfl, hfs, hb⟩
  have hlz : zs.length = fs.length := by omega
  have hfl2 : fs.length ≤ 152064 := by
    obtain ⟨n, hn, hn2⟩ := sN_nat F
    omega
  have HS : Hid (AllS w W1.heap.size W2.heap.size F fs 1 1 W3) := ⟨zs, hlz, HZ.out.below hb hg1, picW_whole hfs, below_chain B2.out (Nat.le_refl _) hb, fun G A i j x hc hg hi hj e => by
    obtain ⟨c1, c2, c3⟩ := cE_parts hc
    have : 1 ≤ G := by
      unfold isG at c1
      simp only [Bool.or_eq_true, Bool.and_eq_true, beq_iff_eq, decide_eq_true_eq] at c1
      omega
    omega⟩
  have hne : W1.heap.size ≠ W2.heap.size := by omega
  have HCp : Hid (∀ gr ad W, AllS w W1.heap.size W2.heap.size F fs gr ad W → isG F gr = true → (1 ≤ ad ∧ ad ≤ 33) → (1 ≤ gr ∧ gr ≤ 12) → _) := Lib.hid (fun gr ad W h hg ha hgr => h.copy I hs1 hne hfl hfl2 hg ha hgr hF)
  have HEnd : Hid (∀ W, AllS w W1.heap.size W2.heap.size F fs 13 1 W → Calls Try.prog 16 #[.slice (some ⟨W1.heap.size, 0, none⟩) fs.length fs.length, .slice (some ⟨W2.heap.size, 0, none⟩) fs.length fs.length] W (fun e w' => e = .returned (.bool true) ∧ W = w') ∧ Below w.heap.size w W) := fun W h => by
    obtain ⟨h1, h2, h3⟩ := h.whole hfl
    have := same_any (h1.byt h1.lt (by omega) fs.length) (h2.byt h2.lt (by omega) fs.length)
    simp only [decide_true] at this
    exact ⟨this, h3⟩
  rw [hlz]
  have HFd := Lib.hid hF
  clear hb hfs hlz hfl hfl2 hne hg1 hs1 HZ B1 B2 HSc1 HSc2 HP2 HAw hzl hF
  generalize W1.heap.size = s1 at *
  generalize W2.heap.size = s2 at *
  generalize fs.length = fl at *
  go_wp2_with fail
  go_loopw [12] (fun gv wr => ∃ k : Nat, gv = .int .i64 ((k : Int) + 1) ∧ k ≤ 12 ∧ AllS w s1 s2 F fs ((k : Int) + 1) 1 wr) (fun gv _ => 13 - (intOf gv).toNat)
  case atStart => exact ⟨0, rfl, by omega, HS.out⟩
  case round =>
    obtain ⟨k, rfl, hk, hs⟩ := hrel
    have HS := Lib.hid hs
    clear hs
    by_cases hk2 : k < 12
    · have z1 : (k : Int) + 1 ≤ 12 := by omega
      have z0 : (0 : Int) ≤ k := by omega
      by_cases hG : isG F ((k : Int) + 1) = true
      · rcases HFd.out with rfl | rfl
        · have z2 : ¬ (5 < (k : Int) + 1) ∧ Int.tmod ((k : Int) + 1) 2 = 1 := by
            have h := hG
            unfold isG at h
            simp at h
            rw [Int.tmod_eq_emod_of_nonneg (by omega)]
            omega
          obtain ⟨z2, z3⟩ := z2
          go_wp2_with fail
          clear z2 z3
          go_loopg [13] 33 (fun gh av wy => ∃ j : Nat, j + gh = 33 ∧ av = .int .i64 ((j : Int) + 1) ∧ AllS w s1 s2 0 fs ((k : Int) + 1) ((j : Int) + 1) wy)
          case atStart => exact ⟨0, by omega, rfl, HS.out⟩
          case round =>
            obtain ⟨j, hj, rfl, hs⟩ := hrel
            have HS := Lib.hid hs
            clear hs
            cases gk with
            | zero =>
              obtain rfl : j = 33 := by omega
              have HN := Lib.hid (show AllS w s1 s2 0 fs (((k + 1 : Nat) : Int) + 1) 1 wr by
                have := HS.out.next
                rw [show (k : Int) + 1 + 1 = ((k + 1 : Nat) : Int) + 1 by omega] at this
                exact this)
              have z3 : ¬ (((33 : Nat) : Int) + 1 ≤ 33) := by omega
              go_wp2_with fail
              exact ⟨⟨k + 1, by go_num, by omega, HN.out⟩, by simp [intOf]; omega⟩
            | succ gh =>
              have HE := Lib.hid (show j + 1 + gh = 33 by omega)
              have z3 : (j : Int) + 1 ≤ 33 := by omega
              have z4 : (0 : Int) ≤ j := by omega
              have HC := Lib.hid (HCp.out ((k : Int) + 1) ((j : Int) + 1) wr HS.out hG ⟨by omega, by omega⟩ ⟨by omega, by omega⟩)
              clear hj HS
              go_wp2_with fail
              refine HC.out.mono ?_
              rintro e W5 ⟨rfl, hs⟩
              have HS := Lib.hid hs
              clear hs HC
              go_wp2_with fail
              go_roundg gh
              case measure => omega
              case rel => exact ⟨j + 1, HE.out, by go_num, by
                have := HS.out
                rw [show (j : Int) + 1 + 1 = ((j + 1 : Nat) : Int) + 1 by omega] at this
                exact this⟩
        · go_wp2_with fail
          go_loopg [13] 33 (fun gh av wy => ∃ j : Nat, j + gh = 33 ∧ av = .int .i64 ((j : Int) + 1) ∧ AllS w s1 s2 1 fs ((k : Int) + 1) ((j : Int) + 1) wy)
          case atStart => exact ⟨0, by omega, rfl, HS.out⟩
          case round =>
            obtain ⟨j, hj, rfl, hs⟩ := hrel
            have HS := Lib.hid hs
            clear hs
            cases gk with
            | zero =>
              obtain rfl : j = 33 := by omega
              have HN := Lib.hid (show AllS w s1 s2 1 fs (((k + 1 : Nat) : Int) + 1) 1 wr by
                have := HS.out.next
                rw [show (k : Int) + 1 + 1 = ((k + 1 : Nat) : Int) + 1 by omega] at this
                exact this)
              have z3 : ¬ (((33 : Nat) : Int) + 1 ≤ 33) := by omega
              go_wp2_with fail
              exact ⟨⟨k + 1, by go_num, by omega, HN.out⟩, by simp [intOf]; omega⟩
            | succ gh =>
              have HE := Lib.hid (show j + 1 + gh = 33 by omega)
              have z3 : (j : Int) + 1 ≤ 33 := by omega
              have z4 : (0 : Int) ≤ j := by omega
              have HC := Lib.hid (HCp.out ((k : Int) + 1) ((j : Int) + 1) wr HS.out hG ⟨by omega, by omega⟩ ⟨by omega, by omega⟩)
              clear hj HS
              go_wp2_with fail
              refine HC.out.mono ?_
              rintro e W5 ⟨rfl, hs⟩
              have HS := Lib.hid hs
              clear hs HC
              go_wp2_with fail
              go_roundg gh
              case measure => omega
              case rel => exact ⟨j + 1, HE.out, by go_num, by
                have := HS.out
                rw [show (j : Int) + 1 + 1 = ((j + 1 : Nat) : Int) + 1 by omega] at this
                exact this⟩
      · have hG2 : isG F ((k : Int) + 1) = false := by simpa using hG
        rcases HFd.out with rfl | rfl
        · by_cases z2 : 5 < (k : Int) + 1
          · have HN := Lib.hid (show AllS w s1 s2 0 fs (((k + 1 : Nat) : Int) + 1) 1 wr by
              have := HS.out.skip hG2
              rw [show (k : Int) + 1 + 1 = ((k + 1 : Nat) : Int) + 1 by omega] at this
              exact this)
            clear hG hG2 HS
            go_wp2_with fail
            go_roundw
            case rel => exact ⟨k + 1, by go_num, by omega, HN.out⟩
            case measure => simp [intOf]; omega
          · have HN := Lib.hid (show AllS w s1 s2 0 fs (((k + 1 : Nat) : Int) + 1) 1 wr by
              have := HS.out.skip hG2
              rw [show (k : Int) + 1 + 1 = ((k + 1 : Nat) : Int) + 1 by omega] at this
              exact this)
            have z3 : Int.tmod ((k : Int) + 1) 2 = 0 := by
              have h := hG2
              unfold isG at h
              simp at h
              rw [Int.tmod_eq_emod_of_nonneg (by omega)]
              omega
            clear hG hG2 HS
            go_wp2_with fail
            go_roundw
            case rel => exact ⟨k + 1, by go_num, by omega, HN.out⟩
            case measure => simp [intOf]; omega
        · exfalso
          unfold isG at hG2
          simp at hG2
          omega
    · obtain rfl : k = 12 := by omega
      obtain ⟨hE, hB⟩ := HEnd.out _ HS.out
      have HE := Lib.hid hE
      have HB := Lib.hid hB
      clear hE hB
      go_wp2_with fail
      refine HE.out.mono ?_
      rintro e w' ⟨rfl, rfl⟩
      go_wp2
      go_ret
      exact ⟨rfl, HB.out⟩

end Go.Proofs.Ytenplmmongphoaa
