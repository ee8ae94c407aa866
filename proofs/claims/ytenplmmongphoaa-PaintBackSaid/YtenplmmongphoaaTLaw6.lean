/- paint: the walk of PaintBack (praxinoscopelaw16). -/
import Derived.Test.YtenplmmongphoaaTLaw3
import Derived.Test.YtenplmmongphoaaTLaw4
import Derived.Test.YtenplmmongphoaaTLaw5
import Derived.Test.YtenplmmongphoaaTCopy
import Derived.Test.YtenplmmongphoaaMGet
namespace Go.Proofs.Ytenplmmongphoaa
open Go.RowKit Go.Shelf Go.Sort
set_option linter.unusedVariables false

theorem picW_bytR {W : World} {b : Nat} {zs : List UInt8} (h : BytR W b zs) : PicW W b [] zs [] := by
  unfold BytR at h
  unfold PicW
  rw [h]
  simp

set_option maxRecDepth 100000 in
set_option maxHeartbeats 4000000 in
theorem back16_walk (I : PaintI) (f g a b o p q : Int) (x y : UInt8) (hp : I64 p) (hq : I64 q) (w : World) :
    Calls Try.prog 6 #[.int .i64 f, .int .i64 g, .int .i64 a, .int .i64 b, .int .i64 o, .int .i64 p, .int .i64 q, .int .u8 x.toNat, .int .u8 y.toNat] w fun e w' => e = .returned (.bool true) ∧ Below w.heap.size w w' := by
  have HK := Lib.hid (fun W => known16_any I W)
  have HSp := Lib.hid (fun W => kspot_any f g a W)
  have HPb := Lib.hid (fun W => pick_any b 6 W (by omega) (by omega))
  have HPo := Lib.hid (fun W => pick_any o 6 W (by omega) (by omega))
  have HSc := Lib.hid (fun F W => scene14_any F p q hp hq W)
  have HSx := Lib.hid (fun W => same16_any x W)
  have HSy := Lib.hid (fun W => same16_any y W)
  obtain ⟨i, hi, hi2⟩ : ∃ i : Nat, b % 6 = (i : Int) ∧ i < 6 := ⟨(b % 6).toNat, by omega, by omega⟩
  obtain ⟨j, hj, hj2⟩ : ∃ j : Nat, o % 6 = (j : Int) ∧ j < 6 := ⟨(o % 6).toNat, by omega, by omega⟩
  rw [hi] at HPb
  rw [hj] at HPo
  clear hi hj hp hq
  obtain ⟨bv, hbv⟩ : ∃ bv, (i : Int) + 1 = bv := ⟨_, rfl⟩
  obtain ⟨ov, hov⟩ : ∃ ov, (j : Int) + 1 = ov := ⟨_, rfl⟩
  have hbv2 : IntKind.i64.wrap (1 + (i : Int)) = bv := by rw [IntKind.wrap_i64]; omega
  have hov2 : IntKind.i64.wrap (1 + (j : Int)) = ov := by rw [IntKind.wrap_i64]; omega
  have hbv3 : 1 + (i : Int) = bv := by omega
  have hov3 : 1 + (j : Int) = ov := by omega
  have hbo : 1 ≤ bv ∧ bv ≤ 6 ∧ 1 ≤ ov ∧ ov ≤ 6 := by omega
  have HBo := Lib.hid hbo
  have HBv := Lib.hid hbv
  have HOv := Lib.hid hov
  have HI := Lib.hid hi2
  have HJ := Lib.hid hj2
  have B0 := Lib.hid (Below.refl w.heap.size w)
  clear hbv hov hbo
  have a1 : (i : Int) < 6 := by omega
  have a2 : (j : Int) < 6 := by omega
  go_enter Try.func6, Try.ntmps6
  go_wp2_with fail
  refine (HK.out _).mono ?_
  rintro e W1 ⟨rfl, hb⟩
  have B1 := Lib.hid (below_chain B0.out (Nat.le_refl _) hb)
  have hs1 := hb.size
  clear hb
  go_wp2_with fail
  refine (HSp.out _).mono ?_
  rintro e W2 ⟨F, G, A, hc, hG, hA, rfl, hb⟩
  have B2 := Lib.hid (below_chain B1.out (Nat.le_refl _) hb)
  have hs2 := hb.size
  clear hb HSp HK
  obtain ⟨W3, hW3⟩ : ∃ W3, W2.alloc (.cells #[.int .i64 F, .int .i64 G, .int .i64 A] 37 (0, 0)) = W3 := ⟨_, rfl⟩
  have hb3 : Below W2.heap.size W2 W3 := by rw [← hW3]; exact (Below.refl _ W2).alloc (Nat.le_refl _) _
  have hbx : SpotAt W3 W2.heap.size F G A := ⟨_, by rw [← hW3]; exact World.alloc_heap_new W2 _⟩
  have B3 := Lib.hid (below_chain B2.out (Nat.le_refl _) hb3)
  have HX := Lib.hid hbx
  have hs3 : W3.heap.size = W2.heap.size + 1 := by rw [← hW3]; simp
  clear hb3 hbx
  go_wp2_with fail
  clear hW3
  refine (HPb.out _).mono ?_
  rintro e w' ⟨rfl, rfl⟩
  go_wp2_with fail
  refine (HPo.out _).mono ?_
  rintro e w' ⟨rfl, rfl⟩
  obtain ⟨c0, c1, c2⟩ := HX.out.cells
  go_wp2_with fail
  clear hbv2 hov2 hbv3 hov3 a1 a2 HPb HPo
  refine (HSc.out _ _).mono ?_
  rintro e W4 ⟨zs, hzl, rfl, hzs, hb⟩
  have B4 := Lib.hid (below_chain B3.out (Nat.le_refl _) hb)
  have HX := Lib.hid (HX.out.later hb)
  have HP := Lib.hid (picW_whole hzs)
  have hg1 := (Array.getElem?_eq_some_iff.1 hzs).1
  have hzl2 : zs.length ≤ 152064 := by
    obtain ⟨n, hn, hn2⟩ := sN_nat F
    omega
  clear hb hzs c0 c1 c2 HSc
  rw [hs3] at HP hg1 ⊢
  go_wp2_with fail
  refine (HSx.out _).mono ?_
  rintro e W5 ⟨rfl, hn, hb⟩
  have B5 := Lib.hid (below_chain B4.out (Nat.le_refl _) hb)
  have HX := Lib.hid (HX.out.later hb)
  have HP := Lib.hid (HP.out.below hb hg1)
  have H1 := Lib.hid hn
  have hs5 := hb.size
  have hl5 := hn.lt
  clear hb hn HSx
  go_wp2_with fail
  refine (HSy.out _).mono ?_
  rintro e W6 ⟨rfl, hn, hb⟩
  have B6 := Lib.hid (below_chain B5.out (Nat.le_refl _) hb)
  have HX := Lib.hid (HX.out.later hb)
  have HP := Lib.hid (HP.out.below hb HP.out.lt)
  have H1 := Lib.hid (H1.out.below hb hl5)
  have H2 := Lib.hid hn
  have hs6 := hb.size
  have hl6 := hn.lt
  clear hb hn HSy
  have n1 : w.heap.size ≤ W2.heap.size ∧ W2.heap.size + 1 < W4.heap.size ∧ W4.heap.size < W5.heap.size ∧ W5.heap.size < W6.heap.size := by omega
  have HN := Lib.hid n1
  have d12 : W4.heap.size ≠ W5.heap.size := by omega
  have c1 := H1.out.cell (k := 9) (by rw [same8_length]; omega)
  have f1 := H1.out.frozen 9
  have c2 := H2.out.cell (k := 54) (by rw [same8_length]; omega)
  have f2 := H2.out.frozen 54
  obtain ⟨x1, hx1⟩ : ∃ u : UInt8, x + 1 = u := ⟨_, rfl⟩
  obtain ⟨y1, hy1⟩ : ∃ u : UInt8, y + 3 = u := ⟨_, rfl⟩
  have ex : ((x.toNat : Int) + 1) % 256 = ((x1.toNat : Nat) : Int) := by
    rw [← hx1, UInt8.toNat_add]
    have : (1 : UInt8).toNat = 1 := rfl
    omega
  have ey : ((y.toNat : Int) + 3) % 256 = ((y1.toNat : Nat) : Int) := by
    rw [← hy1, UInt8.toNat_add]
    have : (3 : UInt8).toNat = 3 := rfl
    omega
  clear hx1 hy1
  have H1b := Lib.hid ((H1.out.set 9 x1).other (p := ⟨W5.heap.size, 54, none⟩) d12 (.int .u8 y1.toNat))
  have H2b := Lib.hid ((H2.out.other (p := ⟨W4.heap.size, 9, none⟩) (fun e => d12 e.symm) (.int .u8 x1.toNat)).set 54 y1)
  have HPb := Lib.hid ((HP.out.other (p := ⟨W4.heap.size, 9, none⟩) (by simp; omega) (.int .u8 x1.toNat)).other (p := ⟨W5.heap.size, 54, none⟩) (by simp; omega) (.int .u8 y1.toNat))
  have HXb := Lib.hid (spotAt_set (spotAt_set HX.out (p := ⟨W4.heap.size, 9, none⟩) (by simp; omega) (.int .u8 x1.toNat)) (p := ⟨W5.heap.size, 54, none⟩) (by simp; omega) (.int .u8 y1.toNat))
  have B7 := Lib.hid ((B6.out.setCell (p := ⟨W4.heap.size, 9, none⟩) (by simp; omega) (.int .u8 x1.toNat)).setCell (p := ⟨W5.heap.size, 54, none⟩) (by simp; omega) (.int .u8 y1.toNat))
  clear n1 hs1 hs2 hs3 hs5 hs6 hg1 hl5 hl6 H1 H2 HP HX
  generalize W2.heap.size = bs at *
  generalize W4.heap.size = o1 at *
  generalize W5.heap.size = o2 at *
  obtain ⟨one, hone⟩ : ∃ L, (same8 x).set 9 x1 = L := ⟨_, rfl⟩
  obtain ⟨two, htwo⟩ : ∃ L, (same8 y).set 54 y1 = L := ⟨_, rfl⟩
  have h1l : one.length = 64 := by rw [← hone, List.length_set, same8_length]
  have h2l : two.length = 64 := by rw [← htwo, List.length_set, same8_length]
  rw [hone] at H1b
  rw [htwo] at H2b
  clear hone htwo
  obtain ⟨e0, e1, e2⟩ := HXb.out.cells
  go_wp2_with fail
  clear c1 f1 c2 f2 ex ey e0 e1 e2 d12
  generalize (W6.setCell ⟨o1, 9, none⟩ (.int .u8 x1.toNat)).setCell ⟨o2, 54, none⟩ (.int .u8 y1.toNat) = W7 at *
  have hF := cE_F hc
  have iF : I64 F := by unfold I64; rcases hF with rfl | rfl <;> omega
  have iG : I64 G := by unfold I64; omega
  have iA : I64 A := by unfold I64; omega
  have ib : I64 bv := by have := HBo.out; unfold I64; omega
  have io : I64 ov := by have := HBo.out; unfold I64; omega
  have i0 : I64 0 := by unfold I64; omega
  obtain ⟨Z1, hZ1⟩ : ∃ Z, lyL F G A bv zs one = Z := ⟨_, rfl⟩
  obtain ⟨Z2, hZ2⟩ : ∃ Z, lyL F G A ov Z1 two = Z := ⟨_, rfl⟩
  have z1l : Z1.length = zs.length := by rw [← hZ1]; exact lyL_length _ _ _ _ _ _
  have z2l : Z2.length = zs.length := by rw [← hZ2, lyL_length]; exact z1l
  have hz1 : (Z1.length : Int) = sN F := by rw [z1l]; exact hzl
  have hz2 : (Z2.length : Int) = sN F := by rw [z2l]; exact hzl
  have q1 := laid_back (i := i) (zs := zs) (ss := one) hc hi2 hzl h1l
  have q2 := laid_back (i := j) (zs := Z1) (ss := two) hc hj2 hz1 h2l
  have q3 := laid_twice (i := j) (zs := Z1) (ss := two) hc hj2 hz1 h2l
  have q4 := mL_own (i := i) (zs := Z2) hc hi2 hz2
  have q5 := mL_own (i := j) (zs := Z2) hc hj2 hz2
  have q6 : i ≠ j → ((List.range 64).map fun k => Z2[psT F G A ((i : Int) + 1) k]?.getD 0) = one := fun hij => by
    have h := laid_else (i := j) (j := i) (zs := Z1) (ss := two) hc hj2 hi2 (fun e => hij e.symm) hz1 h2l
    rw [HOv.out, hZ2] at h
    rw [h]
    have h2 := q1.2
    rw [HBv.out, hZ1] at h2
    rw [HBv.out]
    exact h2
  have q7 : i = j → bv = ov := fun e => by have := HBv.out; have := HOv.out; omega
  rw [HBv.out] at q1 q4 q6
  rw [HOv.out] at q2 q3 q5
  rw [hZ1] at q1
  rw [hZ2] at q2 q3
  have q8 : mL F G A ov 0 0 Z2 = two := by rw [q5.2]; exact q2.2
  have q9 : mL F G A bv 0 0 Z2 = if bv = ov then two else one := by
    by_cases e : i = j
    · rw [if_pos (q7 e), q7 e]; exact q8
    · rw [if_neg (by have := HBv.out; have := HOv.out; omega), q4.2]; exact q6 e
  have hlay : ∀ (W : World) (Z ss : List UInt8) (ob : Nat) (c : Int), Z.length = zs.length → ss.length = 64 → I64 c → lyE F G A c Z.length ss.length = 0 → PicW W (bs + 1) [] Z [] → BytR W ob ss → ob ≠ bs + 1 → Calls Try.prog 24 #[.slice (some ⟨bs + 1, 0, none⟩) zs.length zs.length, spotV F G A, .int .i64 c, .slice (some ⟨ob, 0, none⟩) 64 64] W fun e W' => e = .returned (.int .i64 0) ∧ PicW W' (bs + 1) [] (lyL F G A c Z ss) [] ∧ Bar (fun k => k = bs + 1) W W' := fun W Z ss ob c hz hs ic hE hp hn hne => by
    have := I.lay (cap := zs.length) F G A c hp (by omega) (by omega) (hn.byt hs (by omega)) (Nat.le_refl _) (fun e => hne (by simpa [Value.ownBlock] using e)) ⟨_, _, _, rfl, Nat.le_refl _⟩ iF iG iA ic
    rw [hE, hz] at this
    exact this
  have HL1 : Hid (∀ W, PicW W (bs + 1) [] zs [] → BytR W o1 one → _) := Lib.hid (fun W hp hn => hlay W zs one o1 bv rfl h1l ib q1.1 hp hn (by have := HN.out; omega))
  have HL2 : Hid (∀ W, PicW W (bs + 1) [] Z1 [] → BytR W o2 two → _) := Lib.hid (fun W hp hn => hlay W Z1 two o2 ov z1l h2l io q2.1 hp hn (by have := HN.out; omega))
  have HL3 : Hid (∀ W, PicW W (bs + 1) [] Z2 [] → BytR W o2 two → _) := Lib.hid (fun W hp hn => hlay W Z2 two o2 ov z2l h2l io (by have := q2.1; rw [z1l] at this; rw [z2l]; exact this) hp hn (by have := HN.out; omega))
  rw [hZ1] at HL1
  rw [hZ2] at HL2
  rw [q3] at HL3
  have HCo : Hid (∀ W, PicW W (bs + 1) [] Z2 [] → Calls Try.prog 34 #[.slice (some ⟨bs + 1, 0, none⟩) zs.length zs.length] W fun e w' => ∃ v, e = .returned v ∧ w'.ownsRow W.heap.size 5 1 v Z2.length (u8s Z2) ∧ Below W.heap.size W w') := fun W hp => by
    have := copyBytes_any (w := W) (a := some ⟨bs + 1, 0, none⟩) (cap := zs.length) (zs := Z2) (picW_src hp) (fun e => nomatch e) (by omega)
    rw [z2l] at this ⊢
    exact this
  have HFt : Hid (∀ (W : World) (c : Int) (L : List UInt8), (c = bv ∧ L = (if bv = ov then two else one)) ∨ (c = ov ∧ L = two) → PicW W (bs + 1) [] Z2 [] → Calls Try.prog 35 #[.slice (some ⟨bs + 1, 0, none⟩) zs.length zs.length, spotV F G A, .int .i64 c, .int .i64 0, .int .i64 0] W fun e W' => ∃ v, e = .returned (.tuple #[v, .int .i64 0]) ∧ W'.ownsRow W.heap.size 5 1 v 64 (u8s L) ∧ Below W.heap.size W W') := fun W c L hcL hp => by
    have ic : I64 c := by rcases hcL with ⟨rfl, -⟩ | ⟨rfl, -⟩ <;> assumption
    have hm : mE F G A c 0 0 Z2.length = 0 ∧ mL F G A c 0 0 Z2 = L := by
      rcases hcL with ⟨rfl, rfl⟩ | ⟨rfl, rfl⟩
      · exact ⟨q4.1, q9⟩
      · exact ⟨q5.1, q8⟩
    have hL : L.length = 64 := by
      rcases hcL with ⟨-, rfl⟩ | ⟨-, rfl⟩
      · split <;> assumption
      · exact h2l
    have hb := hp.byt hp.lt (by omega) zs.length
    rw [z2l] at hb
    have := mfetch_any F G A c 0 0 hb (Nat.le_refl _) ⟨_, _, _, rfl, Nat.le_refl _⟩ iF iG iA ic i0 i0
    rw [hm.1, hm.2, hL] at this
    exact this
  have HZl := Lib.hid z2l
  have HH := Lib.hid (And.intro h1l h2l)
  clear hlay q1 q2 q3 q4 q5 q6 q7 q8 q9 iF iG iA ib io i0 hF hc hG hA hzl hz1 hz2 z1l z2l hZ1 hZ2 h1l h2l hi2 hj2 HBv HOv HI HJ
  refine (HL1.out _ HPb.out H1b.out).mono ?_
  rintro e W8 ⟨rfl, hp, hb⟩
  have B8 := Lib.hid (B7.out.trans (hb.below B7.out.size (fun k hk e => by have := HN.out; omega)))
  have HP := Lib.hid hp
  have H1 := Lib.hid (H1b.out.bar hb (by have := HN.out; omega))
  have H2 := Lib.hid (H2b.out.bar hb (by have := HN.out; omega))
  have HX := Lib.hid (spotAt_bar HXb.out hb (by omega))
  clear hp hb HL1 HPb H1b H2b HXb
  obtain ⟨e0, e1, e2⟩ := HX.out.cells
  go_wp2_with fail
  refine (HL2.out _ HP.out H2.out).mono ?_
  rintro e W9 ⟨rfl, hp, hb⟩
  have B9 := Lib.hid (B8.out.trans (hb.below B8.out.size (fun k hk e => by have := HN.out; omega)))
  have HP := Lib.hid hp
  have H1 := Lib.hid (H1.out.bar hb (by have := HN.out; omega))
  have H2 := Lib.hid (H2.out.bar hb (by have := HN.out; omega))
  have HX := Lib.hid (spotAt_bar HX.out hb (by omega))
  clear hp hb HL2 e0 e1 e2
  obtain ⟨e0, e1, e2⟩ := HX.out.cells
  go_wp2_with fail
  refine (HCo.out _ HP.out).mono ?_
  rintro e W10 ⟨vc, rfl, ho, hb⟩
  have B10 := Lib.hid (below_chain B9.out (Nat.le_refl _) hb)
  have hpl := HP.out.lt
  have HO := Lib.hid ho
  have HP := Lib.hid (HP.out.below hb HP.out.lt)
  have H1 := Lib.hid (H1.out.below hb H1.out.lt)
  have H2 := Lib.hid (H2.out.below hb H2.out.lt)
  have HX := Lib.hid (HX.out.later hb)
  clear ho hb HCo e0 e1 e2
  obtain ⟨e0, e1, e2⟩ := HX.out.cells
  go_wp2_with fail
  refine (HL3.out _ HP.out H2.out).mono ?_
  rintro e W11 ⟨rfl, hp, hb⟩
  have B11 := Lib.hid (B10.out.trans (hb.below B10.out.size (fun k hk e => by have := HN.out; omega)))
  have HP := Lib.hid hp
  have H1 := Lib.hid (H1.out.bar hb (by have := HN.out; omega))
  have H2 := Lib.hid (H2.out.bar hb (by have := HN.out; omega))
  have HX := Lib.hid (spotAt_bar HX.out hb (by omega))
  have HO := Lib.hid (ownsRow_bar HO.out hb (fun k e e' => by have := (HO.out.lt k e).1; omega))
  have HSm := Lib.hid (same_any (byt_own HO.out (by rw [HZl.out]; omega) (Nat.le_refl _)) (HP.out.byt HP.out.lt (by rw [HZl.out]; omega) zs.length))
  rw [HZl.out] at HSm
  simp only [decide_true] at HSm
  clear hp hb HL3 e0 e1 e2 hpl HO
  obtain ⟨e0, e1, e2⟩ := HX.out.cells
  go_wp2_with fail
  refine HSm.out.mono ?_
  rintro e w' ⟨rfl, rfl⟩
  clear HSm
  go_wp2_with fail
  refine (HFt.out _ _ _ (.inl ⟨rfl, rfl⟩) HP.out).mono ?_
  rintro e W12 ⟨lv, rfl, ho, hb⟩
  have B12 := Lib.hid (below_chain B11.out (Nat.le_refl _) hb)
  have HO := Lib.hid ho
  have HP := Lib.hid (HP.out.below hb HP.out.lt)
  have H1 := Lib.hid (H1.out.below hb H1.out.lt)
  have H2 := Lib.hid (H2.out.below hb H2.out.lt)
  have HX := Lib.hid (HX.out.later hb)
  clear ho hb e0 e1 e2
  obtain ⟨e0, e1, e2⟩ := HX.out.cells
  go_wp2_with fail
  refine (HFt.out _ _ _ (.inr ⟨rfl, rfl⟩) HP.out).mono ?_
  rintro e W13 ⟨mv, rfl, ho, hb⟩
  have B13 := Lib.hid (below_chain B12.out (Nat.le_refl _) hb)
  have HO := Lib.hid (ownsRow_belowN HO.out hb)
  have HM := Lib.hid ho
  have H1 := Lib.hid (H1.out.below hb H1.out.lt)
  have H2 := Lib.hid (H2.out.below hb H2.out.lt)
  obtain ⟨h1l, h2l⟩ := HH.out
  have S2 := Lib.hid (same_any (byt_own (by rw [h2l]; exact HM.out) (by omega) (Nat.le_refl _)) (H2.out.byt h2l (by omega)))
  simp only [decide_true] at S2
  clear ho hb e0 e1 e2 HX HP HFt HM
  by_cases hbo : bv = ov
  · rw [if_pos hbo] at HO
    have S1 := Lib.hid (same_any (byt_own (by rw [h2l]; exact HO.out) (by omega) (Nat.le_refl _)) (H2.out.byt h2l (by omega)))
    simp only [decide_true] at S1
    have t1 : (bv == ov) = true := by simpa using hbo
    clear HO H1 H2 hbo h1l h2l
    go_wp2_with fail
    refine S1.out.mono ?_
    rintro e w' ⟨rfl, rfl⟩
    go_wp2_with fail
    refine S2.out.mono ?_
    rintro e w' ⟨rfl, rfl⟩
    go_wp2
    go_ret
    exact ⟨rfl, B13.out⟩
  · rw [if_neg hbo] at HO
    have S1 := Lib.hid (same_any (byt_own (by rw [h1l]; exact HO.out) (by omega) (Nat.le_refl _)) (H1.out.byt h1l (by omega)))
    simp only [decide_true] at S1
    have t1 : (bv == ov) = false := by simpa using hbo
    clear HO H1 H2 hbo h1l h2l
    go_wp2_with fail
    refine S1.out.mono ?_
    rintro e w' ⟨rfl, rfl⟩
    go_wp2_with fail
    refine S2.out.mono ?_
    rintro e w' ⟨rfl, rfl⟩
    go_wp2
    go_ret
    exact ⟨rfl, B13.out⟩

end Go.Proofs.Ytenplmmongphoaa
