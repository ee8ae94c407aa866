/- paint: the walk of PaintOnly (praxinoscopelaw16). -/
import Derived.Test.YtenplmmongphoaaTLaw3
import Derived.Test.YtenplmmongphoaaTLaw4
import Derived.Test.YtenplmmongphoaaTLaw5
import Derived.Test.YtenplmmongphoaaTOnly
import Derived.Test.YtenplmmongphoaaMGet
namespace Go.Proofs.Ytenplmmongphoaa
open Go.RowKit Go.Shelf Go.Sort
set_option linter.unusedVariables false

/-- what the region of the two scenes has told -/
structure OnlR (bs : Nat) (F p q r : Int) (W0 : World) (L : Nat → Bool) (x38 x39 x40 x41 x42 x43 x44 x45 x46 x47 x17 x18 : Value) (W : World) : Prop where
  b : Below W0.heap.size W0 W
  l0 : L 0 = true → x38 = .pointer (some ⟨bs, 0, none⟩)
  l1 : L 1 = true → x39 = .int .i64 F
  l2 : L 2 = true → x40 = .int .i64 p
  l3 : L 3 = true → x41 = .int .i64 q
  l4 : L 4 = true → ∃ zs g, ((zs.length : Nat) : Int) = sN F ∧ x42 = .slice (some ⟨g, 0, none⟩) zs.length zs.length ∧ W0.heap.size ≤ g ∧ W.heap[g]? = some (.cells (u8s zs).toArray 5 (0, 0))
  l5 : L 5 = true → x43 = .pointer (some ⟨bs, 0, none⟩)
  l6 : L 6 = true → x44 = .int .i64 F
  l7 : L 7 = true → x45 = .int .i64 r
  l8 : L 8 = true → x46 = .int .i64 q
  l9 : L 9 = true → ∃ zs g fs g', ((zs.length : Nat) : Int) = sN F ∧ x42 = .slice (some ⟨g, 0, none⟩) zs.length zs.length ∧ W0.heap.size ≤ g ∧ W.heap[g]? = some (.cells (u8s zs).toArray 5 (0, 0)) ∧ ((fs.length : Nat) : Int) = sN F ∧ x47 = .slice (some ⟨g', 0, none⟩) fs.length fs.length ∧ g < g' ∧ W.heap[g']? = some (.cells (u8s fs).toArray 5 (0, 0))
  l10 : L 10 = true → x17 = x42
  l11 : L 11 = true → x18 = x47
def OnlI (fr : Value → Value → Value → Value → Value → Value → Value → Value → Value → Value → Value → Value → Act) (bs : Nat) (F p q r : Int) (W0 : World) (L : Nat → Bool) (ac : Act) (W : World) : Prop :=
  ∃ x38 x39 x40 x41 x42 x43 x44 x45 x46 x47 x17 x18, ac = fr x38 x39 x40 x41 x42 x43 x44 x45 x46 x47 x17 x18 ∧ OnlR bs F p q r W0 L x38 x39 x40 x41 x42 x43 x44 x45 x46 x47 x17 x18 W

set_option maxRecDepth 100000 in
set_option maxHeartbeats 4000000 in
theorem only16_walk (I : PaintI) (f g a b p q r : Int) (hp : I64 p) (hq : I64 q) (hr : I64 r) (w : World) :
    Calls Try.prog 7 #[.int .i64 f, .int .i64 g, .int .i64 a, .int .i64 b, .int .i64 p, .int .i64 q, .int .i64 r] w fun e w' => e = .returned (.bool true) ∧ Below w.heap.size w w' := by
  have HK := Lib.hid (fun W => awake16_any I W)
  have HSp := Lib.hid (fun W => kspot_any f g a W)
  have HPb := Lib.hid (fun W => pick_any b 6 W (by omega) (by omega))
  have HSc1 := Lib.hid (fun F W => scene14_any F p q hp hq W)
  have HSc2 := Lib.hid (fun F W => scene14_any F r q hr hq W)
  obtain ⟨i, hi, hi2⟩ : ∃ i : Nat, b % 6 = (i : Int) ∧ i < 6 := ⟨(b % 6).toNat, by omega, by omega⟩
  rw [hi] at HPb
  clear hi hp hq hr
  obtain ⟨bv, hbv⟩ : ∃ bv, (i : Int) + 1 = bv := ⟨_, rfl⟩
  have hbv2 : IntKind.i64.wrap (1 + (i : Int)) = bv := by rw [IntKind.wrap_i64]; omega
  have hbv3 : 1 + (i : Int) = bv := by omega
  have hbo : 1 ≤ bv ∧ bv ≤ 6 := by omega
  have HBo := Lib.hid hbo
  have HBv := Lib.hid hbv
  have HI := Lib.hid hi2
  have B0 := Lib.hid (Below.refl w.heap.size w)
  clear hbv hbo
  have a1 : (i : Int) < 6 := by omega
  go_enter Try.func7, Try.ntmps7
  go_wp2_with fail
  refine (HK.out _).mono ?_
  rintro e W1 ⟨rfl, hb⟩
  have B1 := Lib.hid (below_chain B0.out (Nat.le_refl _) hb)
  have hs1 := hb.size
  clear hb
  go_wp2_with fail
  refine (HSp.out _).mono ?_
  rintro e W2 ⟨F, G, A, hc, hG, hA, rfl, hb⟩
  have B2 := Lib.hid (below_chain B1.out (Nat.le_refl _) hb)
  have hs2 := hb.size
  clear hb HSp HK
  obtain ⟨W3, hW3⟩ : ∃ W3, W2.alloc (.cells #[.int .i64 F, .int .i64 G, .int .i64 A] 37 (0, 0)) = W3 := ⟨_, rfl⟩
  have hb3 : Below W2.heap.size W2 W3 := by rw [← hW3]; exact (Below.refl _ W2).alloc (Nat.le_refl _) _
  have hbx : SpotAt W3 W2.heap.size F G A := ⟨_, by rw [← hW3]; exact World.alloc_heap_new W2 _⟩
  have B3 := Lib.hid (below_chain B2.out (Nat.le_refl _) hb3)
  have HX := Lib.hid hbx
  have hs3 : W3.heap.size = W2.heap.size + 1 := by rw [← hW3]; simp
  clear hb3 hbx
  go_wp2_with fail
  clear hW3
  refine (HPb.out _).mono ?_
  rintro e w' ⟨rfl, rfl⟩
  go_wp2_with fail
  clear hbv2 hbv3 a1 HPb
  have HXr : Hid (∀ Wr, Below W3.heap.size W3 Wr → SpotAt Wr W2.heap.size F G A) := fun Wr h => HX.out.later h
  clear HX
  refine wp_region_inv (by kernel_rfl) (by kernel_rfl) (by kernel_rfl) (OnlI (fun x38 x39 x40 x41 x42 x43 x44 x45 x46 x47 x17 x18 => { tmps := #[.int .i64 f, .int .i64 g, .int .i64 a, .int .i64 bv, .int .i64 p, .int .i64 q, .int .i64 r, undef, undef, undef, undef, undef, undef, undef, .bool false, .bool true, .pointer (some ⟨W2.heap.size, 0, none⟩), x17, x18, undef, undef, undef, undef, undef, undef, undef, undef, undef, undef, undef, .bool true, .int .i64 f, .int .i64 g, .int .i64 a, spotV F G A, .int .i64 b, .int .i64 (i : Int), .int .i64 bv, x38, x39, x40, x41, x42, x43, x44, x45, x46, x47, undef, undef, undef, undef, undef, undef, undef, undef, undef, undef, undef, undef, undef, undef, undef, undef, undef, undef, undef, undef, undef, undef, undef, undef, undef, undef, undef, undef, undef, undef, undef, undef, undef, undef, undef, undef, undef, undef, undef, undef, undef, undef, undef, undef, undef, undef, undef, undef, undef, undef, undef, undef, undef, undef, undef, undef, undef, undef, undef, undef, undef, undef, undef, undef, undef, undef, undef, undef, undef, undef, undef, undef, undef, undef, undef, undef, undef, undef, undef, undef, undef, undef, undef, undef, undef, undef, undef, undef, undef, undef, undef, undef, undef, undef, undef, undef, undef, undef, undef, undef, undef, undef, undef, undef, undef, undef, undef, undef, undef, undef, undef, undef, undef, undef, undef], defers := [] }) W2.heap.size F p q r W3) ?h0 ?st ?hd
  case h0 =>
    intro L hL
    have e : ∀ i, ¬ L i = true := fun i h => by rw [hL i] at h; cases h
    exact ⟨undef, undef, undef, undef, undef, undef, undef, undef, undef, undef, undef, undef, rfl, ⟨(Below.refl _ W3).drew, fun h => (e _ h).elim, fun h => (e _ h).elim, fun h => (e _ h).elim, fun h => (e _ h).elim, fun h => (e _ h).elim, fun h => (e _ h).elim, fun h => (e _ h).elim, fun h => (e _ h).elim, fun h => (e _ h).elim, fun h => (e _ h).elim, fun h => (e _ h).elim, fun h => (e _ h).elim⟩⟩
  case st =>
    refine ⟨?o0, ?o1, ?o2, ?o3, ?o4, ?o5, ?o6, ?o7, ?o8, ?o9, ?o10, ?o11, trivial⟩
    case o0 =>
      rintro L ac Wr hL hbe hcl ⟨x38, x39, x40, x41, x42, x43, x44, x45, x46, x47, x17, x18, rfl, hC⟩
      have HC := Lib.hid hC
      clear hC hbe
      go_simp
      exact ⟨_, x39, x40, x41, x42, x43, x44, x45, x46, x47, x17, x18, rfl, ⟨HC.out.b, fun _ => rfl, HC.out.l1, HC.out.l2, HC.out.l3, HC.out.l4, HC.out.l5, HC.out.l6, HC.out.l7, HC.out.l8, HC.out.l9, HC.out.l10, HC.out.l11⟩⟩
    case o1 =>
      rintro L ac Wr hL hbe hcl ⟨x38, x39, x40, x41, x42, x43, x44, x45, x46, x47, x17, x18, rfl, hC⟩
      obtain rfl := hC.l0 (hbe { on := 0, ground := .data } (by simp) rfl)
      obtain ⟨d0, d1, d2⟩ := (HXr.out _ hC.b).cells
      have HC := Lib.hid hC
      clear hC hbe
      go_simp
      exact ⟨_, _, x40, x41, x42, x43, x44, x45, x46, x47, x17, x18, rfl, ⟨HC.out.b, HC.out.l0, fun _ => rfl, HC.out.l2, HC.out.l3, HC.out.l4, HC.out.l5, HC.out.l6, HC.out.l7, HC.out.l8, HC.out.l9, HC.out.l10, HC.out.l11⟩⟩
    case o2 =>
      rintro L ac Wr hL hbe hcl ⟨x38, x39, x40, x41, x42, x43, x44, x45, x46, x47, x17, x18, rfl, hC⟩
      have HC := Lib.hid hC
      clear hC hbe
      go_simp
      exact ⟨x38, x39, _, x41, x42, x43, x44, x45, x46, x47, x17, x18, rfl, ⟨HC.out.b, HC.out.l0, HC.out.l1, fun _ => rfl, HC.out.l3, HC.out.l4, HC.out.l5, HC.out.l6, HC.out.l7, HC.out.l8, HC.out.l9, HC.out.l10, HC.out.l11⟩⟩
    case o3 =>
      rintro L ac Wr hL hbe hcl ⟨x38, x39, x40, x41, x42, x43, x44, x45, x46, x47, x17, x18, rfl, hC⟩
      have HC := Lib.hid hC
      clear hC hbe
      go_simp
      exact ⟨x38, x39, x40, _, x42, x43, x44, x45, x46, x47, x17, x18, rfl, ⟨HC.out.b, HC.out.l0, HC.out.l1, HC.out.l2, fun _ => rfl, HC.out.l4, HC.out.l5, HC.out.l6, HC.out.l7, HC.out.l8, HC.out.l9, HC.out.l10, HC.out.l11⟩⟩
    case o4 =>
      rintro L ac Wr hL hbe hcl ⟨x38, x39, x40, x41, x42, x43, x44, x45, x46, x47, x17, x18, rfl, hC⟩
      obtain rfl := hC.l1 (hbe { on := 1, ground := .data } (by simp) rfl)
      obtain rfl := hC.l2 (hbe { on := 2, ground := .data } (by simp) rfl)
      obtain rfl := hC.l3 (hbe { on := 3, ground := .data } (by simp) rfl)
      have H9 : Hid (L 9 = true → False) := fun h => by have := hcl 9 _ rfl h { on := 4, ground := .chain } (by simp) rfl; rw [hL] at this; cases this
      have H10 : Hid (L 10 = true → False) := fun h => by have := hcl 10 _ rfl h { on := 4, ground := .data } (by simp) rfl; rw [hL] at this; cases this
      have HC := Lib.hid hC
      clear hC hbe
      go_simp
      refine ⟨trivial, rfl, (callsIn_wide.2 (HSc1.out _ Wr)).mono ?_⟩
      rintro e W6 ⟨zs, hzl, rfl, hzs, hb⟩
      exact ⟨x38, _, _, _, _, x43, x44, x45, x46, x47, x17, x18, rfl, ⟨HC.out.b.trans (hb.mono HC.out.b.size), HC.out.l0, HC.out.l1, HC.out.l2, HC.out.l3, fun _ => ⟨zs, _, hzl, rfl, HC.out.b.size, hzs⟩, HC.out.l5, HC.out.l6, HC.out.l7, HC.out.l8, fun h => (H9.out h).elim, fun h => (H10.out h).elim, HC.out.l11⟩⟩
    case o5 =>
      rintro L ac Wr hL hbe hcl ⟨x38, x39, x40, x41, x42, x43, x44, x45, x46, x47, x17, x18, rfl, hC⟩
      have HC := Lib.hid hC
      clear hC hbe
      go_simp
      exact ⟨x38, x39, x40, x41, x42, _, x44, x45, x46, x47, x17, x18, rfl, ⟨HC.out.b, HC.out.l0, HC.out.l1, HC.out.l2, HC.out.l3, HC.out.l4, fun _ => rfl, HC.out.l6, HC.out.l7, HC.out.l8, HC.out.l9, HC.out.l10, HC.out.l11⟩⟩
    case o6 =>
      rintro L ac Wr hL hbe hcl ⟨x38, x39, x40, x41, x42, x43, x44, x45, x46, x47, x17, x18, rfl, hC⟩
      obtain rfl := hC.l5 (hbe { on := 5, ground := .data } (by simp) rfl)
      obtain ⟨d0, d1, d2⟩ := (HXr.out _ hC.b).cells
      have HC := Lib.hid hC
      clear hC hbe
      go_simp
      exact ⟨x38, x39, x40, x41, x42, _, _, x45, x46, x47, x17, x18, rfl, ⟨HC.out.b, HC.out.l0, HC.out.l1, HC.out.l2, HC.out.l3, HC.out.l4, HC.out.l5, fun _ => rfl, HC.out.l7, HC.out.l8, HC.out.l9, HC.out.l10, HC.out.l11⟩⟩
    case o7 =>
      rintro L ac Wr hL hbe hcl ⟨x38, x39, x40, x41, x42, x43, x44, x45, x46, x47, x17, x18, rfl, hC⟩
      have HC := Lib.hid hC
      clear hC hbe
      go_simp
      exact ⟨x38, x39, x40, x41, x42, x43, x44, _, x46, x47, x17, x18, rfl, ⟨HC.out.b, HC.out.l0, HC.out.l1, HC.out.l2, HC.out.l3, HC.out.l4, HC.out.l5, HC.out.l6, fun _ => rfl, HC.out.l8, HC.out.l9, HC.out.l10, HC.out.l11⟩⟩
    case o8 =>
      rintro L ac Wr hL hbe hcl ⟨x38, x39, x40, x41, x42, x43, x44, x45, x46, x47, x17, x18, rfl, hC⟩
      have HC := Lib.hid hC
      clear hC hbe
      go_simp
      exact ⟨x38, x39, x40, x41, x42, x43, x44, x45, _, x47, x17, x18, rfl, ⟨HC.out.b, HC.out.l0, HC.out.l1, HC.out.l2, HC.out.l3, HC.out.l4, HC.out.l5, HC.out.l6, HC.out.l7, fun _ => rfl, HC.out.l9, HC.out.l10, HC.out.l11⟩⟩
    case o9 =>
      rintro L ac Wr hL hbe hcl ⟨x38, x39, x40, x41, x42, x43, x44, x45, x46, x47, x17, x18, rfl, hC⟩
      obtain rfl := hC.l6 (hbe { on := 6, ground := .data } (by simp) rfl)
      obtain rfl := hC.l7 (hbe { on := 7, ground := .data } (by simp) rfl)
      obtain rfl := hC.l8 (hbe { on := 8, ground := .data } (by simp) rfl)
      have h4 : L 4 = true := hbe { on := 4, ground := .chain } (by simp) rfl
      obtain ⟨zs, g1, hzl, rfl, hg1, hz1⟩ := hC.l4 h4
      have H11 : Hid (L 11 = true → False) := fun h => by have := hcl 11 _ rfl h { on := 9, ground := .data } (by simp) rfl; rw [hL] at this; cases this
      have HC := Lib.hid hC
      clear hC hbe
      go_simp
      refine ⟨trivial, rfl, (callsIn_wide.2 (HSc2.out _ Wr)).mono ?_⟩
      rintro e W6 ⟨fs, hfl, rfl, hfs, hb⟩
      have hg1l := (Array.getElem?_eq_some_iff.1 hz1).1
      have hz2 := (hb.block _ hg1l).trans hz1
      exact ⟨x38, x39, x40, x41, _, x43, _, _, _, _, x17, x18, rfl, ⟨HC.out.b.trans (hb.mono HC.out.b.size), HC.out.l0, HC.out.l1, HC.out.l2, HC.out.l3, fun _ => ⟨zs, g1, hzl, rfl, hg1, hz2⟩, HC.out.l5, HC.out.l6, HC.out.l7, HC.out.l8, fun _ => ⟨zs, g1, fs, _, hzl, rfl, hg1, hz2, hfl, rfl, hg1l, hfs⟩, HC.out.l10, fun h => (H11.out h).elim⟩⟩
    case o10 =>
      rintro L ac Wr hL hbe hcl ⟨x38, x39, x40, x41, x42, x43, x44, x45, x46, x47, x17, x18, rfl, hC⟩
      have HC := Lib.hid hC
      clear hC hbe
      go_simp
      exact ⟨x38, x39, x40, x41, x42, x43, x44, x45, x46, x47, _, x18, rfl, ⟨HC.out.b, HC.out.l0, HC.out.l1, HC.out.l2, HC.out.l3, HC.out.l4, HC.out.l5, HC.out.l6, HC.out.l7, HC.out.l8, HC.out.l9, fun _ => rfl, HC.out.l11⟩⟩
    case o11 =>
      rintro L ac Wr hL hbe hcl ⟨x38, x39, x40, x41, x42, x43, x44, x45, x46, x47, x17, x18, rfl, hC⟩
      have HC := Lib.hid hC
      clear hC hbe
      go_simp
      exact ⟨x38, x39, x40, x41, x42, x43, x44, x45, x46, x47, x17, _, rfl, ⟨HC.out.b, HC.out.l0, HC.out.l1, HC.out.l2, HC.out.l3, HC.out.l4, HC.out.l5, HC.out.l6, HC.out.l7, HC.out.l8, HC.out.l9, HC.out.l10, fun _ => rfl⟩⟩
  case hd =>
    rintro L ac W5 hL ⟨x38, x39, x40, x41, x42, x43, x44, x45, x46, x47, x17, x18, rfl, hC⟩
    obtain ⟨zs, g1, fs, g2, hzl, e42, hg1, hz1, hfl, e47, hg12, hf1⟩ := hC.l9 (hL 9 (by decide))
    obtain rfl := hC.l10 (hL 10 (by decide))
    obtain rfl := hC.l11 (hL 11 (by decide))
    subst e42
    subst e47
    have B5 := Lib.hid (B3.out.trans (hC.b.mono B3.out.size))
    have HX := Lib.hid (HXr.out _ hC.b)
    have hgb : W2.heap.size < g1 := by omega
    have P1 := Lib.hid (picW_whole hz1)
    have P2 := Lib.hid (picW_whole hf1)
    clear hC hL hz1 hf1 HXr HSc1 HSc2
    have hF := cE_F hc
    have hzl2 : zs.length ≤ 152064 ∧ fs.length ≤ 152064 := by
      obtain ⟨n, hn, hn2⟩ := sN_nat F
      omega
    obtain ⟨hzm, hfm⟩ := hzl2
    have iF : I64 F := by unfold I64; rcases hF with rfl | rfl <;> omega
    have iG : I64 G := by unfold I64; omega
    have iA : I64 A := by unfold I64; omega
    have ib : I64 bv := by have := HBo.out; unfold I64; omega
    have i0 : I64 0 := by unfold I64; omega
    obtain ⟨ss, hss⟩ : ∃ ss, ss = (List.range 64).map (fun k => fs[psT F G A ((i : Int) + 1) k]?.getD 0) := ⟨_, rfl⟩
    obtain ⟨Z1, hZ1⟩ : ∃ Z, lyL F G A ((i : Int) + 1) zs ss = Z := ⟨_, rfl⟩
    obtain ⟨Z2, hZ2⟩ : ∃ Z, cpL F G A Z1 fs = Z := ⟨_, rfl⟩
    obtain ⟨⟨qE, qC⟩, ⟨z1l, z2l⟩, qd, q1, q2, qm⟩ := only_facts hc hi2 hzl hfl hss hZ1 hZ2
    have hsl : ss.length = 64 := by rw [hss]; simp
    have hss2 : mL F G A bv 0 0 fs = ss := by rw [← HBv.out, (mL_own hc hi2 hfl).2, hss]
    have HLz := Lib.hid (show zs.length = fs.length by omega)
    rw [HBv.out] at qE hZ1
    have HCo : Hid (∀ W, PicW W g1 [] zs [] → Calls Try.prog 34 #[.slice (some ⟨g1, 0, none⟩) zs.length zs.length] W fun e w' => ∃ v, e = .returned v ∧ w'.ownsRow W.heap.size 5 1 v zs.length (u8s zs) ∧ Below W.heap.size W w') := fun W hp => copyBytes_any (w := W) (a := some ⟨g1, 0, none⟩) (cap := zs.length) (zs := zs) (picW_src hp) (fun e => nomatch e) (by omega)
    have HLay : Hid (∀ W v, PicW W g1 [] zs [] → W.ownsRow (g1 + 1) 5 1 v 64 (u8s ss) → Calls Try.prog 24 #[.slice (some ⟨g1, 0, none⟩) zs.length zs.length, spotV F G A, .int .i64 bv, v] W fun e W' => e = .returned (.int .i64 0) ∧ PicW W' g1 [] Z1 [] ∧ Bar (fun k => k = g1) W W') := fun W v hp ho => by
      have := I.lay (cap := zs.length) F G A bv hp (Nat.le_refl _) (by omega) (byt_own (by rw [hsl]; exact ho) (by omega) (Nat.le_refl _)) (Nat.le_refl _) (fun e => by have := (ho.lt g1 e).1; omega) (capped_own ho) iF iG iA ib
      rw [qE, hZ1] at this
      exact this
    have HCp : Hid (∀ W, PicW W g1 [] Z1 [] → PicW W g2 [] fs [] → Calls Try.prog 26 #[.slice (some ⟨g1, 0, none⟩) zs.length zs.length, .slice (some ⟨g2, 0, none⟩) fs.length fs.length, spotV F G A] W fun e W' => e = .returned (.int .i64 0) ∧ PicW W' g1 [] Z2 [] ∧ Bar (fun k => k = g1) W W') := fun W h1 h2 => by
      have := I.copy (cap := zs.length) F G A h1 (by omega) (by omega) (by omega) (h2.byt h2.lt (by omega) fs.length) (Nat.le_refl _) (fun e => by have e2 : g2 = g1 := by simpa [Value.ownBlock] using e
                                                                                                                                                   omega) ⟨_, _, _, rfl, Nat.le_refl _⟩ iF iG iA
      rw [qC, hZ2, z1l] at this
      exact this
    have HFb : Hid (∀ W, PicW W g2 [] fs [] → Calls Try.prog 35 #[.slice (some ⟨g2, 0, none⟩) fs.length fs.length, spotV F G A, .int .i64 bv, .int .i64 0, .int .i64 0] W fun e W' => ∃ v, e = .returned (.tuple #[v, .int .i64 0]) ∧ W'.ownsRow W.heap.size 5 1 v 64 (u8s ss) ∧ Below W.heap.size W W') := fun W h => by
      have := mfetch_any F G A bv 0 0 (h.byt h.lt (by omega) fs.length) (Nat.le_refl _) ⟨_, _, _, rfl, Nat.le_refl _⟩ iF iG iA ib i0 i0
      rw [hss2, show mE F G A bv 0 0 fs.length = 0 by rw [← HBv.out]; exact (mL_own hc hi2 hfl).1, hsl] at this
      exact this
    have HFj : Hid (∀ (j : Nat), j < 6 → ∃ Lj : List UInt8, Lj.length = 64 ∧ (∀ W, PicW W g1 [] Z2 [] → Calls Try.prog 35 #[.slice (some ⟨g1, 0, none⟩) zs.length zs.length, spotV F G A, .int .i64 ((j : Int) + 1), .int .i64 0, .int .i64 0] W fun e W' => ∃ v, e = .returned (.tuple #[v, .int .i64 0]) ∧ W'.ownsRow W.heap.size 5 1 v 64 (u8s Lj) ∧ Below W.heap.size W W') ∧
        ∀ W, PicW W g2 [] fs [] → Calls Try.prog 35 #[.slice (some ⟨g2, 0, none⟩) fs.length fs.length, spotV F G A, .int .i64 ((j : Int) + 1), .int .i64 0, .int .i64 0] W fun e W' => ∃ v, e = .returned (.tuple #[v, .int .i64 0]) ∧ W'.ownsRow W.heap.size 5 1 v 64 (u8s Lj) ∧ Below W.heap.size W W') := fun j hj => by
      have ij : I64 ((j : Int) + 1) := by unfold I64; omega
      have hLl : (mL F G A ((j : Int) + 1) 0 0 fs).length = 64 := by rw [(mL_own hc hj hfl).2]; simp
      refine ⟨mL F G A ((j : Int) + 1) 0 0 fs, hLl, fun W h => ?_, fun W h => ?_⟩
      · have := mfetch_any F G A ((j : Int) + 1) 0 0 (h.byt h.lt (by omega) zs.length) (Nat.le_refl _) ⟨_, _, _, rfl, by omega⟩ iF iG iA ij i0 i0
        rw [qm j hj, (mL_own hc hj (zs := Z2) (by rw [z2l]; exact hzl)).1, hLl, z2l] at this
        exact this
      · have := mfetch_any F G A ((j : Int) + 1) 0 0 (h.byt h.lt (by omega) fs.length) (Nat.le_refl _) ⟨_, _, _, rfl, Nat.le_refl _⟩ iF iG iA ij i0 i0
        rw [(mL_own hc hj hfl).1, hLl] at this
        exact this
    have HQd := Lib.hid qd
    have HQ1 := Lib.hid q1
    have HQ2 := Lib.hid q2
    have HZl := Lib.hid (And.intro z1l z2l)
    have HN : Hid (w.heap.size ≤ W2.heap.size ∧ W2.heap.size < g1 ∧ g1 < g2) := ⟨by have := B2.out.size; omega, hgb, hg12⟩
    clear qE qC z1l z2l qd q1 q2 qm hss hZ1 hZ2 hss2 iF iG iA ib i0 hF hc hG hA hzl hfl hgb hg1 hg12 hi2 HBv HI B0 B1 B2 B3 hs1 hs2 hs3 hsl
    generalize W2.heap.size = bs at *
    have hgl := P1.out.lt
    go_wp2_with fail
    refine (HCo.out _ P1.out).mono ?_
    rintro e W6 ⟨vc, rfl, ho, hb⟩
    have B6 := Lib.hid (below_chain B5.out (Nat.le_refl _) hb)
    have HW := Lib.hid ho
    have P1 := Lib.hid (P1.out.below hb P1.out.lt)
    have P2 := Lib.hid (P2.out.below hb P2.out.lt)
    have HX := Lib.hid (HX.out.later hb)
    clear ho hb HCo
    obtain ⟨e0, e1, e2⟩ := HX.out.cells
    go_wp2_with fail
    refine (HFb.out _ P2.out).mono ?_
    rintro e W7 ⟨vl, rfl, ho, hb⟩
    have B7 := Lib.hid (below_chain B6.out (Nat.le_refl _) hb)
    have HL := Lib.hid (ownsRow_baseN ho (show g1 + 1 ≤ W6.heap.size from P1.out.lt))
    have HW := Lib.hid (ownsRow_belowN HW.out hb)
    have P1 := Lib.hid (P1.out.below hb P1.out.lt)
    have P2 := Lib.hid (P2.out.below hb P2.out.lt)
    have HX := Lib.hid (HX.out.later hb)
    clear ho hb HFb e0 e1 e2
    obtain ⟨e0, e1, e2⟩ := HX.out.cells
    go_wp2_with fail
    refine (HLay.out _ _ P1.out HL.out).mono ?_
    rintro e W8 ⟨rfl, hp, hb⟩
    have B8 := Lib.hid (B7.out.trans (hb.below B7.out.size (fun k hk e => by have := HN.out; omega)))
    have P1 := Lib.hid hp
    have P2 := Lib.hid (P2.out.bar hb (by have := HN.out; omega))
    have HX := Lib.hid (spotAt_bar HX.out hb (by have := HN.out; omega))
    have HW := Lib.hid (ownsRow_bar HW.out hb (fun k e e' => by have := (HW.out.lt k e).1; omega))
    clear hp hb HLay HL e0 e1 e2
    obtain ⟨av, cw, rfl, hwl, hwc⟩ := byt_own HW.out (by omega) (Nat.le_refl _)
    have HWas : Hid (∀ W', Below W8.heap.size W8 W' → ∀ k, k < zs.length → ∃ bb off, av = some ⟨bb, off, none⟩ ∧ W'.cell? ⟨bb, off + k, none⟩ = some (.int .u8 (zs[k]?.getD 0).toNat)) := fun W' hb k hk => by
      rcases hwc with e | ⟨bb, off, rfl, hbl, hc⟩
      · rw [e] at hk; cases hk
      · exact ⟨bb, off, rfl, (hb.cell (p := ⟨bb, off + k, none⟩) hbl).trans (hc k hk)⟩
    have HWl : Hid (∀ bb off, av = some ⟨bb, off, none⟩ → bb ≠ g1 ∧ bb < W8.heap.size) := fun bb off e => by
      have h1 := HW.out.lt bb (by rw [e]; rfl)
      exact ⟨by have := h1.1; omega, h1.2⟩
    clear hwc hwl HW
    go_wp2_with fail
    go_loopw [22, 23] (fun nv iv wr => ∃ k : Nat, iv = .int .i64 (k : Int) ∧ k ≤ zs.length ∧ nv = .int .i64 ((difN zs Z1 k : Nat) : Int) ∧ Below W8.heap.size W8 wr) (fun _ iv _ => zs.length - (intOf iv).toNat)
    case atStart => exact ⟨0, rfl, by omega, rfl, Below.refl _ _⟩
    case round =>
      obtain ⟨k, rfl, hk, rfl, hB⟩ := hrel
      have HB := Lib.hid hB
      clear hB
      by_cases hk2 : k < zs.length
      · have z1 : (k : Int) < (zs.length : Int) := by omega
        have z0 : (0 : Int) ≤ k := by omega
        have z2 : (k : Int) < (fs.length : Int) := by have := HLz.out; omega
        have hdl := difN_le zs Z1 k
        have HSt := Lib.hid (show difN zs Z1 (k + 1) = difN zs Z1 k + if Z1[k]?.getD 0 = zs[k]?.getD 0 then 0 else 1 from rfl)
        have HQ := Lib.hid (HQ1.out k)
        obtain ⟨bb, off, rfl, -⟩ := HWas.out wr HB.out k hk2
        have HX1 := Lib.hid (fun W' (h : Below W8.heap.size W8 W') => show W'.cell? ⟨bb, off + k, none⟩ = some (.int .u8 (zs[k]?.getD 0).toNat) by
          obtain ⟨_, _, e, h⟩ := HWas.out W' h k hk2
          cases e
          exact h)
        have HX2 := Lib.hid (fun W' (h : Below W8.heap.size W8 W') => show W'.cell? ⟨g1, k, none⟩ = some (.int .u8 (Z1[k]?.getD 0).toNat) by
          have := (P1.out.below h P1.out.lt).cell (k := k) (by have := HZl.out.1; omega)
          simpa using this)
        have HX3 := Lib.hid (fun W' (h : Below W8.heap.size W8 W') => show W'.cell? ⟨g2, k, none⟩ = some (.int .u8 (fs[k]?.getD 0).toNat) by
          have := (P2.out.below h P2.out.lt).cell (k := k) (by have := HLz.out; omega)
          simpa using this)
        have hb1 : ∀ n, Below W8.heap.size W8 (wr.drewN n) := fun n => HB.out.trans (below_drewN _ _ _)
        have hb2 : ∀ n m, Below W8.heap.size W8 ((wr.drewN n).drewN m) := fun n m => (hb1 n).trans (below_drewN _ _ _)
        have HB1 := Lib.hid hb1
        have HB2 := Lib.hid hb2
        clear hb1 hb2
        generalize difN zs Z1 k = dn at *
        have x1 := fun n => HX1.out _ (HB1.out n)
        have x2 := fun n => HX2.out _ (HB1.out n)
        by_cases hd : Z1[k]?.getD 0 = zs[k]?.getD 0
        · rw [if_pos hd] at HSt
          have HSt2 := Lib.hid (show difN zs Z1 (k + 1) = dn by have := HSt.out; omega)
          rw [hd] at x2
          clear HSt HQ HX1 HX2 HX3 hd
          generalize zs[k]?.getD 0 = z at *
          go_wp2_with fail
          go_quiet (fail)
          go_wp2_with fail
          go_roundw
          case rel => exact ⟨k + 1, by go_num, by omega, by rw [HSt2.out], HB1.out _⟩
          case measure => simp [intOf]; omega
        · rw [if_neg hd] at HSt
          have HQ3 := HQ.out hd
          have x3 := fun n m => HX3.out _ (HB2.out n m)
          have x4 := fun n m => HX2.out _ (HB2.out n m)
          rw [← HQ3] at x3
          have HSt2 := Lib.hid (show difN zs Z1 (k + 1) = dn + 1 from HSt.out)
          clear HSt HQ HQ3 HX1 HX2 HX3
          generalize zs[k]?.getD 0 = z at *
          generalize Z1[k]?.getD 0 = y at *
          have hne : (((y.toNat : Nat) : Int) != ((z.toNat : Nat) : Int)) = true := by
            simp
            intro e
            exact hd (UInt8.toNat_inj.1 (by omega))
          go_wp2_with fail
          go_quiet (fail)
          go_wp2_with fail
          have x5 := x3 nq
          have x6 := x4 nq
          have hb3 := HB2.out nq
          clear x1 x2 x3 x4 HB1 HB2
          generalize wr.drewN nq = wq at *
          have HB3 := Lib.hid hb3
          clear hb3
          go_quiet (fail)
          go_wp2_with fail
          go_roundw
          case rel => exact ⟨k + 1, by go_num, by omega, by rw [HSt2.out]; go_num, HB3.out _⟩
          case measure => simp [intOf]; omega
      · obtain rfl : k = zs.length := by omega
        have hd1 := (HQd.out zs.length).1
        generalize difN zs Z1 zs.length = dn at *
        have i3 : ¬ (64 : Int) < (dn : Int) := by omega
        rename World => W8b
        have P1 := Lib.hid (P1.out.below HB.out P1.out.lt)
        have P2 := Lib.hid (P2.out.below HB.out P2.out.lt)
        have HX := Lib.hid (HX.out.later HB.out)
        have B8b := Lib.hid (B8.out.trans (HB.out.mono B8.out.size))
        obtain ⟨e0, e1, e2⟩ := HX.out.cells
        go_wp2_with fail
        refine (HCp.out _ P1.out P2.out).mono ?_
        rintro e W9 ⟨rfl, hp, hb⟩
        have B9 := Lib.hid (B8b.out.trans (hb.below B8b.out.size (fun k hk e => by have := HN.out; omega)))
        have HX := Lib.hid (spotAt_bar HX.out hb (by have := HN.out; omega))
        have HWas : Hid (∀ W', Below W9.heap.size W9 W' → ∀ k, k < zs.length → ∃ bb off, av = some ⟨bb, off, none⟩ ∧ W'.cell? ⟨bb, off + k, none⟩ = some (.int .u8 (zs[k]?.getD 0).toNat)) := fun W' hb' k hk => by
          obtain ⟨bb, off, e, h⟩ := HWas.out _ HB.out k hk
          have hl := HWl.out bb off e
          have hl2 := HB.out.size
          exact ⟨bb, off, e, ((hb'.cell (p := ⟨bb, off + k, none⟩) (by have := hb.size; show bb < W9.heap.size; omega)).trans (hb.cellC (p := ⟨bb, off + k, none⟩) (by show bb < W8b.heap.size; omega) (by show ¬ bb = g1; omega))).trans h⟩
        have P2 := Lib.hid (P2.out.bar hb (by have := HN.out; omega))
        have P1 := Lib.hid hp
        clear hp hb HB hk hk2 e0 e1 e2 hd1 i3 HQ1
        go_wp2_with fail
        go_loopw [22, 24] (fun nv iv wr => ∃ k : Nat, iv = .int .i64 (k : Int) ∧ k ≤ zs.length ∧ nv = .int .i64 ((difN zs Z2 k : Nat) : Int) ∧ Below W9.heap.size W9 wr) (fun _ iv _ => zs.length - (intOf iv).toNat)
        case atStart => exact ⟨0, rfl, by omega, rfl, Below.refl _ _⟩
        case round =>
          obtain ⟨k, rfl, hk, rfl, hB⟩ := hrel
          have HB := Lib.hid hB
          clear hB
          by_cases hk2 : k < zs.length
          · have z1 : (k : Int) < (zs.length : Int) := by omega
            have z0 : (0 : Int) ≤ k := by omega
            have z2 : (k : Int) < (fs.length : Int) := by have := HLz.out; omega
            have hdl := difN_le zs Z2 k
            have HSt := Lib.hid (show difN zs Z2 (k + 1) = difN zs Z2 k + if Z2[k]?.getD 0 = zs[k]?.getD 0 then 0 else 1 from rfl)
            have HQ := Lib.hid (HQ2.out k)
            obtain ⟨bb, off, rfl, -⟩ := HWas.out wr HB.out k hk2
            have HX1 := Lib.hid (fun W' (h : Below W9.heap.size W9 W') => show W'.cell? ⟨bb, off + k, none⟩ = some (.int .u8 (zs[k]?.getD 0).toNat) by
              obtain ⟨_, _, e, h⟩ := HWas.out W' h k hk2
              cases e
              exact h)
            have HX2 := Lib.hid (fun W' (h : Below W9.heap.size W9 W') => show W'.cell? ⟨g1, k, none⟩ = some (.int .u8 (Z2[k]?.getD 0).toNat) by
              have := (P1.out.below h P1.out.lt).cell (k := k) (by have := HZl.out.2; omega)
              simpa using this)
            have HX3 := Lib.hid (fun W' (h : Below W9.heap.size W9 W') => show W'.cell? ⟨g2, k, none⟩ = some (.int .u8 (fs[k]?.getD 0).toNat) by
              have := (P2.out.below h P2.out.lt).cell (k := k) (by have := HLz.out; omega)
              simpa using this)
            have hb1 : ∀ n, Below W9.heap.size W9 (wr.drewN n) := fun n => HB.out.trans (below_drewN _ _ _)
            have hb2 : ∀ n m, Below W9.heap.size W9 ((wr.drewN n).drewN m) := fun n m => (hb1 n).trans (below_drewN _ _ _)
            have HB1 := Lib.hid hb1
            have HB2 := Lib.hid hb2
            clear hb1 hb2
            generalize difN zs Z2 k = dn at *
            have x1 := fun n => HX1.out _ (HB1.out n)
            have x2 := fun n => HX2.out _ (HB1.out n)
            by_cases hd : Z2[k]?.getD 0 = zs[k]?.getD 0
            · rw [if_pos hd] at HSt
              have HSt2 := Lib.hid (show difN zs Z2 (k + 1) = dn by have := HSt.out; omega)
              rw [hd] at x2
              clear HSt HQ HX1 HX2 HX3 hd
              generalize zs[k]?.getD 0 = z at *
              go_wp2_with fail
              go_quiet (fail)
              go_wp2_with fail
              go_roundw
              case rel => exact ⟨k + 1, by go_num, by omega, by rw [HSt2.out], HB1.out _⟩
              case measure => simp [intOf]; omega
            · rw [if_neg hd] at HSt
              have HQ3 := HQ.out hd
              have x3 := fun n m => HX3.out _ (HB2.out n m)
              have x4 := fun n m => HX2.out _ (HB2.out n m)
              rw [← HQ3] at x3
              have HSt2 := Lib.hid (show difN zs Z2 (k + 1) = dn + 1 from HSt.out)
              clear HSt HQ HQ3 HX1 HX2 HX3
              generalize zs[k]?.getD 0 = z at *
              generalize Z2[k]?.getD 0 = y at *
              have hne : (((y.toNat : Nat) : Int) != ((z.toNat : Nat) : Int)) = true := by
                simp
                intro e
                exact hd (UInt8.toNat_inj.1 (by omega))
              go_wp2_with fail
              go_quiet (fail)
              go_wp2_with fail
              have x5 := x3 nq
              have x6 := x4 nq
              have hb3 := HB2.out nq
              clear x1 x2 x3 x4 HB1 HB2
              generalize wr.drewN nq = wq at *
              have HB3 := Lib.hid hb3
              clear hb3
              go_quiet (fail)
              go_wp2_with fail
              go_roundw
              case rel => exact ⟨k + 1, by go_num, by omega, by rw [HSt2.out]; go_num, HB3.out _⟩
              case measure => simp [intOf]; omega
          · obtain rfl : k = zs.length := by omega
            have hd2 := (HQd.out zs.length).2
            generalize difN zs Z2 zs.length = dn at *
            have HDn := Lib.hid hd2
            have i4 : (dn : Int) ≤ 384 := by omega
            rename World => W10
            have P1 := Lib.hid (P1.out.below HB.out P1.out.lt)
            have P2 := Lib.hid (P2.out.below HB.out P2.out.lt)
            have HX := Lib.hid (HX.out.later HB.out)
            have B10 := Lib.hid (B9.out.trans (HB.out.mono B9.out.size))
            clear HWas HB hk hk2
            go_wp2_with fail
            go_loopw [25] (fun kv wr => ∃ j : Nat, kv = .int .i64 ((j : Int) + 1) ∧ j ≤ 6 ∧ Below W10.heap.size W10 wr) (fun kv _ => 7 - (intOf kv).toNat)
            case atStart => exact ⟨0, rfl, by omega, Below.refl _ _⟩
            case round =>
              obtain ⟨j, rfl, hj, hB⟩ := hrel
              have P1 := Lib.hid (P1.out.below hB P1.out.lt)
              have P2 := Lib.hid (P2.out.below hB P2.out.lt)
              have HX := Lib.hid (HX.out.later hB)
              have HB := Lib.hid hB
              clear hB
              by_cases hj2 : j < 6
              · have z1 : (j : Int) + 1 ≤ 6 := by omega
                obtain ⟨Lj, hLj, f1, f2⟩ := HFj.out j hj2
                have F1 := Lib.hid f1
                have F2 := Lib.hid f2
                clear f1 f2
                obtain ⟨e0, e1, e2⟩ := HX.out.cells
                go_wp2_with fail
                refine (F1.out _ P1.out).mono ?_
                rintro e W11 ⟨v1, rfl, ho, hb⟩
                have HO1 := Lib.hid ho
                have P2 := Lib.hid (P2.out.below hb P2.out.lt)
                have HX := Lib.hid (HX.out.later hb)
                have HB := Lib.hid (below_chain HB.out (Nat.le_refl _) hb)
                clear ho hb e0 e1 e2
                obtain ⟨e0, e1, e2⟩ := HX.out.cells
                go_wp2_with fail
                refine (F2.out _ P2.out).mono ?_
                rintro e W12 ⟨v2, rfl, ho, hb⟩
                have HO1 := Lib.hid (ownsRow_belowN HO1.out hb)
                have HB := Lib.hid (below_chain HB.out (Nat.le_refl _) hb)
                have HSm := Lib.hid (same_any (byt_own (by rw [hLj]; exact HO1.out) (by omega) (Nat.le_refl _)) (byt_own (by rw [hLj]; exact ho) (by omega) (Nat.le_refl _)))
                simp only [decide_true] at HSm
                clear ho hb e0 e1 e2 HO1
                go_wp2_with fail
                refine HSm.out.mono ?_
                rintro e w' ⟨rfl, rfl⟩
                go_wp2_with fail
                go_roundw
                case rel => exact ⟨j + 1, by go_num, by omega, HB.out⟩
                case measure => simp [intOf]; omega
              · obtain rfl : j = 6 := by omega
                have HB := Lib.hid (B10.out.trans (HB.out.mono B10.out.size))
                go_wp2
                go_ret
                exact ⟨rfl, HB.out⟩

end Go.Proofs.Ytenplmmongphoaa
