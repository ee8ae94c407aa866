/- paint: the walk of PaintLays (praxinoscopelaw16). -/
import Derived.Test.YtenplmmongphoaaTLaw2
import Derived.Test.YtenplmmongphoaaTPic
import Derived.Test.YtenplmmongphoaaRegG
import Derived.Test.YtenplmmongphoaaMKit
import Derived.Lib.QuietBelow
namespace Go.Proofs.Ytenplmmongphoaa
open Go.RowKit Go.Shelf Go.Sort
set_option linter.unusedVariables false

/-- two pictures, twice each, and samples -/
structure LayS (W0 : World) (bs G g1 g2 B2 B3 : Nat) (post1 post2 post3 : List Value) (f g a : Int) (fs ss : List UInt8) (v2 v3 : Value) (m t : List UInt8) (W : World) : Prop where
  below : Below W0.heap.size W0 W
  at_ : SpotAt W bs f g a
  mine : PicW W G [] m post1
  to : PicW W g1 [] t post2
  src : PicW W g2 [] fs post3
  l2 : Lent B2 W v2 fs
  l3 : Lent B3 W v3 ss
theorem LayS.later {W0 : World} {bs G g1 g2 B2 B3 : Nat} {post1 post2 post3 : List Value} {f g a : Int} {fs ss : List UInt8} {v2 v3 : Value} {m t : List UInt8} {W W' : World} (h : LayS W0 bs G g1 g2 B2 B3 post1 post2 post3 f g a fs ss v2 v3 m t W) (hb : Below W.heap.size W W') : LayS W0 bs G g1 g2 B2 B3 post1 post2 post3 f g a fs ss v2 v3 m t W' :=
  ⟨below_chain h.below (Nat.le_refl _) hb, h.at_.later hb, h.mine.below hb h.mine.lt, h.to.below hb h.to.lt, h.src.below hb h.src.lt, h.l2.bar (bar_of_below (S := fun _ => False) hb) (fun _ _ e => e), h.l3.bar (bar_of_below (S := fun _ => False) hb) (fun _ _ e => e)⟩
theorem spotAt_bar {S : Nat → Prop} {W W' : World} {b : Nat} {f g a : Int} (h : SpotAt W b f g a) (hb : Bar S W W') (hS : ¬ S b) : SpotAt W' b f g a := by
  obtain ⟨t, h⟩ := h
  exact ⟨t, (hb.block _ (Array.getElem?_eq_some_iff.1 h).1 hS).trans h⟩
/-- which blocks are which -/
structure LayF (W0 : World) (bs G g1 g2 B2 B3 : Nat) (v2 v3 : Value) : Prop where
  a0 : W0.heap.size ≤ bs
  a1 : bs < g1
  a2 : g1 < g2
  a3 : g2 < G
  a4 : ∀ k, v2.ownBlock = some k → G < k
  a5 : ∀ k, v3.ownBlock = some k → G < k
theorem LayS.putMine {W0 : World} {bs G g1 g2 B2 B3 : Nat} {post1 post2 post3 : List Value} {f g a : Int} {fs ss : List UInt8} {v2 v3 : Value} {m t : List UInt8} {W W' : World} (h : LayS W0 bs G g1 g2 B2 B3 post1 post2 post3 f g a fs ss v2 v3 m t W) (F : LayF W0 bs G g1 g2 B2 B3 v2 v3) (hb : Bar (fun k => k = G) W W') {m' : List UInt8} (hm : PicW W' G [] m' post1) : LayS W0 bs G g1 g2 B2 B3 post1 post2 post3 f g a fs ss v2 v3 m' t W' :=
  have a0 := F.a0
  have a1 := F.a1
  have a2 := F.a2
  have a3 := F.a3
  ⟨h.below.trans (hb.below h.below.size (fun k hk e => by omega)), spotAt_bar h.at_ hb (by omega), hm, h.to.bar hb (by omega), h.src.bar hb (by omega), h.l2.bar hb (fun k e e' => by have := F.a4 k e; omega), h.l3.bar hb (fun k e e' => by have := F.a5 k e; omega)⟩
theorem LayS.putTo {W0 : World} {bs G g1 g2 B2 B3 : Nat} {post1 post2 post3 : List Value} {f g a : Int} {fs ss : List UInt8} {v2 v3 : Value} {m t : List UInt8} {W W' : World} (h : LayS W0 bs G g1 g2 B2 B3 post1 post2 post3 f g a fs ss v2 v3 m t W) (F : LayF W0 bs G g1 g2 B2 B3 v2 v3) (hb : Bar (fun k => k = g1) W W') {t' : List UInt8} (hm : PicW W' g1 [] t' post2) : LayS W0 bs G g1 g2 B2 B3 post1 post2 post3 f g a fs ss v2 v3 m t' W' :=
  have a0 := F.a0
  have a1 := F.a1
  have a2 := F.a2
  have a3 := F.a3
  ⟨h.below.trans (hb.below h.below.size (fun k hk e => by omega)), spotAt_bar h.at_ hb (by omega), h.mine.bar hb (by omega), hm, h.src.bar hb (by omega), h.l2.bar hb (fun k e e' => by have := F.a4 k e; omega), h.l3.bar hb (fun k e e' => by have := F.a5 k e; omega)⟩
/-- a scene, cut in two -/
theorem picW_scene {w : World} {g : Nat} {zs : List UInt8} (h : w.heap[g]? = some (.cells (u8s zs).toArray 5 (0, 0))) (m : Nat) : PicW w g [] (zs.take m) (u8s (zs.drop m)) := by
  unfold PicW
  rw [h]
  congr 2
  apply Array.ext'
  simp only [List.nil_append]
  unfold u8s
  rw [← List.map_append, List.take_append_drop]
theorem PicW.srcOf {W : World} {g : Nat} {post : List Value} {zs : List UInt8} (h : PicW W g [] zs post) : Src W (some ⟨g, 0, none⟩) zs.length (u8s zs) := by
  refine ⟨by simp [u8s], .inr ⟨_, rfl, fun j u hu => ?_⟩⟩
  have hadd : (⟨g, 0, none⟩ : Addr).add j = ⟨g, 0 + j, none⟩ := by unfold Addr.add; split <;> simp_all
  have hj : j < zs.length := by simpa [u8s] using (List.getElem?_eq_some_iff.1 hu).1
  have hc := h.cell hj
  rw [hadd]
  refine hc.trans ?_
  rw [← hu]
  simp [u8s, hj]

/-- what a region has told -/
structure LayR (VG VT v3 VS sp : Value) (b e : Int) (L : Nat → Bool) (x60 x61 x62 x63 x64 x65 x66 x67 x68 x69 x70 x71 x72 x73 x74 x75 x76 x77 x78 x79 x80 x81 x82 : Value) : Prop where
  l0 : L 0 = true → x60 = VG
  l1 : L 1 = true → x61 = sp
  l2 : L 2 = true → x62 = .int .i64 b
  l3 : L 3 = true → x63 = v3
  l4 : L 4 = true → x64 = .int .i64 e
  l5 : L 5 = true → x65 = VT
  l6 : L 6 = true → x66 = sp
  l7 : L 7 = true → x67 = .int .i64 b
  l8 : L 8 = true → x68 = VS
  l9 : L 9 = true → x69 = .int .i64 e
  l10 : L 10 = true → x70 = .bool false
  l11 : L 11 = true → x71 = .bool false
  l12 : L 12 = true → x72 = VG
  l13 : L 13 = true → x73 = VT
  l14 : L 14 = true → x74 = .bool true
  l15 : L 15 = true → x75 = .bool false
  l16 : L 16 = true → x76 = .bool false
  l17 : L 17 = true → x77 = .bool false
  l18 : L 18 = true → x78 = v3
  l19 : L 19 = true → x79 = VS
  l20 : L 20 = true → x80 = .bool true
  l21 : L 21 = true → x81 = .bool false
  l22 : L 22 = true → x82 = .bool false
def LayRI (fr : Value → Value → Value → Value → Value → Value → Value → Value → Value → Value → Value → Value → Value → Value → Value → Value → Value → Value → Value → Value → Value → Value → Value → Act) (S : List UInt8 → List UInt8 → World → Prop) (T U : List UInt8) (VG VT v3 VS sp : Value) (b e : Int) (L : Nat → Bool) (ac : Act) (W : World) : Prop :=
  ∃ x60 x61 x62 x63 x64 x65 x66 x67 x68 x69 x70 x71 x72 x73 x74 x75 x76 x77 x78 x79 x80 x81 x82, ac = fr x60 x61 x62 x63 x64 x65 x66 x67 x68 x69 x70 x71 x72 x73 x74 x75 x76 x77 x78 x79 x80 x81 x82 ∧ LayR VG VT v3 VS sp b e L x60 x61 x62 x63 x64 x65 x66 x67 x68 x69 x70 x71 x72 x73 x74 x75 x76 x77 x78 x79 x80 x81 x82 ∧ S (cond (L 4) U T) (cond (L 9) U T) W
/-- what a region has told -/
structure CopR (VG VT v2 VF sp : Value) (e : Int) (L : Nat → Bool) (x83 x84 x85 x86 x87 x88 x89 x90 x91 x92 x93 x94 x95 x96 x97 x98 x99 x100 x101 x102 x103 : Value) : Prop where
  l0 : L 0 = true → x83 = VG
  l1 : L 1 = true → x84 = v2
  l2 : L 2 = true → x85 = sp
  l3 : L 3 = true → x86 = .int .i64 e
  l4 : L 4 = true → x87 = VT
  l5 : L 5 = true → x88 = VF
  l6 : L 6 = true → x89 = sp
  l7 : L 7 = true → x90 = .int .i64 e
  l8 : L 8 = true → x91 = .bool false
  l9 : L 9 = true → x92 = .bool false
  l10 : L 10 = true → x93 = VG
  l11 : L 11 = true → x94 = VT
  l12 : L 12 = true → x95 = .bool true
  l13 : L 13 = true → x96 = .bool false
  l14 : L 14 = true → x97 = .bool false
  l15 : L 15 = true → x98 = .bool false
  l16 : L 16 = true → x99 = v2
  l17 : L 17 = true → x100 = VF
  l18 : L 18 = true → x101 = .bool true
  l19 : L 19 = true → x102 = .bool false
  l20 : L 20 = true → x103 = .bool false
def CopRI (fr : Value → Value → Value → Value → Value → Value → Value → Value → Value → Value → Value → Value → Value → Value → Value → Value → Value → Value → Value → Value → Value → Act) (S : List UInt8 → List UInt8 → World → Prop) (T U : List UInt8) (VG VT v2 VF sp : Value) (e : Int) (L : Nat → Bool) (ac : Act) (W : World) : Prop :=
  ∃ x83 x84 x85 x86 x87 x88 x89 x90 x91 x92 x93 x94 x95 x96 x97 x98 x99 x100 x101 x102 x103, ac = fr x83 x84 x85 x86 x87 x88 x89 x90 x91 x92 x93 x94 x95 x96 x97 x98 x99 x100 x101 x102 x103 ∧ CopR VG VT v2 VF sp e L x83 x84 x85 x86 x87 x88 x89 x90 x91 x92 x93 x94 x95 x96 x97 x98 x99 x100 x101 x102 x103 ∧ S (cond (L 3) U T) (cond (L 7) U T) W
/-- what the last region has told -/
structure GreyR (bs : Nat) (f : Int) (B : Nat) (L : Nat → Bool) (x104 x105 x106 x107 x108 x109 x110 x111 x112 x113 x16 : Value) (W : World) : Prop where
  sz : B ≤ W.heap.size
  l0 : L 0 = true → x104 = .pointer (some ⟨bs, 0, none⟩)
  l1 : L 1 = true → x105 = .int .i64 f
  l2 : L 2 = true → GotB W B x106 (greyL f)
  l3 : L 3 = true → x107 = .pointer (some ⟨bs, 0, none⟩)
  l4 : L 4 = true → x108 = .int .i64 f
  l5 : L 5 = true → W.ownsRow B 5 1 x109 (greyL f).length (u8s (greyL f))
  l6 : L 6 = true → x110 = .bool true
  l7 : L 7 = true → x111 = .bool true
  l8 : L 8 = true → x112 = .bool true
  l9 : L 9 = true → x113 = .bool true
  l10 : L 10 = true → x16 = .bool true
def GreyI (fr : Value → Value → Value → Value → Value → Value → Value → Value → Value → Value → Value → Act) (S : World → Prop) (bs : Nat) (f : Int) (B : Nat) (L : Nat → Bool) (ac : Act) (W : World) : Prop :=
  ∃ x104 x105 x106 x107 x108 x109 x110 x111 x112 x113 x16, ac = fr x104 x105 x106 x107 x108 x109 x110 x111 x112 x113 x16 ∧ GreyR bs f B L x104 x105 x106 x107 x108 x109 x110 x111 x112 x113 x16 W ∧ S W

set_option maxRecDepth 100000 in
set_option maxHeartbeats 4000000 in
theorem lays16_walk (I : PaintI) (f g a b p q r less more : Int) (hf : I64 f) (hg : I64 g) (ha : I64 a) (hb : I64 b) (hp : I64 p) (hq : I64 q) (hr : I64 r) {w : World} {ra : Option Addr} {len cap : Nat} {ss : List UInt8} (hR : Row8 w.heap.size w ra len cap ss) :
    Calls Try.prog 4 #[spotV f g a, .int .i64 b, .slice ra len cap, .int .i64 p, .int .i64 q, .int .i64 r, .int .i64 less, .int .i64 more] w fun e w' => e = .returned (.bool true) ∧ Below w.heap.size w w' := by
  have HAw := Lib.hid (fun W => awake16_any I W)
  obtain ⟨W1, hW1⟩ : ∃ W1, w.alloc (.cells #[.int .i64 f, .int .i64 g, .int .i64 a] 37 (0, 0)) = W1 := ⟨_, rfl⟩
  have hb1 : Below w.heap.size w W1 := by rw [← hW1]; exact (Below.refl _ w).alloc (Nat.le_refl _) _
  have hz1 : W1.heap.size = w.heap.size + 1 := by rw [← hW1]; simp
  have hbx : SpotAt W1 w.heap.size f g a := ⟨_, by rw [← hW1]; exact World.alloc_heap_new w _⟩
  have B1 := Lib.hid hb1
  by_cases hl1 : 80 < len
  · have q1 : (80 : Int) < (len : Int) := by omega
    clear hR hbx hb1 hf hg ha hb hp hq hr
    go_enter Try.func4, Try.ntmps4
    go_wp2_with (go_at_call 9; refine (HAw.out _).mono ?_; rintro e w' ⟨rfl, hb⟩)
    go_ret
    exact ⟨rfl, below_chain B1.out (Nat.le_refl _) hb⟩
  · have q1 : ¬ (80 : Int) < (len : Int) := by omega
    have hl := hR.1
    subst hl
    have HP2 := Lib.hid (fun W => pick_any f 2 W (by omega) (by omega))
    have HPl := Lib.hid (fun W => pick_any less 101 W (by omega) (by omega))
    have HPm := Lib.hid (fun W => pick_any more 101 W (by omega) (by omega))
    obtain ⟨x, hx, hx2⟩ : ∃ x : Nat, less % 101 = (x : Int) ∧ x < 101 := ⟨(less % 101).toNat, by omega, by omega⟩
    obtain ⟨y, hy, hy2⟩ : ∃ y : Nat, more % 101 = (y : Int) ∧ y < 101 := ⟨(more % 101).toNat, by omega, by omega⟩
    rw [hx] at HPl
    rw [hy] at HPm
    have hsn : sN (f % 2) ≤ 152064 := by rcases (show f % 2 = 0 ∨ f % 2 = 1 by omega) with h | h <;> rw [h] <;> decide
    have HSc : Hid (∀ (c : Int) (W : World), I64 c → Calls Try.prog 23 #[.int .i64 (f % 2), .int .i64 c, .int .i64 q] W fun e W' => ∃ zs : List UInt8, zs.length ≤ 152064 ∧ e = .returned (.slice (some ⟨W.heap.size, 0, none⟩) zs.length zs.length) ∧ W'.heap[W.heap.size]? = some (.cells (u8s zs).toArray 5 (0, 0)) ∧ Below W.heap.size W W') := fun c W hc => (scene14_any (f % 2) c q hc hq W).mono (by
      rintro e W' ⟨zs, h1, h2, h3, h4⟩
      exact ⟨zs, by omega, h2, h3, h4⟩)
    have HSc1 := Lib.hid (fun W => HSc.out p W hp)
    have HSc2 := Lib.hid (fun W => HSc.out r W hr)
    have HSrc : Hid (∀ w', Below w.heap.size w w' → Src w' ra ss.length (u8s ss)) := fun w' hb => by
      have h := (hR.later hb).src (n := ss.length) (Nat.le_refl _)
      rw [List.take_length] at h
      exact h
    have HBy : Hid (∀ w', Below w.heap.size w w' → Byt w.heap.size w' (.slice ra ss.length cap) ss) := fun w' hb => by
      have h := hR.byt (Nat.le_refl _) (k := ss.length) (Nat.le_refl _) (by omega)
      rw [List.take_length] at h
      exact h.below hb
    have HNc := Lib.hid hR.nocap
    have HGr := Lib.hid (fun W => I.grey f W hf)
    have HRG := Lib.hid (fun W => rgrey16_any f W)
    have HBx := Lib.hid hbx
    obtain ⟨c0, c1, c2⟩ := hbx.cells
    have HI := Lib.hid (And.intro hf (And.intro hg (And.intro ha hb)))
    clear hx hy hR hbx hb1 hf hg ha hb hp hq hr HSc hsn
    generalize f % 2 = F at *
    go_enter Try.func4, Try.ntmps4
    go_wp2_with fail
    refine (HP2.out _).mono ?_
    rintro e w' ⟨rfl, rfl⟩
    go_wp2_with fail
    refine (HSc1.out _).mono ?_
    rintro e W2 ⟨zs1, hzl1, rfl, hzs1, hb⟩
    have B2 := Lib.hid (below_chain B1.out (Nat.le_refl _) hb)
    have HBx := Lib.hid (HBx.out.later hb)
    have hz2 := hb.size
    have hg1 := (Array.getElem?_eq_some_iff.1 hzs1).1
    have HZ1 := Lib.hid hzs1
    clear hb hzs1 c0 c1 c2 HSc1 HP2
    go_wp2_with fail
    refine (HSc2.out _).mono ?_
    rintro e W3 ⟨zs2, hzl2, rfl, hzs2, hb⟩
    have B3 := Lib.hid (below_chain B2.out (Nat.le_refl _) hb)
    have HBx := Lib.hid (HBx.out.later hb)
    have hz3 := hb.size
    have hg2 := (Array.getElem?_eq_some_iff.1 hzs2).1
    have HZ1 := Lib.hid ((hb.block _ hg1).trans HZ1.out)
    have HZ2 := Lib.hid hzs2
    clear hb hzs2 HSc2
    obtain ⟨m1, hm1, hmr1⟩ : ∃ m : Nat, m ≤ zs1.length ∧ max 0 ((zs1.length : Int) - (x : Int)) = (m : Int) := ⟨zs1.length - x, by omega, by omega⟩
    obtain ⟨m2, hm2, hmr2⟩ : ∃ m : Nat, m ≤ zs2.length ∧ max 0 ((zs2.length : Int) - (y : Int)) = (m : Int) := ⟨zs2.length - y, by omega, by omega⟩
    have hm3 : ((m1 : Nat) : Int) ≤ (zs1.length : Int) := by omega
    have hm4 : ((m2 : Nat) : Int) ≤ (zs2.length : Int) := by omega
    have C1 : ∀ d os, Calls Try.prog 22 #[.int .i64 less, .int .i64 101] (grow (redrawn W3 d) os) fun e w'' => e = .returned (.int .i64 (x : Int)) ∧ ∃ p : Regrown, w'' = grow (redrawn W3 p.d) p.os := fun d os => (HPl.out _).mono (by rintro e w' ⟨h, rfl⟩; exact ⟨h, ⟨d, os⟩, rfl⟩)
    have C2 : ∀ d os, Calls Try.prog 22 #[.int .i64 more, .int .i64 101] (grow (redrawn W3 d) os) fun e w'' => e = .returned (.int .i64 (y : Int)) ∧ ∃ p : Regrown, w'' = grow (redrawn W3 p.d) p.os := fun d os => (HPm.out _).mono (by rintro e w' ⟨h, rfl⟩; exact ⟨h, ⟨d, os⟩, rfl⟩)
    have n1 : (zs1.length : Int) ≤ 152064 := by omega
    have n2 : (zs2.length : Int) ≤ 152064 := by omega
    have e1 : IntKind.i64.wrap ((zs1.length : Int) - (x : Int)) = (zs1.length : Int) - (x : Int) := by rw [IntKind.wrap_i64]; omega
    have e2 : IntKind.i64.wrap ((zs2.length : Int) - (y : Int)) = (zs2.length : Int) - (y : Int) := by rw [IntKind.wrap_i64]; omega
    have n3 : (x : Int) < 101 := by omega
    have n4 : (y : Int) < 101 := by omega
    go_wp2
    refine wp_region_quiet_below (by kernel_rfl) (by kernel_rfl) ?_
    iterate 4 quiet_step (fail)
    iterate 1 quiet_step ((go_at_call 22; exact C1 _ _))
    iterate 7 quiet_step (fail)
    iterate 1 quiet_step ((go_at_call 22; exact C2 _ _))
    iterate 5 quiet_step (fail)
    refine wpQuiet_nil ?_
    rintro _ ⟨⟨dq, osq⟩, rfl⟩
    have b6 := below_regrown W3 dq osq
    clear C1 C2
    generalize grow (redrawn W3 dq) osq = W4 at *
    have B4 := Lib.hid (below_chain B3.out (Nat.le_refl _) b6)
    have HBx := Lib.hid (HBx.out.later b6)
    have hz4 := b6.size
    have HT1 := Lib.hid ((picW_scene HZ1.out m1).below b6 (by omega))
    have HT2 := Lib.hid ((picW_scene HZ2.out m2).below b6 (by omega))
    have hlt1 : (zs1.take m1).length = m1 := by simp; omega
    have hlt2 : (zs2.take m2).length = m2 := by simp; omega
    have k1 : m1 ≤ zs1.length ∧ m1 ≤ 152064 := by omega
    have k2 : m2 ≤ zs2.length ∧ m2 ≤ 152064 := by omega
    clear b6 HZ1 HZ2 hmr1 hmr2 hm1 hm2 hm3 hm4 n1 n2 n3 n4 e1 e2 hzl1 hzl2 HPl HPm hx2 hy2
    rw [hz1] at HT1 hz2 hg1
    clear hz1 hW1
    generalize zs1.take m1 = T1 at *
    generalize zs2.take m2 = T2 at *
    generalize zs1.drop m1 = D1 at *
    generalize zs2.drop m2 = D2 at *
    generalize zs1.length = l1 at *
    generalize zs2.length = l2 at *
    subst hlt1 hlt2
    have HLe1 := Lib.hid (lent_any (cap := l1) HT1.out.srcOf (fun e => nomatch e) (by omega))
    go_wp2_with fail
    refine HLe1.out.mono ?_
    rintro e W5 ⟨lv1, rfl, hl, hb⟩
    have B5 := Lib.hid (below_chain B4.out (Nat.le_refl _) hb)
    have HBx := Lib.hid (HBx.out.later hb)
    have HT1 := Lib.hid (HT1.out.below hb HT1.out.lt)
    have HT2 := Lib.hid (HT2.out.below hb HT2.out.lt)
    have hz5 := hb.size
    obtain ⟨G, cG, rest, rfl, hG1, hG2, hG3, hG4, hG⟩ := picW_lent hl
    have hG5 := hG.lt
    have HM := Lib.hid hG
    clear hb HLe1 hl hG
    have HLe2 := Lib.hid (lent_any (cap := l2) HT2.out.srcOf (fun e => nomatch e) (by omega))
    go_wp2_with fail
    refine HLe2.out.mono ?_
    rintro e W6 ⟨v2, rfl, hl, hb⟩
    have B6 := Lib.hid (below_chain B5.out (Nat.le_refl _) hb)
    have HBx := Lib.hid (HBx.out.later hb)
    have HT1 := Lib.hid (HT1.out.below hb HT1.out.lt)
    have HT2 := Lib.hid (HT2.out.below hb HT2.out.lt)
    have HM := Lib.hid (HM.out.below hb hG5)
    have hz6 := hb.size
    have HL2 := Lib.hid hl
    clear hb HLe2 hl
    have HLe3 := Lib.hid (lent_any (HSrc.out _ B6.out) HNc.out (by omega))
    go_wp2_with fail
    refine HLe3.out.mono ?_
    rintro e W7 ⟨v3, rfl, hl, hb⟩
    have B7 := Lib.hid (below_chain B6.out (Nat.le_refl _) hb)
    have h2l : ∀ k, v2.ownBlock = some k → W5.heap.size ≤ k := by
      obtain ⟨g', c', rfl, hg', -⟩ := HL2.out
      intro k e
      simp [Value.ownBlock] at e
      omega
    have h3l : ∀ k, v3.ownBlock = some k → W6.heap.size ≤ k := by
      obtain ⟨g', c', rfl, hg', -⟩ := hl
      intro k e
      simp [Value.ownBlock] at e
      omega
    have HS := Lib.hid (⟨B7.out, HBx.out.later hb, HM.out.below hb HM.out.lt, HT1.out.below hb HT1.out.lt, HT2.out.below hb HT2.out.lt, HL2.out.bar (bar_of_below (S := fun _ => False) hb) (fun _ _ e => e), hl⟩ : LayS w w.heap.size G (w.heap.size + 1) W2.heap.size W5.heap.size W6.heap.size (u8s tail4 ++ rest) (u8s D1) (u8s D2) f g a T2 ss v2 v3 T1 T1 W7)
    have HF := Lib.hid (⟨Nat.le_refl _, by omega, by omega, by omega, fun k e => by have := h2l k e; omega, fun k e => by have := h3l k e; omega⟩ : LayF w w.heap.size G (w.heap.size + 1) W2.heap.size W5.heap.size W6.heap.size v2 v3)
    have hGc : T1.length ≤ cG := hG2
    have HK0 := Lib.hid (And.intro hG3 hG4)
    clear hb hl HL2 HT1 HT2 HM HBx HLe3 h2l h3l hG3 hG4 hG5 hG1 hG2 hz2 hz3 hz4 hz5 hz6 hg1 hg2 HSrc HNc
    generalize W2.heap.size = g2 at *
    generalize w.heap.size + 1 = g1 at *
    obtain ⟨hf, hg, ha, hb⟩ := HI.out
    obtain ⟨E1, hE1⟩ : ∃ E1, lyE f g a b T1.length ss.length = E1 := ⟨_, rfl⟩
    obtain ⟨U1, hU1⟩ : ∃ U1, lyL f g a b T1 ss = U1 := ⟨_, rfl⟩
    have hU1l : U1.length = T1.length := by rw [← hU1]; exact lyL_length _ _ _ _ _ _
    obtain ⟨E2, hE2⟩ : ∃ E2, cpE f g a T1.length T2.length = E2 := ⟨_, rfl⟩
    obtain ⟨U2, hU2⟩ : ∃ U2, cpL f g a U1 T2 = U2 := ⟨_, rfl⟩
    have hU2l : U2.length = T1.length := by rw [← hU2, cpL_length]; exact hU1l
    have hF := HF.out
    have hs0 := HS.out
    obtain ⟨S, hS⟩ : ∃ S : List UInt8 → List UInt8 → World → Prop, S = LayS w w.heap.size G g1 g2 W5.heap.size W6.heap.size (u8s tail4 ++ rest) (u8s D1) (u8s D2) f g a T2 ss v2 v3 := ⟨_, rfl⟩
    have HS0 : Hid (S T1 T1 W7) := by rw [hS]; exact hs0
    have HSl : Hid (∀ m t W W', S m t W → Below W.heap.size W W' → S m t W') := by rw [hS]; exact fun m t W W' h hb => h.later hb
    have HSa : Hid (∀ m t W, S m t W → W.cell? ⟨w.heap.size, 0, none⟩ = some (.int .i64 f) ∧ W.cell? ⟨w.heap.size, 1, none⟩ = some (.int .i64 g) ∧ W.cell? ⟨w.heap.size, 2, none⟩ = some (.int .i64 a)) := by rw [hS]; exact fun m t W h => h.at_.cells
    have HSb : Hid (∀ m t W, S m t W → Below w.heap.size w W) := by rw [hS]; exact fun m t W h => h.below
    have b1 := hF.a0
    have b2 := hF.a1
    have b3 := hF.a2
    have b4 := hF.a3
    have b5 := hF.a4
    have b6 := hF.a5
    have HLay : Hid (∀ W, S T1 T1 W → Calls Try.prog 24 #[.slice (some ⟨G, 0, none⟩) T1.length cG, spotV f g a, .int .i64 b, v3] W fun e W' => e = .returned (.int .i64 E1) ∧ S U1 T1 W') := by
      rw [hS]
      intro W h
      refine (I.lay f g a b h.mine hGc (by omega) (h.l3.byt (by omega)) (Nat.le_refl _) (fun e => by have := b6 _ e; omega) (capped_lent h.l3) hf hg ha hb).mono ?_
      rintro e W' ⟨rfl, hp, hb⟩
      rw [hE1]
      rw [hU1] at hp
      exact ⟨rfl, h.putMine hF hb hp⟩
    have HRLay : Hid (∀ W, S U1 T1 W → Calls Try.prog 25 #[.slice (some ⟨g1, 0, none⟩) T1.length l1, spotV f g a, .int .i64 b, .slice ra ss.length cap] W fun e W' => e = .returned (.int .i64 E1) ∧ S U1 U1 W') := by
      rw [hS]
      intro W h
      have hbl := h.below
      refine (rlay16_any f g a b h.to k1.1 (by omega) (HBy.out W hbl) hbl.size (fun hn e => by
        obtain ⟨_, _, e2, _, hc⟩ := HBy.out W hbl
        cases e2
        rcases hc with h0 | ⟨bb, off, rfl, hbb, -⟩
        · exact hn h0
        · simp [Value.ownBlock] at e; omega) hf hg ha).mono ?_
      rintro e W' ⟨rfl, hp, hb⟩
      rw [hE1]
      rw [hU1] at hp
      exact ⟨rfl, h.putTo hF hb hp⟩
    have HKp : Hid (∀ W, S U1 U1 W → Calls Try.prog 20 #[.slice (some ⟨G, 0, none⟩) T1.length cG, .slice (some ⟨g1, 0, none⟩) T1.length l1] W fun e W' => e = .returned (.bool true) ∧ Below W.heap.size W W') := by
      rw [hS]
      intro W h
      have h1 := lent_picW (base := 0) (Nat.zero_le _) HK0.out.1 (by rw [hU1l]; exact HK0.out.2) h.mine
      have h2 := h.to.byt h.to.lt (by rw [hU1l]; omega) l1
      rw [hU1l] at h1 h2
      exact kept_any h1 h2 (by rw [hU1l]; omega)
    have HKs : Hid (∀ W, S U1 U1 W → Calls Try.prog 20 #[v3, .slice ra ss.length cap] W fun e W' => e = .returned (.bool true) ∧ Below W.heap.size W W') := by
      rw [hS]
      intro W h
      exact kept_any h.l3 (HBy.out W h.below) (by omega)
    have HCp : Hid (∀ W, S U1 U1 W → Calls Try.prog 26 #[.slice (some ⟨G, 0, none⟩) T1.length cG, v2, spotV f g a] W fun e W' => e = .returned (.int .i64 E2) ∧ S U2 U1 W') := by
      rw [hS]
      intro W h
      have hc := I.copy (cap := cG) f g a h.mine (by rw [hU1l]; exact hGc) (by rw [hU1l]; omega) (by omega) (h.l2.byt (by omega)) (Nat.le_refl _) (fun e => by have := b5 _ e; omega) (capped_lent h.l2) hf hg ha
      rw [hU1l, hE2, hU2] at hc
      refine hc.mono ?_
      rintro e W' ⟨rfl, hp, hb⟩
      exact ⟨rfl, h.putMine hF hb hp⟩
    have HRCp : Hid (∀ W, S U2 U1 W → Calls Try.prog 27 #[.slice (some ⟨g1, 0, none⟩) T1.length l1, .slice (some ⟨g2, 0, none⟩) T2.length l2, spotV f g a] W fun e W' => e = .returned (.int .i64 E2) ∧ S U2 U2 W') := by
      rw [hS]
      intro W h
      have hc := rcopy16_any (cap := l1) f g a h.to (by rw [hU1l]; exact k1.1) (by rw [hU1l]; omega) (by omega) (h.src.byt h.src.lt (by omega) l2) (Nat.le_refl _) (fun e => by simp [Value.ownBlock] at e; omega) hf hg ha
      rw [hU1l, hE2, hU2] at hc
      refine hc.mono ?_
      rintro e W' ⟨rfl, hp, hb⟩
      exact ⟨rfl, h.putTo hF hb hp⟩
    have HKp2 : Hid (∀ W, S U2 U2 W → Calls Try.prog 20 #[.slice (some ⟨G, 0, none⟩) T1.length cG, .slice (some ⟨g1, 0, none⟩) T1.length l1] W fun e W' => e = .returned (.bool true) ∧ Below W.heap.size W W') := by
      rw [hS]
      intro W h
      have h1 := lent_picW (base := 0) (Nat.zero_le _) HK0.out.1 (by rw [hU2l]; exact HK0.out.2) h.mine
      have h2 := h.to.byt h.to.lt (by rw [hU2l]; omega) l1
      rw [hU2l] at h1 h2
      exact kept_any h1 h2 (by rw [hU2l]; omega)
    have HKf : Hid (∀ W, S U2 U2 W → Calls Try.prog 20 #[v2, .slice (some ⟨g2, 0, none⟩) T2.length l2] W fun e W' => e = .returned (.bool true) ∧ Below W.heap.size W W') := by
      rw [hS]
      intro W h
      exact kept_any h.l2 (h.src.byt h.src.lt (by omega) l2) (by omega)
    have HGl : Hid ((greyL f).length ≤ 1000000) := by
      obtain ⟨n, hn, hn2⟩ := sN_nat f
      have : (greyL f).length = (sN f).toNat := by simp [greyL]
      show (greyL f).length ≤ 1000000
      omega
    clear hf hg ha hb hE1 hU1 hU1l hE2 hU2 hU2l hF hs0 hS b1 b2 b3 b4 b5 b6 HF HS HK0 hGc k1 k2 HBy
    go_wp2
    refine wp_region_invG (by kernel_rfl) (by kernel_rfl) (LayRI (fun x60 x61 x62 x63 x64 x65 x66 x67 x68 x69 x70 x71 x72 x73 x74 x75 x76 x77 x78 x79 x80 x81 x82 => { tmps := #[spotV f g a, .int .i64 b, .slice ra ss.length cap, .int .i64 p, .int .i64 q, .int .i64 r, .int .i64 less, .int .i64 more, .pointer (some ⟨w.heap.size, 0, none⟩), undef, undef, undef, undef, undef, undef, undef, .bool false, .int .i64 F, .slice (some ⟨g1, 0, none⟩) T1.length l1, .slice (some ⟨g2, 0, none⟩) T2.length l2, .slice (some ⟨G, 0, none⟩) T1.length cG, v2, v3, .slice ra ss.length cap, .int .i64 (ss.length : Int), .bool false, undef, .pointer (some ⟨w.heap.size, 0, none⟩), .int .i64 f, .int .i64 F, .int .i64 F, .int .i64 p, .int .i64 q, .slice (some ⟨g1, 0, none⟩) l1 l1, .int .i64 F, .int .i64 r, .int .i64 q, .slice (some ⟨g2, 0, none⟩) l2 l2, .slice (some ⟨g1, 0, none⟩) l1 l1, .slice (some ⟨g1, 0, none⟩) l1 l1, .int .i64 (l1 : Int), .int .i64 less, .int .i64 (x : Int), .int .i64 ((l1 : Int) - (x : Int)), .int .i64 (T1.length : Int), .slice (some ⟨g1, 0, none⟩) T1.length l1, .slice (some ⟨g2, 0, none⟩) l2 l2, .slice (some ⟨g2, 0, none⟩) l2 l2, .int .i64 (l2 : Int), .int .i64 more, .int .i64 (y : Int), .int .i64 ((l2 : Int) - (y : Int)), .int .i64 (T2.length : Int), .slice (some ⟨g2, 0, none⟩) T2.length l2, .slice (some ⟨g1, 0, none⟩) T1.length l1, .slice (some ⟨G, 0, none⟩) T1.length cG, .slice (some ⟨g2, 0, none⟩) T2.length l2, v2, .slice ra ss.length cap, v3, x60, x61, x62, x63, x64, x65, x66, x67, x68, x69, x70, x71, x72, x73, x74, x75, x76, x77, x78, x79, x80, x81, x82, undef, undef, undef, undef, undef, undef, undef, undef, undef, undef, undef, undef, undef, undef, undef, undef, undef, undef, undef, undef, undef, undef, undef, undef, undef, undef, undef, undef, undef, undef, undef], defers := [] }) S T1 U1 (.slice (some ⟨G, 0, none⟩) T1.length cG) (.slice (some ⟨g1, 0, none⟩) T1.length l1) v3 (.slice ra ss.length cap) (spotV f g a) b E1) ?h0 ?st ?hd
    case h0 =>
      intro L hL
      have e : ∀ i, ¬ L i = true := fun i h => by rw [hL i] at h; cases h
      refine ⟨undef, undef, undef, undef, undef, undef, undef, undef, undef, undef, undef, undef, undef, undef, undef, undef, undef, undef, undef, undef, undef, undef, undef, rfl, ⟨fun h => (e _ h).elim, fun h => (e _ h).elim, fun h => (e _ h).elim, fun h => (e _ h).elim, fun h => (e _ h).elim, fun h => (e _ h).elim, fun h => (e _ h).elim, fun h => (e _ h).elim, fun h => (e _ h).elim, fun h => (e _ h).elim, fun h => (e _ h).elim, fun h => (e _ h).elim, fun h => (e _ h).elim, fun h => (e _ h).elim, fun h => (e _ h).elim, fun h => (e _ h).elim, fun h => (e _ h).elim, fun h => (e _ h).elim, fun h => (e _ h).elim, fun h => (e _ h).elim, fun h => (e _ h).elim, fun h => (e _ h).elim, fun h => (e _ h).elim⟩, ?_⟩
      rw [hL 4, hL 9]
      exact HSl.out _ _ _ _ HS0.out (Below.refl _ _).drew
    case st =>
      refine ⟨?o0, ?o1, ?o2, ?o3, ?o4, ?o5, ?o6, ?o7, ?o8, ?o9, ?o10, ?o11, ?o12, ?o13, ?o14, ?o15, ?o16, ?o17, ?o18, ?o19, ?o20, ?o21, ?o22, trivial⟩
      case o0 =>
        rintro L ac Wr hL hbe hcl ⟨x60, x61, x62, x63, x64, x65, x66, x67, x68, x69, x70, x71, x72, x73, x74, x75, x76, x77, x78, x79, x80, x81, x82, rfl, hC, hS⟩
        have HC := Lib.hid hC
        have HS := Lib.hid hS
        clear hC hS hbe hcl
        refine ⟨rfl, ?_⟩
        go_simp
        exact ⟨_, x61, x62, x63, x64, x65, x66, x67, x68, x69, x70, x71, x72, x73, x74, x75, x76, x77, x78, x79, x80, x81, x82, rfl, ⟨fun _ => rfl, HC.out.l1, HC.out.l2, HC.out.l3, HC.out.l4, HC.out.l5, HC.out.l6, HC.out.l7, HC.out.l8, HC.out.l9, HC.out.l10, HC.out.l11, HC.out.l12, HC.out.l13, HC.out.l14, HC.out.l15, HC.out.l16, HC.out.l17, HC.out.l18, HC.out.l19, HC.out.l20, HC.out.l21, HC.out.l22⟩, HS.out⟩
      case o1 =>
        rintro L ac Wr hL hbe hcl ⟨x60, x61, x62, x63, x64, x65, x66, x67, x68, x69, x70, x71, x72, x73, x74, x75, x76, x77, x78, x79, x80, x81, x82, rfl, hC, hS⟩
        obtain ⟨d0, d1, d2⟩ := HSa.out _ _ _ hS
        have HC := Lib.hid hC
        have HS := Lib.hid hS
        clear hC hS hbe hcl
        refine ⟨rfl, ?_⟩
        go_simp
        exact ⟨x60, _, x62, x63, x64, x65, x66, x67, x68, x69, x70, x71, x72, x73, x74, x75, x76, x77, x78, x79, x80, x81, x82, rfl, ⟨HC.out.l0, fun _ => rfl, HC.out.l2, HC.out.l3, HC.out.l4, HC.out.l5, HC.out.l6, HC.out.l7, HC.out.l8, HC.out.l9, HC.out.l10, HC.out.l11, HC.out.l12, HC.out.l13, HC.out.l14, HC.out.l15, HC.out.l16, HC.out.l17, HC.out.l18, HC.out.l19, HC.out.l20, HC.out.l21, HC.out.l22⟩, HS.out⟩
      case o2 =>
        rintro L ac Wr hL hbe hcl ⟨x60, x61, x62, x63, x64, x65, x66, x67, x68, x69, x70, x71, x72, x73, x74, x75, x76, x77, x78, x79, x80, x81, x82, rfl, hC, hS⟩
        have HC := Lib.hid hC
        have HS := Lib.hid hS
        clear hC hS hbe hcl
        refine ⟨rfl, ?_⟩
        go_simp
        exact ⟨x60, x61, _, x63, x64, x65, x66, x67, x68, x69, x70, x71, x72, x73, x74, x75, x76, x77, x78, x79, x80, x81, x82, rfl, ⟨HC.out.l0, HC.out.l1, fun _ => rfl, HC.out.l3, HC.out.l4, HC.out.l5, HC.out.l6, HC.out.l7, HC.out.l8, HC.out.l9, HC.out.l10, HC.out.l11, HC.out.l12, HC.out.l13, HC.out.l14, HC.out.l15, HC.out.l16, HC.out.l17, HC.out.l18, HC.out.l19, HC.out.l20, HC.out.l21, HC.out.l22⟩, HS.out⟩
      case o3 =>
        rintro L ac Wr hL hbe hcl ⟨x60, x61, x62, x63, x64, x65, x66, x67, x68, x69, x70, x71, x72, x73, x74, x75, x76, x77, x78, x79, x80, x81, x82, rfl, hC, hS⟩
        have HC := Lib.hid hC
        have HS := Lib.hid hS
        clear hC hS hbe hcl
        refine ⟨rfl, ?_⟩
        go_simp
        exact ⟨x60, x61, x62, _, x64, x65, x66, x67, x68, x69, x70, x71, x72, x73, x74, x75, x76, x77, x78, x79, x80, x81, x82, rfl, ⟨HC.out.l0, HC.out.l1, HC.out.l2, fun _ => rfl, HC.out.l4, HC.out.l5, HC.out.l6, HC.out.l7, HC.out.l8, HC.out.l9, HC.out.l10, HC.out.l11, HC.out.l12, HC.out.l13, HC.out.l14, HC.out.l15, HC.out.l16, HC.out.l17, HC.out.l18, HC.out.l19, HC.out.l20, HC.out.l21, HC.out.l22⟩, HS.out⟩
      case o4 =>
        rintro L ac Wr hL hbe hcl ⟨x60, x61, x62, x63, x64, x65, x66, x67, x68, x69, x70, x71, x72, x73, x74, x75, x76, x77, x78, x79, x80, x81, x82, rfl, hC, hS⟩
        have h1 : L 9 = false := by rw [Bool.eq_false_iff]; intro h; have := hcl 9 _ rfl h { on := 4, ground := .chain } (by simp) rfl; rw [hL] at this; cases this
        rw [hL, h1] at hS
        obtain rfl := hC.l0 (hbe { on := 0, ground := .data } (by simp) rfl)
        obtain rfl := hC.l1 (hbe { on := 1, ground := .data } (by simp) rfl)
        obtain rfl := hC.l2 (hbe { on := 2, ground := .data } (by simp) rfl)
        obtain rfl := hC.l3 (hbe { on := 3, ground := .data } (by simp) rfl)
        have HC := Lib.hid hC
        have HS := Lib.hid hS
        clear hC hS hbe hcl
        refine ⟨rfl, ?_⟩
        go_simp
        refine ⟨trivial, rfl, (callsIn_wide.2 (HLay.out Wr HS.out)).mono ?_⟩
        rintro e W6 ⟨rfl, hS6⟩
        exact ⟨_, _, _, _, _, x65, x66, x67, x68, x69, x70, x71, x72, x73, x74, x75, x76, x77, x78, x79, x80, x81, x82, rfl, ⟨HC.out.l0, HC.out.l1, HC.out.l2, HC.out.l3, fun _ => rfl, HC.out.l5, HC.out.l6, HC.out.l7, HC.out.l8, HC.out.l9, HC.out.l10, HC.out.l11, HC.out.l12, HC.out.l13, HC.out.l14, HC.out.l15, HC.out.l16, HC.out.l17, HC.out.l18, HC.out.l19, HC.out.l20, HC.out.l21, HC.out.l22⟩, by (show S (cond true U1 T1) (cond (L 9) U1 T1) W6); rw [h1]; exact hS6⟩
      case o5 =>
        rintro L ac Wr hL hbe hcl ⟨x60, x61, x62, x63, x64, x65, x66, x67, x68, x69, x70, x71, x72, x73, x74, x75, x76, x77, x78, x79, x80, x81, x82, rfl, hC, hS⟩
        have HC := Lib.hid hC
        have HS := Lib.hid hS
        clear hC hS hbe hcl
        refine ⟨rfl, ?_⟩
        go_simp
        exact ⟨x60, x61, x62, x63, x64, _, x66, x67, x68, x69, x70, x71, x72, x73, x74, x75, x76, x77, x78, x79, x80, x81, x82, rfl, ⟨HC.out.l0, HC.out.l1, HC.out.l2, HC.out.l3, HC.out.l4, fun _ => rfl, HC.out.l6, HC.out.l7, HC.out.l8, HC.out.l9, HC.out.l10, HC.out.l11, HC.out.l12, HC.out.l13, HC.out.l14, HC.out.l15, HC.out.l16, HC.out.l17, HC.out.l18, HC.out.l19, HC.out.l20, HC.out.l21, HC.out.l22⟩, HS.out⟩
      case o6 =>
        rintro L ac Wr hL hbe hcl ⟨x60, x61, x62, x63, x64, x65, x66, x67, x68, x69, x70, x71, x72, x73, x74, x75, x76, x77, x78, x79, x80, x81, x82, rfl, hC, hS⟩
        obtain ⟨d0, d1, d2⟩ := HSa.out _ _ _ hS
        have HC := Lib.hid hC
        have HS := Lib.hid hS
        clear hC hS hbe hcl
        refine ⟨rfl, ?_⟩
        go_simp
        exact ⟨x60, x61, x62, x63, x64, x65, _, x67, x68, x69, x70, x71, x72, x73, x74, x75, x76, x77, x78, x79, x80, x81, x82, rfl, ⟨HC.out.l0, HC.out.l1, HC.out.l2, HC.out.l3, HC.out.l4, HC.out.l5, fun _ => rfl, HC.out.l7, HC.out.l8, HC.out.l9, HC.out.l10, HC.out.l11, HC.out.l12, HC.out.l13, HC.out.l14, HC.out.l15, HC.out.l16, HC.out.l17, HC.out.l18, HC.out.l19, HC.out.l20, HC.out.l21, HC.out.l22⟩, HS.out⟩
      case o7 =>
        rintro L ac Wr hL hbe hcl ⟨x60, x61, x62, x63, x64, x65, x66, x67, x68, x69, x70, x71, x72, x73, x74, x75, x76, x77, x78, x79, x80, x81, x82, rfl, hC, hS⟩
        have HC := Lib.hid hC
        have HS := Lib.hid hS
        clear hC hS hbe hcl
        refine ⟨rfl, ?_⟩
        go_simp
        exact ⟨x60, x61, x62, x63, x64, x65, x66, _, x68, x69, x70, x71, x72, x73, x74, x75, x76, x77, x78, x79, x80, x81, x82, rfl, ⟨HC.out.l0, HC.out.l1, HC.out.l2, HC.out.l3, HC.out.l4, HC.out.l5, HC.out.l6, fun _ => rfl, HC.out.l8, HC.out.l9, HC.out.l10, HC.out.l11, HC.out.l12, HC.out.l13, HC.out.l14, HC.out.l15, HC.out.l16, HC.out.l17, HC.out.l18, HC.out.l19, HC.out.l20, HC.out.l21, HC.out.l22⟩, HS.out⟩
      case o8 =>
        rintro L ac Wr hL hbe hcl ⟨x60, x61, x62, x63, x64, x65, x66, x67, x68, x69, x70, x71, x72, x73, x74, x75, x76, x77, x78, x79, x80, x81, x82, rfl, hC, hS⟩
        have HC := Lib.hid hC
        have HS := Lib.hid hS
        clear hC hS hbe hcl
        refine ⟨rfl, ?_⟩
        go_simp
        exact ⟨x60, x61, x62, x63, x64, x65, x66, x67, _, x69, x70, x71, x72, x73, x74, x75, x76, x77, x78, x79, x80, x81, x82, rfl, ⟨HC.out.l0, HC.out.l1, HC.out.l2, HC.out.l3, HC.out.l4, HC.out.l5, HC.out.l6, HC.out.l7, fun _ => rfl, HC.out.l9, HC.out.l10, HC.out.l11, HC.out.l12, HC.out.l13, HC.out.l14, HC.out.l15, HC.out.l16, HC.out.l17, HC.out.l18, HC.out.l19, HC.out.l20, HC.out.l21, HC.out.l22⟩, HS.out⟩
      case o9 =>
        rintro L ac Wr hL hbe hcl ⟨x60, x61, x62, x63, x64, x65, x66, x67, x68, x69, x70, x71, x72, x73, x74, x75, x76, x77, x78, x79, x80, x81, x82, rfl, hC, hS⟩
        have h0 : L 4 = true := hbe { on := 4, ground := .chain } (by simp) rfl
        rw [hL, h0] at hS
        obtain rfl := hC.l5 (hbe { on := 5, ground := .data } (by simp) rfl)
        obtain rfl := hC.l6 (hbe { on := 6, ground := .data } (by simp) rfl)
        obtain rfl := hC.l7 (hbe { on := 7, ground := .data } (by simp) rfl)
        obtain rfl := hC.l8 (hbe { on := 8, ground := .data } (by simp) rfl)
        have HC := Lib.hid hC
        have HS := Lib.hid hS
        clear hC hS hbe hcl
        refine ⟨rfl, ?_⟩
        go_simp
        refine ⟨trivial, rfl, (callsIn_wide.2 (HRLay.out Wr HS.out)).mono ?_⟩
        rintro e W6 ⟨rfl, hS6⟩
        exact ⟨x60, x61, x62, x63, x64, _, _, _, _, _, x70, x71, x72, x73, x74, x75, x76, x77, x78, x79, x80, x81, x82, rfl, ⟨HC.out.l0, HC.out.l1, HC.out.l2, HC.out.l3, HC.out.l4, HC.out.l5, HC.out.l6, HC.out.l7, HC.out.l8, fun _ => rfl, HC.out.l10, HC.out.l11, HC.out.l12, HC.out.l13, HC.out.l14, HC.out.l15, HC.out.l16, HC.out.l17, HC.out.l18, HC.out.l19, HC.out.l20, HC.out.l21, HC.out.l22⟩, by (show S (cond (L 4) U1 T1) (cond true U1 T1) W6); rw [h0]; exact hS6⟩
      case o10 =>
        rintro L ac Wr hL hbe hcl ⟨x60, x61, x62, x63, x64, x65, x66, x67, x68, x69, x70, x71, x72, x73, x74, x75, x76, x77, x78, x79, x80, x81, x82, rfl, hC, hS⟩
        obtain rfl := hC.l4 (hbe { on := 4, ground := .data } (by simp) rfl)
        obtain rfl := hC.l9 (hbe { on := 9, ground := .data } (by simp) rfl)
        have HC := Lib.hid hC
        have HS := Lib.hid hS
        clear hC hS hbe hcl
        refine ⟨rfl, ?_⟩
        go_simp
        exact ⟨x60, x61, x62, x63, _, x65, x66, x67, x68, _, _, x71, x72, x73, x74, x75, x76, x77, x78, x79, x80, x81, x82, rfl, ⟨HC.out.l0, HC.out.l1, HC.out.l2, HC.out.l3, HC.out.l4, HC.out.l5, HC.out.l6, HC.out.l7, HC.out.l8, HC.out.l9, fun _ => rfl, HC.out.l11, HC.out.l12, HC.out.l13, HC.out.l14, HC.out.l15, HC.out.l16, HC.out.l17, HC.out.l18, HC.out.l19, HC.out.l20, HC.out.l21, HC.out.l22⟩, HS.out⟩
      case o11 =>
        rintro L ac Wr hL hbe hcl ⟨x60, x61, x62, x63, x64, x65, x66, x67, x68, x69, x70, x71, x72, x73, x74, x75, x76, x77, x78, x79, x80, x81, x82, rfl, hC, hS⟩
        obtain rfl := hC.l10 (hbe { on := 10, ground := .data } (by simp) rfl)
        have HC := Lib.hid hC
        have HS := Lib.hid hS
        clear hC hS hbe hcl
        refine ⟨rfl, ?_⟩
        go_simp
        exact ⟨x60, x61, x62, x63, x64, x65, x66, x67, x68, x69, _, _, x72, x73, x74, x75, x76, x77, x78, x79, x80, x81, x82, rfl, ⟨HC.out.l0, HC.out.l1, HC.out.l2, HC.out.l3, HC.out.l4, HC.out.l5, HC.out.l6, HC.out.l7, HC.out.l8, HC.out.l9, HC.out.l10, fun _ => rfl, HC.out.l12, HC.out.l13, HC.out.l14, HC.out.l15, HC.out.l16, HC.out.l17, HC.out.l18, HC.out.l19, HC.out.l20, HC.out.l21, HC.out.l22⟩, HS.out⟩
      case o12 =>
        rintro L ac Wr hL hbe hcl ⟨x60, x61, x62, x63, x64, x65, x66, x67, x68, x69, x70, x71, x72, x73, x74, x75, x76, x77, x78, x79, x80, x81, x82, rfl, hC, hS⟩
        obtain rfl := hC.l11 (hbe { on := 11, ground := .guard } (by simp) rfl)
        have HC := Lib.hid hC
        have HS := Lib.hid hS
        clear hC hS hbe hcl
        refine ⟨rfl, ?_⟩
        go_simp
        exact ⟨x60, x61, x62, x63, x64, x65, x66, x67, x68, x69, x70, _, _, x73, x74, x75, x76, x77, x78, x79, x80, x81, x82, rfl, ⟨HC.out.l0, HC.out.l1, HC.out.l2, HC.out.l3, HC.out.l4, HC.out.l5, HC.out.l6, HC.out.l7, HC.out.l8, HC.out.l9, HC.out.l10, HC.out.l11, fun _ => rfl, HC.out.l13, HC.out.l14, HC.out.l15, HC.out.l16, HC.out.l17, HC.out.l18, HC.out.l19, HC.out.l20, HC.out.l21, HC.out.l22⟩, HS.out⟩
      case o13 =>
        rintro L ac Wr hL hbe hcl ⟨x60, x61, x62, x63, x64, x65, x66, x67, x68, x69, x70, x71, x72, x73, x74, x75, x76, x77, x78, x79, x80, x81, x82, rfl, hC, hS⟩
        obtain rfl := hC.l11 (hbe { on := 11, ground := .guard } (by simp) rfl)
        have HC := Lib.hid hC
        have HS := Lib.hid hS
        clear hC hS hbe hcl
        refine ⟨rfl, ?_⟩
        go_simp
        exact ⟨x60, x61, x62, x63, x64, x65, x66, x67, x68, x69, x70, _, x72, _, x74, x75, x76, x77, x78, x79, x80, x81, x82, rfl, ⟨HC.out.l0, HC.out.l1, HC.out.l2, HC.out.l3, HC.out.l4, HC.out.l5, HC.out.l6, HC.out.l7, HC.out.l8, HC.out.l9, HC.out.l10, HC.out.l11, HC.out.l12, fun _ => rfl, HC.out.l14, HC.out.l15, HC.out.l16, HC.out.l17, HC.out.l18, HC.out.l19, HC.out.l20, HC.out.l21, HC.out.l22⟩, HS.out⟩
      case o14 =>
        rintro L ac Wr hL hbe hcl ⟨x60, x61, x62, x63, x64, x65, x66, x67, x68, x69, x70, x71, x72, x73, x74, x75, x76, x77, x78, x79, x80, x81, x82, rfl, hC, hS⟩
        have u11 : L 11 = true := hbe { on := 11, ground := .guard } (by simp) rfl
        have u10 : L 10 = true := hcl 11 _ rfl u11 { on := 10, ground := .data } (by simp) rfl
        have u9 : L 9 = true := hcl 10 _ rfl u10 { on := 9, ground := .data } (by simp) rfl
        have u4 : L 4 = true := hcl 10 _ rfl u10 { on := 4, ground := .data } (by simp) rfl
        rw [u4, u9] at hS
        obtain rfl := hC.l11 (hbe { on := 11, ground := .guard } (by simp) rfl)
        obtain rfl := hC.l12 (hbe { on := 12, ground := .data } (by simp) rfl)
        obtain rfl := hC.l13 (hbe { on := 13, ground := .data } (by simp) rfl)
        have HC := Lib.hid hC
        have HS := Lib.hid hS
        clear hC hS hbe hcl
        refine ⟨rfl, ?_⟩
        go_simp
        refine ⟨trivial, rfl, (callsIn_wide.2 (HKp.out Wr HS.out)).mono ?_⟩
        rintro e W6 ⟨rfl, hS6⟩
        exact ⟨x60, x61, x62, x63, x64, x65, x66, x67, x68, x69, x70, _, _, _, _, x75, x76, x77, x78, x79, x80, x81, x82, rfl, ⟨HC.out.l0, HC.out.l1, HC.out.l2, HC.out.l3, HC.out.l4, HC.out.l5, HC.out.l6, HC.out.l7, HC.out.l8, HC.out.l9, HC.out.l10, HC.out.l11, HC.out.l12, HC.out.l13, fun _ => rfl, HC.out.l15, HC.out.l16, HC.out.l17, HC.out.l18, HC.out.l19, HC.out.l20, HC.out.l21, HC.out.l22⟩, by (show S (cond (L 4) U1 T1) (cond (L 9) U1 T1) W6); rw [u4, u9]; exact HSl.out _ _ _ _ HS.out hS6⟩
      case o15 =>
        rintro L ac Wr hL hbe hcl ⟨x60, x61, x62, x63, x64, x65, x66, x67, x68, x69, x70, x71, x72, x73, x74, x75, x76, x77, x78, x79, x80, x81, x82, rfl, hC, hS⟩
        obtain rfl := hC.l11 (hbe { on := 11, ground := .guard } (by simp) rfl)
        obtain rfl := hC.l14 (hbe { on := 14, ground := .data } (by simp) rfl)
        have HC := Lib.hid hC
        have HS := Lib.hid hS
        clear hC hS hbe hcl
        refine ⟨rfl, ?_⟩
        go_simp
        exact ⟨x60, x61, x62, x63, x64, x65, x66, x67, x68, x69, x70, _, x72, x73, _, _, x76, x77, x78, x79, x80, x81, x82, rfl, ⟨HC.out.l0, HC.out.l1, HC.out.l2, HC.out.l3, HC.out.l4, HC.out.l5, HC.out.l6, HC.out.l7, HC.out.l8, HC.out.l9, HC.out.l10, HC.out.l11, HC.out.l12, HC.out.l13, HC.out.l14, fun _ => rfl, HC.out.l16, HC.out.l17, HC.out.l18, HC.out.l19, HC.out.l20, HC.out.l21, HC.out.l22⟩, HS.out⟩
      case o16 =>
        rintro L ac Wr hL hbe hcl ⟨x60, x61, x62, x63, x64, x65, x66, x67, x68, x69, x70, x71, x72, x73, x74, x75, x76, x77, x78, x79, x80, x81, x82, rfl, hC, hS⟩
        obtain rfl := hC.l11 (hbe { on := 11, ground := .data } (by simp) rfl)
        obtain rfl := hC.l15 (hbe { on := 15, ground := .data } (by simp) rfl)
        have HC := Lib.hid hC
        have HS := Lib.hid hS
        clear hC hS hbe hcl
        refine ⟨rfl, ?_⟩
        go_simp
        exact ⟨x60, x61, x62, x63, x64, x65, x66, x67, x68, x69, x70, _, x72, x73, x74, _, _, x77, x78, x79, x80, x81, x82, rfl, ⟨HC.out.l0, HC.out.l1, HC.out.l2, HC.out.l3, HC.out.l4, HC.out.l5, HC.out.l6, HC.out.l7, HC.out.l8, HC.out.l9, HC.out.l10, HC.out.l11, HC.out.l12, HC.out.l13, HC.out.l14, HC.out.l15, fun _ => rfl, HC.out.l17, HC.out.l18, HC.out.l19, HC.out.l20, HC.out.l21, HC.out.l22⟩, HS.out⟩
      case o17 =>
        rintro L ac Wr hL hbe hcl ⟨x60, x61, x62, x63, x64, x65, x66, x67, x68, x69, x70, x71, x72, x73, x74, x75, x76, x77, x78, x79, x80, x81, x82, rfl, hC, hS⟩
        obtain rfl := hC.l16 (hbe { on := 16, ground := .data } (by simp) rfl)
        have HC := Lib.hid hC
        have HS := Lib.hid hS
        clear hC hS hbe hcl
        refine ⟨rfl, ?_⟩
        go_simp
        exact ⟨x60, x61, x62, x63, x64, x65, x66, x67, x68, x69, x70, x71, x72, x73, x74, x75, _, _, x78, x79, x80, x81, x82, rfl, ⟨HC.out.l0, HC.out.l1, HC.out.l2, HC.out.l3, HC.out.l4, HC.out.l5, HC.out.l6, HC.out.l7, HC.out.l8, HC.out.l9, HC.out.l10, HC.out.l11, HC.out.l12, HC.out.l13, HC.out.l14, HC.out.l15, HC.out.l16, fun _ => rfl, HC.out.l18, HC.out.l19, HC.out.l20, HC.out.l21, HC.out.l22⟩, HS.out⟩
      case o18 =>
        rintro L ac Wr hL hbe hcl ⟨x60, x61, x62, x63, x64, x65, x66, x67, x68, x69, x70, x71, x72, x73, x74, x75, x76, x77, x78, x79, x80, x81, x82, rfl, hC, hS⟩
        obtain rfl := hC.l17 (hbe { on := 17, ground := .guard } (by simp) rfl)
        have HC := Lib.hid hC
        have HS := Lib.hid hS
        clear hC hS hbe hcl
        refine ⟨rfl, ?_⟩
        go_simp
        exact ⟨x60, x61, x62, x63, x64, x65, x66, x67, x68, x69, x70, x71, x72, x73, x74, x75, x76, _, _, x79, x80, x81, x82, rfl, ⟨HC.out.l0, HC.out.l1, HC.out.l2, HC.out.l3, HC.out.l4, HC.out.l5, HC.out.l6, HC.out.l7, HC.out.l8, HC.out.l9, HC.out.l10, HC.out.l11, HC.out.l12, HC.out.l13, HC.out.l14, HC.out.l15, HC.out.l16, HC.out.l17, fun _ => rfl, HC.out.l19, HC.out.l20, HC.out.l21, HC.out.l22⟩, HS.out⟩
      case o19 =>
        rintro L ac Wr hL hbe hcl ⟨x60, x61, x62, x63, x64, x65, x66, x67, x68, x69, x70, x71, x72, x73, x74, x75, x76, x77, x78, x79, x80, x81, x82, rfl, hC, hS⟩
        obtain rfl := hC.l17 (hbe { on := 17, ground := .guard } (by simp) rfl)
        have HC := Lib.hid hC
        have HS := Lib.hid hS
        clear hC hS hbe hcl
        refine ⟨rfl, ?_⟩
        go_simp
        exact ⟨x60, x61, x62, x63, x64, x65, x66, x67, x68, x69, x70, x71, x72, x73, x74, x75, x76, _, x78, _, x80, x81, x82, rfl, ⟨HC.out.l0, HC.out.l1, HC.out.l2, HC.out.l3, HC.out.l4, HC.out.l5, HC.out.l6, HC.out.l7, HC.out.l8, HC.out.l9, HC.out.l10, HC.out.l11, HC.out.l12, HC.out.l13, HC.out.l14, HC.out.l15, HC.out.l16, HC.out.l17, HC.out.l18, fun _ => rfl, HC.out.l20, HC.out.l21, HC.out.l22⟩, HS.out⟩
      case o20 =>
        rintro L ac Wr hL hbe hcl ⟨x60, x61, x62, x63, x64, x65, x66, x67, x68, x69, x70, x71, x72, x73, x74, x75, x76, x77, x78, x79, x80, x81, x82, rfl, hC, hS⟩
        have u17 : L 17 = true := hbe { on := 17, ground := .guard } (by simp) rfl
        have u16 : L 16 = true := hcl 17 _ rfl u17 { on := 16, ground := .data } (by simp) rfl
        have u11 : L 11 = true := hcl 16 _ rfl u16 { on := 11, ground := .data } (by simp) rfl
        have u10 : L 10 = true := hcl 11 _ rfl u11 { on := 10, ground := .data } (by simp) rfl
        have u9 : L 9 = true := hcl 10 _ rfl u10 { on := 9, ground := .data } (by simp) rfl
        have u4 : L 4 = true := hcl 10 _ rfl u10 { on := 4, ground := .data } (by simp) rfl
        rw [u4, u9] at hS
        obtain rfl := hC.l17 (hbe { on := 17, ground := .guard } (by simp) rfl)
        obtain rfl := hC.l18 (hbe { on := 18, ground := .data } (by simp) rfl)
        obtain rfl := hC.l19 (hbe { on := 19, ground := .data } (by simp) rfl)
        have HC := Lib.hid hC
        have HS := Lib.hid hS
        clear hC hS hbe hcl
        refine ⟨rfl, ?_⟩
        go_simp
        refine ⟨trivial, rfl, (callsIn_wide.2 (HKs.out Wr HS.out)).mono ?_⟩
        rintro e W6 ⟨rfl, hS6⟩
        exact ⟨x60, x61, x62, x63, x64, x65, x66, x67, x68, x69, x70, x71, x72, x73, x74, x75, x76, _, _, _, _, x81, x82, rfl, ⟨HC.out.l0, HC.out.l1, HC.out.l2, HC.out.l3, HC.out.l4, HC.out.l5, HC.out.l6, HC.out.l7, HC.out.l8, HC.out.l9, HC.out.l10, HC.out.l11, HC.out.l12, HC.out.l13, HC.out.l14, HC.out.l15, HC.out.l16, HC.out.l17, HC.out.l18, HC.out.l19, fun _ => rfl, HC.out.l21, HC.out.l22⟩, by (show S (cond (L 4) U1 T1) (cond (L 9) U1 T1) W6); rw [u4, u9]; exact HSl.out _ _ _ _ HS.out hS6⟩
      case o21 =>
        rintro L ac Wr hL hbe hcl ⟨x60, x61, x62, x63, x64, x65, x66, x67, x68, x69, x70, x71, x72, x73, x74, x75, x76, x77, x78, x79, x80, x81, x82, rfl, hC, hS⟩
        obtain rfl := hC.l17 (hbe { on := 17, ground := .guard } (by simp) rfl)
        obtain rfl := hC.l20 (hbe { on := 20, ground := .data } (by simp) rfl)
        have HC := Lib.hid hC
        have HS := Lib.hid hS
        clear hC hS hbe hcl
        refine ⟨rfl, ?_⟩
        go_simp
        exact ⟨x60, x61, x62, x63, x64, x65, x66, x67, x68, x69, x70, x71, x72, x73, x74, x75, x76, _, x78, x79, _, _, x82, rfl, ⟨HC.out.l0, HC.out.l1, HC.out.l2, HC.out.l3, HC.out.l4, HC.out.l5, HC.out.l6, HC.out.l7, HC.out.l8, HC.out.l9, HC.out.l10, HC.out.l11, HC.out.l12, HC.out.l13, HC.out.l14, HC.out.l15, HC.out.l16, HC.out.l17, HC.out.l18, HC.out.l19, HC.out.l20, fun _ => rfl, HC.out.l22⟩, HS.out⟩
      case o22 =>
        rintro L ac Wr hL hbe hcl ⟨x60, x61, x62, x63, x64, x65, x66, x67, x68, x69, x70, x71, x72, x73, x74, x75, x76, x77, x78, x79, x80, x81, x82, rfl, hC, hS⟩
        obtain rfl := hC.l17 (hbe { on := 17, ground := .data } (by simp) rfl)
        obtain rfl := hC.l21 (hbe { on := 21, ground := .data } (by simp) rfl)
        have HC := Lib.hid hC
        have HS := Lib.hid hS
        clear hC hS hbe hcl
        refine ⟨rfl, ?_⟩
        go_simp
        exact ⟨x60, x61, x62, x63, x64, x65, x66, x67, x68, x69, x70, x71, x72, x73, x74, x75, x76, _, x78, x79, x80, _, _, rfl, ⟨HC.out.l0, HC.out.l1, HC.out.l2, HC.out.l3, HC.out.l4, HC.out.l5, HC.out.l6, HC.out.l7, HC.out.l8, HC.out.l9, HC.out.l10, HC.out.l11, HC.out.l12, HC.out.l13, HC.out.l14, HC.out.l15, HC.out.l16, HC.out.l17, HC.out.l18, HC.out.l19, HC.out.l20, HC.out.l21, fun _ => rfl⟩, HS.out⟩
    case hd =>
      rintro L ac Wr hL ⟨x60, x61, x62, x63, x64, x65, x66, x67, x68, x69, x70, x71, x72, x73, x74, x75, x76, x77, x78, x79, x80, x81, x82, rfl, hC, hS⟩
      have hlast := hC.l22 (hL 22 (by decide))
      rw [hL 4 (by decide), hL 9 (by decide)] at hS
      clear hC hL
      subst hlast
      have HS0 := Lib.hid hS
      clear hS
      go_wp2
      refine wp_region_invG (by kernel_rfl) (by kernel_rfl) (CopRI (fun x83 x84 x85 x86 x87 x88 x89 x90 x91 x92 x93 x94 x95 x96 x97 x98 x99 x100 x101 x102 x103 => { tmps := #[spotV f g a, .int .i64 b, .slice ra ss.length cap, .int .i64 p, .int .i64 q, .int .i64 r, .int .i64 less, .int .i64 more, .pointer (some ⟨w.heap.size, 0, none⟩), undef, undef, undef, undef, undef, undef, undef, .bool false, .int .i64 F, .slice (some ⟨g1, 0, none⟩) T1.length l1, .slice (some ⟨g2, 0, none⟩) T2.length l2, .slice (some ⟨G, 0, none⟩) T1.length cG, v2, v3, .slice ra ss.length cap, .int .i64 (ss.length : Int), .bool false, undef, .pointer (some ⟨w.heap.size, 0, none⟩), .int .i64 f, .int .i64 F, .int .i64 F, .int .i64 p, .int .i64 q, .slice (some ⟨g1, 0, none⟩) l1 l1, .int .i64 F, .int .i64 r, .int .i64 q, .slice (some ⟨g2, 0, none⟩) l2 l2, .slice (some ⟨g1, 0, none⟩) l1 l1, .slice (some ⟨g1, 0, none⟩) l1 l1, .int .i64 (l1 : Int), .int .i64 less, .int .i64 (x : Int), .int .i64 ((l1 : Int) - (x : Int)), .int .i64 (T1.length : Int), .slice (some ⟨g1, 0, none⟩) T1.length l1, .slice (some ⟨g2, 0, none⟩) l2 l2, .slice (some ⟨g2, 0, none⟩) l2 l2, .int .i64 (l2 : Int), .int .i64 more, .int .i64 (y : Int), .int .i64 ((l2 : Int) - (y : Int)), .int .i64 (T2.length : Int), .slice (some ⟨g2, 0, none⟩) T2.length l2, .slice (some ⟨g1, 0, none⟩) T1.length l1, .slice (some ⟨G, 0, none⟩) T1.length cG, .slice (some ⟨g2, 0, none⟩) T2.length l2, v2, .slice ra ss.length cap, v3, x60, x61, x62, x63, x64, x65, x66, x67, x68, x69, x70, x71, x72, x73, x74, x75, x76, x77, x78, x79, x80, x81, .bool false, x83, x84, x85, x86, x87, x88, x89, x90, x91, x92, x93, x94, x95, x96, x97, x98, x99, x100, x101, x102, x103, undef, undef, undef, undef, undef, undef, undef, undef, undef, undef], defers := [] }) S U1 U2 (.slice (some ⟨G, 0, none⟩) T1.length cG) (.slice (some ⟨g1, 0, none⟩) T1.length l1) v2 (.slice (some ⟨g2, 0, none⟩) T2.length l2) (spotV f g a) E2) ?h0 ?st ?hd
      case h0 =>
        intro L hL
        have e : ∀ i, ¬ L i = true := fun i h => by rw [hL i] at h; cases h
        refine ⟨undef, undef, undef, undef, undef, undef, undef, undef, undef, undef, undef, undef, undef, undef, undef, undef, undef, undef, undef, undef, undef, rfl, ⟨fun h => (e _ h).elim, fun h => (e _ h).elim, fun h => (e _ h).elim, fun h => (e _ h).elim, fun h => (e _ h).elim, fun h => (e _ h).elim, fun h => (e _ h).elim, fun h => (e _ h).elim, fun h => (e _ h).elim, fun h => (e _ h).elim, fun h => (e _ h).elim, fun h => (e _ h).elim, fun h => (e _ h).elim, fun h => (e _ h).elim, fun h => (e _ h).elim, fun h => (e _ h).elim, fun h => (e _ h).elim, fun h => (e _ h).elim, fun h => (e _ h).elim, fun h => (e _ h).elim, fun h => (e _ h).elim⟩, ?_⟩
        rw [hL 3, hL 7]
        exact HSl.out _ _ _ _ HS0.out (Below.refl _ _).drew
      case st =>
        refine ⟨?o0, ?o1, ?o2, ?o3, ?o4, ?o5, ?o6, ?o7, ?o8, ?o9, ?o10, ?o11, ?o12, ?o13, ?o14, ?o15, ?o16, ?o17, ?o18, ?o19, ?o20, trivial⟩
        case o0 =>
          rintro L ac Wr hL hbe hcl ⟨x83, x84, x85, x86, x87, x88, x89, x90, x91, x92, x93, x94, x95, x96, x97, x98, x99, x100, x101, x102, x103, rfl, hC, hS⟩
          have HC := Lib.hid hC
          have HS := Lib.hid hS
          clear hC hS hbe hcl
          refine ⟨rfl, ?_⟩
          go_simp
          exact ⟨_, x84, x85, x86, x87, x88, x89, x90, x91, x92, x93, x94, x95, x96, x97, x98, x99, x100, x101, x102, x103, rfl, ⟨fun _ => rfl, HC.out.l1, HC.out.l2, HC.out.l3, HC.out.l4, HC.out.l5, HC.out.l6, HC.out.l7, HC.out.l8, HC.out.l9, HC.out.l10, HC.out.l11, HC.out.l12, HC.out.l13, HC.out.l14, HC.out.l15, HC.out.l16, HC.out.l17, HC.out.l18, HC.out.l19, HC.out.l20⟩, HS.out⟩
        case o1 =>
          rintro L ac Wr hL hbe hcl ⟨x83, x84, x85, x86, x87, x88, x89, x90, x91, x92, x93, x94, x95, x96, x97, x98, x99, x100, x101, x102, x103, rfl, hC, hS⟩
          have HC := Lib.hid hC
          have HS := Lib.hid hS
          clear hC hS hbe hcl
          refine ⟨rfl, ?_⟩
          go_simp
          exact ⟨x83, _, x85, x86, x87, x88, x89, x90, x91, x92, x93, x94, x95, x96, x97, x98, x99, x100, x101, x102, x103, rfl, ⟨HC.out.l0, fun _ => rfl, HC.out.l2, HC.out.l3, HC.out.l4, HC.out.l5, HC.out.l6, HC.out.l7, HC.out.l8, HC.out.l9, HC.out.l10, HC.out.l11, HC.out.l12, HC.out.l13, HC.out.l14, HC.out.l15, HC.out.l16, HC.out.l17, HC.out.l18, HC.out.l19, HC.out.l20⟩, HS.out⟩
        case o2 =>
          rintro L ac Wr hL hbe hcl ⟨x83, x84, x85, x86, x87, x88, x89, x90, x91, x92, x93, x94, x95, x96, x97, x98, x99, x100, x101, x102, x103, rfl, hC, hS⟩
          obtain ⟨d0, d1, d2⟩ := HSa.out _ _ _ hS
          have HC := Lib.hid hC
          have HS := Lib.hid hS
          clear hC hS hbe hcl
          refine ⟨rfl, ?_⟩
          go_simp
          exact ⟨x83, x84, _, x86, x87, x88, x89, x90, x91, x92, x93, x94, x95, x96, x97, x98, x99, x100, x101, x102, x103, rfl, ⟨HC.out.l0, HC.out.l1, fun _ => rfl, HC.out.l3, HC.out.l4, HC.out.l5, HC.out.l6, HC.out.l7, HC.out.l8, HC.out.l9, HC.out.l10, HC.out.l11, HC.out.l12, HC.out.l13, HC.out.l14, HC.out.l15, HC.out.l16, HC.out.l17, HC.out.l18, HC.out.l19, HC.out.l20⟩, HS.out⟩
        case o3 =>
          rintro L ac Wr hL hbe hcl ⟨x83, x84, x85, x86, x87, x88, x89, x90, x91, x92, x93, x94, x95, x96, x97, x98, x99, x100, x101, x102, x103, rfl, hC, hS⟩
          have h1 : L 7 = false := by rw [Bool.eq_false_iff]; intro h; have := hcl 7 _ rfl h { on := 3, ground := .chain } (by simp) rfl; rw [hL] at this; cases this
          rw [hL, h1] at hS
          obtain rfl := hC.l0 (hbe { on := 0, ground := .data } (by simp) rfl)
          obtain rfl := hC.l1 (hbe { on := 1, ground := .data } (by simp) rfl)
          obtain rfl := hC.l2 (hbe { on := 2, ground := .data } (by simp) rfl)
          have HC := Lib.hid hC
          have HS := Lib.hid hS
          clear hC hS hbe hcl
          refine ⟨rfl, ?_⟩
          go_simp
          refine ⟨trivial, rfl, (callsIn_wide.2 (HCp.out Wr HS.out)).mono ?_⟩
          rintro e W6 ⟨rfl, hS6⟩
          exact ⟨_, _, _, _, x87, x88, x89, x90, x91, x92, x93, x94, x95, x96, x97, x98, x99, x100, x101, x102, x103, rfl, ⟨HC.out.l0, HC.out.l1, HC.out.l2, fun _ => rfl, HC.out.l4, HC.out.l5, HC.out.l6, HC.out.l7, HC.out.l8, HC.out.l9, HC.out.l10, HC.out.l11, HC.out.l12, HC.out.l13, HC.out.l14, HC.out.l15, HC.out.l16, HC.out.l17, HC.out.l18, HC.out.l19, HC.out.l20⟩, by (show S (cond true U2 U1) (cond (L 7) U2 U1) W6); rw [h1]; exact hS6⟩
        case o4 =>
          rintro L ac Wr hL hbe hcl ⟨x83, x84, x85, x86, x87, x88, x89, x90, x91, x92, x93, x94, x95, x96, x97, x98, x99, x100, x101, x102, x103, rfl, hC, hS⟩
          have HC := Lib.hid hC
          have HS := Lib.hid hS
          clear hC hS hbe hcl
          refine ⟨rfl, ?_⟩
          go_simp
          exact ⟨x83, x84, x85, x86, _, x88, x89, x90, x91, x92, x93, x94, x95, x96, x97, x98, x99, x100, x101, x102, x103, rfl, ⟨HC.out.l0, HC.out.l1, HC.out.l2, HC.out.l3, fun _ => rfl, HC.out.l5, HC.out.l6, HC.out.l7, HC.out.l8, HC.out.l9, HC.out.l10, HC.out.l11, HC.out.l12, HC.out.l13, HC.out.l14, HC.out.l15, HC.out.l16, HC.out.l17, HC.out.l18, HC.out.l19, HC.out.l20⟩, HS.out⟩
        case o5 =>
          rintro L ac Wr hL hbe hcl ⟨x83, x84, x85, x86, x87, x88, x89, x90, x91, x92, x93, x94, x95, x96, x97, x98, x99, x100, x101, x102, x103, rfl, hC, hS⟩
          have HC := Lib.hid hC
          have HS := Lib.hid hS
          clear hC hS hbe hcl
          refine ⟨rfl, ?_⟩
          go_simp
          exact ⟨x83, x84, x85, x86, x87, _, x89, x90, x91, x92, x93, x94, x95, x96, x97, x98, x99, x100, x101, x102, x103, rfl, ⟨HC.out.l0, HC.out.l1, HC.out.l2, HC.out.l3, HC.out.l4, fun _ => rfl, HC.out.l6, HC.out.l7, HC.out.l8, HC.out.l9, HC.out.l10, HC.out.l11, HC.out.l12, HC.out.l13, HC.out.l14, HC.out.l15, HC.out.l16, HC.out.l17, HC.out.l18, HC.out.l19, HC.out.l20⟩, HS.out⟩
        case o6 =>
          rintro L ac Wr hL hbe hcl ⟨x83, x84, x85, x86, x87, x88, x89, x90, x91, x92, x93, x94, x95, x96, x97, x98, x99, x100, x101, x102, x103, rfl, hC, hS⟩
          obtain ⟨d0, d1, d2⟩ := HSa.out _ _ _ hS
          have HC := Lib.hid hC
          have HS := Lib.hid hS
          clear hC hS hbe hcl
          refine ⟨rfl, ?_⟩
          go_simp
          exact ⟨x83, x84, x85, x86, x87, x88, _, x90, x91, x92, x93, x94, x95, x96, x97, x98, x99, x100, x101, x102, x103, rfl, ⟨HC.out.l0, HC.out.l1, HC.out.l2, HC.out.l3, HC.out.l4, HC.out.l5, fun _ => rfl, HC.out.l7, HC.out.l8, HC.out.l9, HC.out.l10, HC.out.l11, HC.out.l12, HC.out.l13, HC.out.l14, HC.out.l15, HC.out.l16, HC.out.l17, HC.out.l18, HC.out.l19, HC.out.l20⟩, HS.out⟩
        case o7 =>
          rintro L ac Wr hL hbe hcl ⟨x83, x84, x85, x86, x87, x88, x89, x90, x91, x92, x93, x94, x95, x96, x97, x98, x99, x100, x101, x102, x103, rfl, hC, hS⟩
          have h0 : L 3 = true := hbe { on := 3, ground := .chain } (by simp) rfl
          rw [hL, h0] at hS
          obtain rfl := hC.l4 (hbe { on := 4, ground := .data } (by simp) rfl)
          obtain rfl := hC.l5 (hbe { on := 5, ground := .data } (by simp) rfl)
          obtain rfl := hC.l6 (hbe { on := 6, ground := .data } (by simp) rfl)
          have HC := Lib.hid hC
          have HS := Lib.hid hS
          clear hC hS hbe hcl
          refine ⟨rfl, ?_⟩
          go_simp
          refine ⟨trivial, rfl, (callsIn_wide.2 (HRCp.out Wr HS.out)).mono ?_⟩
          rintro e W6 ⟨rfl, hS6⟩
          exact ⟨x83, x84, x85, x86, _, _, _, _, x91, x92, x93, x94, x95, x96, x97, x98, x99, x100, x101, x102, x103, rfl, ⟨HC.out.l0, HC.out.l1, HC.out.l2, HC.out.l3, HC.out.l4, HC.out.l5, HC.out.l6, fun _ => rfl, HC.out.l8, HC.out.l9, HC.out.l10, HC.out.l11, HC.out.l12, HC.out.l13, HC.out.l14, HC.out.l15, HC.out.l16, HC.out.l17, HC.out.l18, HC.out.l19, HC.out.l20⟩, by (show S (cond (L 3) U2 U1) (cond true U2 U1) W6); rw [h0]; exact hS6⟩
        case o8 =>
          rintro L ac Wr hL hbe hcl ⟨x83, x84, x85, x86, x87, x88, x89, x90, x91, x92, x93, x94, x95, x96, x97, x98, x99, x100, x101, x102, x103, rfl, hC, hS⟩
          obtain rfl := hC.l3 (hbe { on := 3, ground := .data } (by simp) rfl)
          obtain rfl := hC.l7 (hbe { on := 7, ground := .data } (by simp) rfl)
          have HC := Lib.hid hC
          have HS := Lib.hid hS
          clear hC hS hbe hcl
          refine ⟨rfl, ?_⟩
          go_simp
          exact ⟨x83, x84, x85, _, x87, x88, x89, _, _, x92, x93, x94, x95, x96, x97, x98, x99, x100, x101, x102, x103, rfl, ⟨HC.out.l0, HC.out.l1, HC.out.l2, HC.out.l3, HC.out.l4, HC.out.l5, HC.out.l6, HC.out.l7, fun _ => rfl, HC.out.l9, HC.out.l10, HC.out.l11, HC.out.l12, HC.out.l13, HC.out.l14, HC.out.l15, HC.out.l16, HC.out.l17, HC.out.l18, HC.out.l19, HC.out.l20⟩, HS.out⟩
        case o9 =>
          rintro L ac Wr hL hbe hcl ⟨x83, x84, x85, x86, x87, x88, x89, x90, x91, x92, x93, x94, x95, x96, x97, x98, x99, x100, x101, x102, x103, rfl, hC, hS⟩
          obtain rfl := hC.l8 (hbe { on := 8, ground := .data } (by simp) rfl)
          have HC := Lib.hid hC
          have HS := Lib.hid hS
          clear hC hS hbe hcl
          refine ⟨rfl, ?_⟩
          go_simp
          exact ⟨x83, x84, x85, x86, x87, x88, x89, x90, _, _, x93, x94, x95, x96, x97, x98, x99, x100, x101, x102, x103, rfl, ⟨HC.out.l0, HC.out.l1, HC.out.l2, HC.out.l3, HC.out.l4, HC.out.l5, HC.out.l6, HC.out.l7, HC.out.l8, fun _ => rfl, HC.out.l10, HC.out.l11, HC.out.l12, HC.out.l13, HC.out.l14, HC.out.l15, HC.out.l16, HC.out.l17, HC.out.l18, HC.out.l19, HC.out.l20⟩, HS.out⟩
        case o10 =>
          rintro L ac Wr hL hbe hcl ⟨x83, x84, x85, x86, x87, x88, x89, x90, x91, x92, x93, x94, x95, x96, x97, x98, x99, x100, x101, x102, x103, rfl, hC, hS⟩
          obtain rfl := hC.l9 (hbe { on := 9, ground := .guard } (by simp) rfl)
          have HC := Lib.hid hC
          have HS := Lib.hid hS
          clear hC hS hbe hcl
          refine ⟨rfl, ?_⟩
          go_simp
          exact ⟨x83, x84, x85, x86, x87, x88, x89, x90, x91, _, _, x94, x95, x96, x97, x98, x99, x100, x101, x102, x103, rfl, ⟨HC.out.l0, HC.out.l1, HC.out.l2, HC.out.l3, HC.out.l4, HC.out.l5, HC.out.l6, HC.out.l7, HC.out.l8, HC.out.l9, fun _ => rfl, HC.out.l11, HC.out.l12, HC.out.l13, HC.out.l14, HC.out.l15, HC.out.l16, HC.out.l17, HC.out.l18, HC.out.l19, HC.out.l20⟩, HS.out⟩
        case o11 =>
          rintro L ac Wr hL hbe hcl ⟨x83, x84, x85, x86, x87, x88, x89, x90, x91, x92, x93, x94, x95, x96, x97, x98, x99, x100, x101, x102, x103, rfl, hC, hS⟩
          obtain rfl := hC.l9 (hbe { on := 9, ground := .guard } (by simp) rfl)
          have HC := Lib.hid hC
          have HS := Lib.hid hS
          clear hC hS hbe hcl
          refine ⟨rfl, ?_⟩
          go_simp
          exact ⟨x83, x84, x85, x86, x87, x88, x89, x90, x91, _, x93, _, x95, x96, x97, x98, x99, x100, x101, x102, x103, rfl, ⟨HC.out.l0, HC.out.l1, HC.out.l2, HC.out.l3, HC.out.l4, HC.out.l5, HC.out.l6, HC.out.l7, HC.out.l8, HC.out.l9, HC.out.l10, fun _ => rfl, HC.out.l12, HC.out.l13, HC.out.l14, HC.out.l15, HC.out.l16, HC.out.l17, HC.out.l18, HC.out.l19, HC.out.l20⟩, HS.out⟩
        case o12 =>
          rintro L ac Wr hL hbe hcl ⟨x83, x84, x85, x86, x87, x88, x89, x90, x91, x92, x93, x94, x95, x96, x97, x98, x99, x100, x101, x102, x103, rfl, hC, hS⟩
          have u9 : L 9 = true := hbe { on := 9, ground := .guard } (by simp) rfl
          have u8 : L 8 = true := hcl 9 _ rfl u9 { on := 8, ground := .data } (by simp) rfl
          have u7 : L 7 = true := hcl 8 _ rfl u8 { on := 7, ground := .data } (by simp) rfl
          have u3 : L 3 = true := hcl 8 _ rfl u8 { on := 3, ground := .data } (by simp) rfl
          rw [u3, u7] at hS
          obtain rfl := hC.l9 (hbe { on := 9, ground := .guard } (by simp) rfl)
          obtain rfl := hC.l10 (hbe { on := 10, ground := .data } (by simp) rfl)
          obtain rfl := hC.l11 (hbe { on := 11, ground := .data } (by simp) rfl)
          have HC := Lib.hid hC
          have HS := Lib.hid hS
          clear hC hS hbe hcl
          refine ⟨rfl, ?_⟩
          go_simp
          refine ⟨trivial, rfl, (callsIn_wide.2 (HKp2.out Wr HS.out)).mono ?_⟩
          rintro e W6 ⟨rfl, hS6⟩
          exact ⟨x83, x84, x85, x86, x87, x88, x89, x90, x91, _, _, _, _, x96, x97, x98, x99, x100, x101, x102, x103, rfl, ⟨HC.out.l0, HC.out.l1, HC.out.l2, HC.out.l3, HC.out.l4, HC.out.l5, HC.out.l6, HC.out.l7, HC.out.l8, HC.out.l9, HC.out.l10, HC.out.l11, fun _ => rfl, HC.out.l13, HC.out.l14, HC.out.l15, HC.out.l16, HC.out.l17, HC.out.l18, HC.out.l19, HC.out.l20⟩, by (show S (cond (L 3) U2 U1) (cond (L 7) U2 U1) W6); rw [u3, u7]; exact HSl.out _ _ _ _ HS.out hS6⟩
        case o13 =>
          rintro L ac Wr hL hbe hcl ⟨x83, x84, x85, x86, x87, x88, x89, x90, x91, x92, x93, x94, x95, x96, x97, x98, x99, x100, x101, x102, x103, rfl, hC, hS⟩
          obtain rfl := hC.l9 (hbe { on := 9, ground := .guard } (by simp) rfl)
          obtain rfl := hC.l12 (hbe { on := 12, ground := .data } (by simp) rfl)
          have HC := Lib.hid hC
          have HS := Lib.hid hS
          clear hC hS hbe hcl
          refine ⟨rfl, ?_⟩
          go_simp
          exact ⟨x83, x84, x85, x86, x87, x88, x89, x90, x91, _, x93, x94, _, _, x97, x98, x99, x100, x101, x102, x103, rfl, ⟨HC.out.l0, HC.out.l1, HC.out.l2, HC.out.l3, HC.out.l4, HC.out.l5, HC.out.l6, HC.out.l7, HC.out.l8, HC.out.l9, HC.out.l10, HC.out.l11, HC.out.l12, fun _ => rfl, HC.out.l14, HC.out.l15, HC.out.l16, HC.out.l17, HC.out.l18, HC.out.l19, HC.out.l20⟩, HS.out⟩
        case o14 =>
          rintro L ac Wr hL hbe hcl ⟨x83, x84, x85, x86, x87, x88, x89, x90, x91, x92, x93, x94, x95, x96, x97, x98, x99, x100, x101, x102, x103, rfl, hC, hS⟩
          obtain rfl := hC.l9 (hbe { on := 9, ground := .data } (by simp) rfl)
          obtain rfl := hC.l13 (hbe { on := 13, ground := .data } (by simp) rfl)
          have HC := Lib.hid hC
          have HS := Lib.hid hS
          clear hC hS hbe hcl
          refine ⟨rfl, ?_⟩
          go_simp
          exact ⟨x83, x84, x85, x86, x87, x88, x89, x90, x91, _, x93, x94, x95, _, _, x98, x99, x100, x101, x102, x103, rfl, ⟨HC.out.l0, HC.out.l1, HC.out.l2, HC.out.l3, HC.out.l4, HC.out.l5, HC.out.l6, HC.out.l7, HC.out.l8, HC.out.l9, HC.out.l10, HC.out.l11, HC.out.l12, HC.out.l13, fun _ => rfl, HC.out.l15, HC.out.l16, HC.out.l17, HC.out.l18, HC.out.l19, HC.out.l20⟩, HS.out⟩
        case o15 =>
          rintro L ac Wr hL hbe hcl ⟨x83, x84, x85, x86, x87, x88, x89, x90, x91, x92, x93, x94, x95, x96, x97, x98, x99, x100, x101, x102, x103, rfl, hC, hS⟩
          obtain rfl := hC.l14 (hbe { on := 14, ground := .data } (by simp) rfl)
          have HC := Lib.hid hC
          have HS := Lib.hid hS
          clear hC hS hbe hcl
          refine ⟨rfl, ?_⟩
          go_simp
          exact ⟨x83, x84, x85, x86, x87, x88, x89, x90, x91, x92, x93, x94, x95, x96, _, _, x99, x100, x101, x102, x103, rfl, ⟨HC.out.l0, HC.out.l1, HC.out.l2, HC.out.l3, HC.out.l4, HC.out.l5, HC.out.l6, HC.out.l7, HC.out.l8, HC.out.l9, HC.out.l10, HC.out.l11, HC.out.l12, HC.out.l13, HC.out.l14, fun _ => rfl, HC.out.l16, HC.out.l17, HC.out.l18, HC.out.l19, HC.out.l20⟩, HS.out⟩
        case o16 =>
          rintro L ac Wr hL hbe hcl ⟨x83, x84, x85, x86, x87, x88, x89, x90, x91, x92, x93, x94, x95, x96, x97, x98, x99, x100, x101, x102, x103, rfl, hC, hS⟩
          obtain rfl := hC.l15 (hbe { on := 15, ground := .guard } (by simp) rfl)
          have HC := Lib.hid hC
          have HS := Lib.hid hS
          clear hC hS hbe hcl
          refine ⟨rfl, ?_⟩
          go_simp
          exact ⟨x83, x84, x85, x86, x87, x88, x89, x90, x91, x92, x93, x94, x95, x96, x97, _, _, x100, x101, x102, x103, rfl, ⟨HC.out.l0, HC.out.l1, HC.out.l2, HC.out.l3, HC.out.l4, HC.out.l5, HC.out.l6, HC.out.l7, HC.out.l8, HC.out.l9, HC.out.l10, HC.out.l11, HC.out.l12, HC.out.l13, HC.out.l14, HC.out.l15, fun _ => rfl, HC.out.l17, HC.out.l18, HC.out.l19, HC.out.l20⟩, HS.out⟩
        case o17 =>
          rintro L ac Wr hL hbe hcl ⟨x83, x84, x85, x86, x87, x88, x89, x90, x91, x92, x93, x94, x95, x96, x97, x98, x99, x100, x101, x102, x103, rfl, hC, hS⟩
          obtain rfl := hC.l15 (hbe { on := 15, ground := .guard } (by simp) rfl)
          have HC := Lib.hid hC
          have HS := Lib.hid hS
          clear hC hS hbe hcl
          refine ⟨rfl, ?_⟩
          go_simp
          exact ⟨x83, x84, x85, x86, x87, x88, x89, x90, x91, x92, x93, x94, x95, x96, x97, _, x99, _, x101, x102, x103, rfl, ⟨HC.out.l0, HC.out.l1, HC.out.l2, HC.out.l3, HC.out.l4, HC.out.l5, HC.out.l6, HC.out.l7, HC.out.l8, HC.out.l9, HC.out.l10, HC.out.l11, HC.out.l12, HC.out.l13, HC.out.l14, HC.out.l15, HC.out.l16, fun _ => rfl, HC.out.l18, HC.out.l19, HC.out.l20⟩, HS.out⟩
        case o18 =>
          rintro L ac Wr hL hbe hcl ⟨x83, x84, x85, x86, x87, x88, x89, x90, x91, x92, x93, x94, x95, x96, x97, x98, x99, x100, x101, x102, x103, rfl, hC, hS⟩
          have u15 : L 15 = true := hbe { on := 15, ground := .guard } (by simp) rfl
          have u14 : L 14 = true := hcl 15 _ rfl u15 { on := 14, ground := .data } (by simp) rfl
          have u9 : L 9 = true := hcl 14 _ rfl u14 { on := 9, ground := .data } (by simp) rfl
          have u8 : L 8 = true := hcl 9 _ rfl u9 { on := 8, ground := .data } (by simp) rfl
          have u7 : L 7 = true := hcl 8 _ rfl u8 { on := 7, ground := .data } (by simp) rfl
          have u3 : L 3 = true := hcl 8 _ rfl u8 { on := 3, ground := .data } (by simp) rfl
          rw [u3, u7] at hS
          obtain rfl := hC.l15 (hbe { on := 15, ground := .guard } (by simp) rfl)
          obtain rfl := hC.l16 (hbe { on := 16, ground := .data } (by simp) rfl)
          obtain rfl := hC.l17 (hbe { on := 17, ground := .data } (by simp) rfl)
          have HC := Lib.hid hC
          have HS := Lib.hid hS
          clear hC hS hbe hcl
          refine ⟨rfl, ?_⟩
          go_simp
          refine ⟨trivial, rfl, (callsIn_wide.2 (HKf.out Wr HS.out)).mono ?_⟩
          rintro e W6 ⟨rfl, hS6⟩
          exact ⟨x83, x84, x85, x86, x87, x88, x89, x90, x91, x92, x93, x94, x95, x96, x97, _, _, _, _, x102, x103, rfl, ⟨HC.out.l0, HC.out.l1, HC.out.l2, HC.out.l3, HC.out.l4, HC.out.l5, HC.out.l6, HC.out.l7, HC.out.l8, HC.out.l9, HC.out.l10, HC.out.l11, HC.out.l12, HC.out.l13, HC.out.l14, HC.out.l15, HC.out.l16, HC.out.l17, fun _ => rfl, HC.out.l19, HC.out.l20⟩, by (show S (cond (L 3) U2 U1) (cond (L 7) U2 U1) W6); rw [u3, u7]; exact HSl.out _ _ _ _ HS.out hS6⟩
        case o19 =>
          rintro L ac Wr hL hbe hcl ⟨x83, x84, x85, x86, x87, x88, x89, x90, x91, x92, x93, x94, x95, x96, x97, x98, x99, x100, x101, x102, x103, rfl, hC, hS⟩
          obtain rfl := hC.l15 (hbe { on := 15, ground := .guard } (by simp) rfl)
          obtain rfl := hC.l18 (hbe { on := 18, ground := .data } (by simp) rfl)
          have HC := Lib.hid hC
          have HS := Lib.hid hS
          clear hC hS hbe hcl
          refine ⟨rfl, ?_⟩
          go_simp
          exact ⟨x83, x84, x85, x86, x87, x88, x89, x90, x91, x92, x93, x94, x95, x96, x97, _, x99, x100, _, _, x103, rfl, ⟨HC.out.l0, HC.out.l1, HC.out.l2, HC.out.l3, HC.out.l4, HC.out.l5, HC.out.l6, HC.out.l7, HC.out.l8, HC.out.l9, HC.out.l10, HC.out.l11, HC.out.l12, HC.out.l13, HC.out.l14, HC.out.l15, HC.out.l16, HC.out.l17, HC.out.l18, fun _ => rfl, HC.out.l20⟩, HS.out⟩
        case o20 =>
          rintro L ac Wr hL hbe hcl ⟨x83, x84, x85, x86, x87, x88, x89, x90, x91, x92, x93, x94, x95, x96, x97, x98, x99, x100, x101, x102, x103, rfl, hC, hS⟩
          obtain rfl := hC.l15 (hbe { on := 15, ground := .data } (by simp) rfl)
          obtain rfl := hC.l19 (hbe { on := 19, ground := .data } (by simp) rfl)
          have HC := Lib.hid hC
          have HS := Lib.hid hS
          clear hC hS hbe hcl
          refine ⟨rfl, ?_⟩
          go_simp
          exact ⟨x83, x84, x85, x86, x87, x88, x89, x90, x91, x92, x93, x94, x95, x96, x97, _, x99, x100, x101, _, _, rfl, ⟨HC.out.l0, HC.out.l1, HC.out.l2, HC.out.l3, HC.out.l4, HC.out.l5, HC.out.l6, HC.out.l7, HC.out.l8, HC.out.l9, HC.out.l10, HC.out.l11, HC.out.l12, HC.out.l13, HC.out.l14, HC.out.l15, HC.out.l16, HC.out.l17, HC.out.l18, HC.out.l19, fun _ => rfl⟩, HS.out⟩
      case hd =>
        rintro L ac Wr hL ⟨x83, x84, x85, x86, x87, x88, x89, x90, x91, x92, x93, x94, x95, x96, x97, x98, x99, x100, x101, x102, x103, rfl, hC, hS⟩
        have hlast := hC.l20 (hL 20 (by decide))
        rw [hL 3 (by decide), hL 7 (by decide)] at hS
        clear hC hL
        subst hlast
        have HS0 := Lib.hid hS
        clear hS
        go_wp2
        refine wp_region_invG (by kernel_rfl) (by kernel_rfl) (GreyI (fun x104 x105 x106 x107 x108 x109 x110 x111 x112 x113 x16 => { tmps := #[spotV f g a, .int .i64 b, .slice ra ss.length cap, .int .i64 p, .int .i64 q, .int .i64 r, .int .i64 less, .int .i64 more, .pointer (some ⟨w.heap.size, 0, none⟩), undef, undef, undef, undef, undef, undef, undef, x16, .int .i64 F, .slice (some ⟨g1, 0, none⟩) T1.length l1, .slice (some ⟨g2, 0, none⟩) T2.length l2, .slice (some ⟨G, 0, none⟩) T1.length cG, v2, v3, .slice ra ss.length cap, .int .i64 (ss.length : Int), .bool false, undef, .pointer (some ⟨w.heap.size, 0, none⟩), .int .i64 f, .int .i64 F, .int .i64 F, .int .i64 p, .int .i64 q, .slice (some ⟨g1, 0, none⟩) l1 l1, .int .i64 F, .int .i64 r, .int .i64 q, .slice (some ⟨g2, 0, none⟩) l2 l2, .slice (some ⟨g1, 0, none⟩) l1 l1, .slice (some ⟨g1, 0, none⟩) l1 l1, .int .i64 (l1 : Int), .int .i64 less, .int .i64 (x : Int), .int .i64 ((l1 : Int) - (x : Int)), .int .i64 (T1.length : Int), .slice (some ⟨g1, 0, none⟩) T1.length l1, .slice (some ⟨g2, 0, none⟩) l2 l2, .slice (some ⟨g2, 0, none⟩) l2 l2, .int .i64 (l2 : Int), .int .i64 more, .int .i64 (y : Int), .int .i64 ((l2 : Int) - (y : Int)), .int .i64 (T2.length : Int), .slice (some ⟨g2, 0, none⟩) T2.length l2, .slice (some ⟨g1, 0, none⟩) T1.length l1, .slice (some ⟨G, 0, none⟩) T1.length cG, .slice (some ⟨g2, 0, none⟩) T2.length l2, v2, .slice ra ss.length cap, v3, x60, x61, x62, x63, x64, x65, x66, x67, x68, x69, x70, x71, x72, x73, x74, x75, x76, x77, x78, x79, x80, x81, .bool false, x83, x84, x85, x86, x87, x88, x89, x90, x91, x92, x93, x94, x95, x96, x97, x98, x99, x100, x101, x102, .bool false, x104, x105, x106, x107, x108, x109, x110, x111, x112, x113], defers := [] }) (S U2 U2) w.heap.size f Wr.heap.size) ?h0 ?st ?hd
        case h0 =>
          intro L hL
          have e : ∀ i, ¬ L i = true := fun i h => by rw [hL i] at h; cases h
          exact ⟨undef, undef, undef, undef, undef, undef, undef, undef, undef, undef, .bool false, rfl, ⟨(Below.refl 0 Wr).drew.size, fun h => (e _ h).elim, fun h => (e _ h).elim, fun h => (e _ h).elim, fun h => (e _ h).elim, fun h => (e _ h).elim, fun h => (e _ h).elim, fun h => (e _ h).elim, fun h => (e _ h).elim, fun h => (e _ h).elim, fun h => (e _ h).elim, fun h => (e _ h).elim⟩, HSl.out _ _ _ _ HS0.out (Below.refl _ _).drew⟩
        case st =>
          refine ⟨?o0, ?o1, ?o2, ?o3, ?o4, ?o5, ?o6, ?o7, ?o8, ?o9, ?o10, trivial⟩
          case o0 =>
            rintro L ac Wr hL hbe hcl ⟨x104, x105, x106, x107, x108, x109, x110, x111, x112, x113, x16, rfl, hC, hS⟩
            have HC := Lib.hid hC
            have HS := Lib.hid hS
            clear hC hS hbe hcl
            refine ⟨rfl, ?_⟩
            go_simp
            exact ⟨_, x105, x106, x107, x108, x109, x110, x111, x112, x113, x16, rfl, ⟨HC.out.sz, fun _ => rfl, HC.out.l1, HC.out.l2, HC.out.l3, HC.out.l4, HC.out.l5, HC.out.l6, HC.out.l7, HC.out.l8, HC.out.l9, HC.out.l10⟩, HS.out⟩
          case o1 =>
            rintro L ac Wr hL hbe hcl ⟨x104, x105, x106, x107, x108, x109, x110, x111, x112, x113, x16, rfl, hC, hS⟩
            obtain rfl := hC.l0 (hbe { on := 0, ground := .data } (by simp) rfl)
            obtain ⟨d0, d1, d2⟩ := HSa.out _ _ _ hS
            have HC := Lib.hid hC
            have HS := Lib.hid hS
            clear hC hS hbe hcl
            refine ⟨rfl, ?_⟩
            go_simp
            exact ⟨_, _, x106, x107, x108, x109, x110, x111, x112, x113, x16, rfl, ⟨HC.out.sz, HC.out.l0, fun _ => rfl, HC.out.l2, HC.out.l3, HC.out.l4, HC.out.l5, HC.out.l6, HC.out.l7, HC.out.l8, HC.out.l9, HC.out.l10⟩, HS.out⟩
          case o2 =>
            rintro L ac Wr hL hbe hcl ⟨x104, x105, x106, x107, x108, x109, x110, x111, x112, x113, x16, rfl, hC, hS⟩
            obtain rfl := hC.l1 (hbe { on := 1, ground := .data } (by simp) rfl)
            have HC := Lib.hid hC
            have HS := Lib.hid hS
            clear hC hS hbe hcl
            refine ⟨rfl, ?_⟩
            go_simp
            refine ⟨trivial, rfl, (callsIn_wide.2 (HGr.out Wr)).mono ?_⟩
            rintro e W6 ⟨v, rfl, ho, hb⟩
            exact ⟨x104, _, v, x107, x108, x109, x110, x111, x112, x113, x16, rfl, ⟨Nat.le_trans HC.out.sz hb.size, HC.out.l0, HC.out.l1, fun _ => ho.base HC.out.sz, HC.out.l3, HC.out.l4, fun h => ownsRow_belowN (HC.out.l5 h) hb, HC.out.l6, HC.out.l7, HC.out.l8, HC.out.l9, HC.out.l10⟩, HSl.out _ _ _ _ HS.out hb⟩
          case o3 =>
            rintro L ac Wr hL hbe hcl ⟨x104, x105, x106, x107, x108, x109, x110, x111, x112, x113, x16, rfl, hC, hS⟩
            have HC := Lib.hid hC
            have HS := Lib.hid hS
            clear hC hS hbe hcl
            refine ⟨rfl, ?_⟩
            go_simp
            exact ⟨x104, x105, x106, _, x108, x109, x110, x111, x112, x113, x16, rfl, ⟨HC.out.sz, HC.out.l0, HC.out.l1, HC.out.l2, fun _ => rfl, HC.out.l4, HC.out.l5, HC.out.l6, HC.out.l7, HC.out.l8, HC.out.l9, HC.out.l10⟩, HS.out⟩
          case o4 =>
            rintro L ac Wr hL hbe hcl ⟨x104, x105, x106, x107, x108, x109, x110, x111, x112, x113, x16, rfl, hC, hS⟩
            obtain rfl := hC.l3 (hbe { on := 3, ground := .data } (by simp) rfl)
            obtain ⟨d0, d1, d2⟩ := HSa.out _ _ _ hS
            have HC := Lib.hid hC
            have HS := Lib.hid hS
            clear hC hS hbe hcl
            refine ⟨rfl, ?_⟩
            go_simp
            exact ⟨x104, x105, x106, _, _, x109, x110, x111, x112, x113, x16, rfl, ⟨HC.out.sz, HC.out.l0, HC.out.l1, HC.out.l2, HC.out.l3, fun _ => rfl, HC.out.l5, HC.out.l6, HC.out.l7, HC.out.l8, HC.out.l9, HC.out.l10⟩, HS.out⟩
          case o5 =>
            rintro L ac Wr hL hbe hcl ⟨x104, x105, x106, x107, x108, x109, x110, x111, x112, x113, x16, rfl, hC, hS⟩
            obtain rfl := hC.l4 (hbe { on := 4, ground := .data } (by simp) rfl)
            have HC := Lib.hid hC
            have HS := Lib.hid hS
            clear hC hS hbe hcl
            refine ⟨rfl, ?_⟩
            go_simp
            refine ⟨trivial, rfl, (callsIn_wide.2 (HRG.out Wr)).mono ?_⟩
            rintro e W6 ⟨v, rfl, ho, hb⟩
            exact ⟨x104, x105, x106, x107, _, v, x110, x111, x112, x113, x16, rfl, ⟨Nat.le_trans HC.out.sz hb.size, HC.out.l0, HC.out.l1, fun h => (HC.out.l2 h).below hb, HC.out.l3, HC.out.l4, fun _ => ownsRow_base ho HC.out.sz, HC.out.l6, HC.out.l7, HC.out.l8, HC.out.l9, HC.out.l10⟩, HSl.out _ _ _ _ HS.out hb⟩
          case o6 =>
            rintro L ac Wr hL hbe hcl ⟨x104, x105, x106, x107, x108, x109, x110, x111, x112, x113, x16, rfl, hC, hS⟩
            have h2 := hC.l2 (hbe { on := 2, ground := .data } (by simp) rfl)
            have h5 := hC.l5 (hbe { on := 5, ground := .data } (by simp) rfl)
            have HSm := Lib.hid (same_any (h2.byt (by have := HGl.out; omega)) (byt_own h5 (by have := HGl.out; omega) (Nat.le_refl _)))
            simp only [decide_true] at HSm
            clear h2 h5
            have HC := Lib.hid hC
            have HS := Lib.hid hS
            clear hC hS hbe hcl
            refine ⟨rfl, ?_⟩
            go_simp
            refine ⟨trivial, rfl, (callsIn_wide.2 HSm.out).mono ?_⟩
            rintro e W6 ⟨rfl, rfl⟩
            exact ⟨x104, x105, x106, x107, x108, x109, _, x111, x112, x113, x16, rfl, ⟨HC.out.sz, HC.out.l0, HC.out.l1, HC.out.l2, HC.out.l3, HC.out.l4, HC.out.l5, fun _ => rfl, HC.out.l7, HC.out.l8, HC.out.l9, HC.out.l10⟩, HS.out⟩
          case o7 =>
            rintro L ac Wr hL hbe hcl ⟨x104, x105, x106, x107, x108, x109, x110, x111, x112, x113, x16, rfl, hC, hS⟩
            obtain rfl := hC.l6 (hbe { on := 6, ground := .data } (by simp) rfl)
            have HC := Lib.hid hC
            have HS := Lib.hid hS
            clear hC hS hbe hcl
            refine ⟨rfl, ?_⟩
            go_simp
            exact ⟨x104, x105, x106, x107, x108, x109, _, _, x112, x113, x16, rfl, ⟨HC.out.sz, HC.out.l0, HC.out.l1, HC.out.l2, HC.out.l3, HC.out.l4, HC.out.l5, HC.out.l6, fun _ => rfl, HC.out.l8, HC.out.l9, HC.out.l10⟩, HS.out⟩
          case o8 =>
            rintro L ac Wr hL hbe hcl ⟨x104, x105, x106, x107, x108, x109, x110, x111, x112, x113, x16, rfl, hC, hS⟩
            obtain rfl := hC.l7 (hbe { on := 7, ground := .guard } (by simp) rfl)
            have HC := Lib.hid hC
            have HS := Lib.hid hS
            clear hC hS hbe hcl
            refine ⟨rfl, ?_⟩
            go_simp
            refine ⟨trivial, rfl, (callsIn_wide.2 (HAw.out Wr)).mono ?_⟩
            rintro e W6 ⟨rfl, hb⟩
            exact ⟨x104, x105, x106, x107, x108, x109, x110, _, _, x113, x16, rfl, ⟨Nat.le_trans HC.out.sz hb.size, HC.out.l0, HC.out.l1, fun h => (HC.out.l2 h).below hb, HC.out.l3, HC.out.l4, fun h => ownsRow_belowN (HC.out.l5 h) hb, HC.out.l6, HC.out.l7, fun _ => rfl, HC.out.l9, HC.out.l10⟩, HSl.out _ _ _ _ HS.out hb⟩
          case o9 =>
            rintro L ac Wr hL hbe hcl ⟨x104, x105, x106, x107, x108, x109, x110, x111, x112, x113, x16, rfl, hC, hS⟩
            obtain rfl := hC.l7 (hbe { on := 7, ground := .data } (by simp) rfl)
            obtain rfl := hC.l8 (hbe { on := 8, ground := .data } (by simp) rfl)
            have HC := Lib.hid hC
            have HS := Lib.hid hS
            clear hC hS hbe hcl
            refine ⟨rfl, ?_⟩
            go_simp
            exact ⟨x104, x105, x106, x107, x108, x109, x110, _, _, _, x16, rfl, ⟨HC.out.sz, HC.out.l0, HC.out.l1, HC.out.l2, HC.out.l3, HC.out.l4, HC.out.l5, HC.out.l6, HC.out.l7, HC.out.l8, fun _ => rfl, HC.out.l10⟩, HS.out⟩
          case o10 =>
            rintro L ac Wr hL hbe hcl ⟨x104, x105, x106, x107, x108, x109, x110, x111, x112, x113, x16, rfl, hC, hS⟩
            obtain rfl := hC.l9 (hbe { on := 9, ground := .data } (by simp) rfl)
            have HC := Lib.hid hC
            have HS := Lib.hid hS
            clear hC hS hbe hcl
            refine ⟨rfl, ?_⟩
            go_simp
            exact ⟨x104, x105, x106, x107, x108, x109, x110, x111, x112, _, _, rfl, ⟨HC.out.sz, HC.out.l0, HC.out.l1, HC.out.l2, HC.out.l3, HC.out.l4, HC.out.l5, HC.out.l6, HC.out.l7, HC.out.l8, HC.out.l9, fun _ => rfl⟩, HS.out⟩
        case hd =>
          rintro L ac Wr hL ⟨x104, x105, x106, x107, x108, x109, x110, x111, x112, x113, x16, rfl, hC, hS⟩
          have hlast := hC.l10 (hL 10 (by decide))
          subst hlast
          have HB := Lib.hid (HSb.out _ _ _ hS)
          clear hC hL hS
          go_wp2
          go_ret
          exact ⟨rfl, HB.out⟩

end Go.Proofs.Ytenplmmongphoaa
