/- motion: what its functions must answer, as a record; the laws' qcif and row. -/
import Derived.Test.YthoklmhaljjjdaaMRef2
import Derived.Test.YthoklmhaljjjdaaMCha
namespace Go.Proofs.Ythoklmhaljjjdaa
open Go.RowKit Go.Shelf Go.Sort
set_option linter.unusedVariables false

abbrev I64 (n : Int) : Prop := -9223372036854775808 ≤ n ∧ n ≤ 9223372036854775807
abbrev spotV (f g a : Int) : Value := .agg #[.int .i64 f, .int .i64 g, .int .i64 a]
/-- a slice has room for what it holds -/
def Capped (v : Value) : Prop := ∃ a n cap, v = .slice a n cap ∧ n ≤ cap
theorem capped_own {w : World} {base n sz : Nat} {e : TypeId} {v : Value} {xs : List Value} (h : w.ownsRow base e sz v n xs) : Capped v := by
  rcases h.2 with ⟨rfl, rfl⟩ | ⟨g, cap, cur, rfl, -, -, h5, -⟩
  · exact ⟨_, _, _, rfl, Nat.le_refl _⟩
  · exact ⟨_, _, _, rfl, h5⟩
theorem capped_lent {base : Nat} {w : World} {v : Value} {zs : List UInt8} (h : Lent base w v zs) : Capped v := by
  obtain ⟨g, cap, rfl, -, hr⟩ := h
  obtain ⟨a, n, c, e, hn⟩ := capped_own hr
  cases e
  exact ⟨_, _, _, rfl, by omega⟩
/-- what motion's functions must answer -/
structure MotionI : Prop where
  half : ∀ (n : Int) (W : World), I64 n → Calls Try.prog 20 #[.int .i64 n] W fun e W' => e = .returned (.int .i64 (hv n)) ∧ Below W.heap.size W W'
  fits : ∀ (f g a x y : Int) (W : World), I64 f → I64 g → I64 a → I64 x → I64 y → Calls Try.prog 15 #[spotV f g a, .int .i64 x, .int .i64 y] W fun e W' => e = .returned (.int .i64 (fE f g a x y)) ∧ Below W.heap.size W W'
  fetch : ∀ {n₀ : Nat} {W : World} {sv : Value} {zs : List UInt8} (f g a b x y : Int), Byt n₀ W sv zs → n₀ ≤ W.heap.size → Capped sv → I64 f → I64 g → I64 a → I64 b → I64 x → I64 y →
    Calls Try.prog 12 #[sv, spotV f g a, .int .i64 b, .int .i64 x, .int .i64 y] W fun e W' => ∃ v, e = .returned (.tuple #[v, .int .i64 (mE f g a b x y zs.length)]) ∧ W'.ownsRow W.heap.size 5 1 v (mL f g a b x y zs).length (u8s (mL f g a b x y zs)) ∧ Below W.heap.size W W'

theorem qcif14_any (g a : Int) (W : World) : Calls Try.prog 23 #[.int .i64 g, .int .i64 a] W fun e W' => e = .returned (spotV 0 g a) ∧ Below W.heap.size W W' := by
  go_enter Try.func23, Try.ntmps23
  go_wp2
  exact bodyPost_ret (v := spotV 0 g a) (by simp [results, Try.f23, go_sem]) rfl ⟨rfl, (Below.refl _ W).alloc (Nat.le_refl _) _⟩

theorem byt_take14 {n₀ : Nat} {w : World} {a : Option Addr} {cap : Nat} {zs : List UInt8} (h : Byt n₀ w (.slice a zs.length cap) zs) (e : Nat) (he : e ≤ zs.length) : Byt n₀ w (.slice a e cap) (zs.take e) := by
  obtain ⟨a', cap', e1, hl, hz⟩ := h
  cases e1
  have hte : (zs.take e).length = e := by simp; omega
  refine ⟨a, cap, by rw [hte], by omega, ?_⟩
  rcases hz with rfl | ⟨b, off, rfl, hb, hc⟩
  · left; simp
  · right
    refine ⟨b, off, rfl, hb, fun j hj => ?_⟩
    rw [hte] at hj
    rw [hc j (by omega), List.getElem?_take, if_pos hj]

/-- what row's first region has told -/
structure RowV14 (W1 : World) (cc : List Value) (sp er : Value) (b x y : Int) (Lf : List UInt8) (L : Nat → Bool) (vc vf : Value) (x11 x12 x13 x14 x15 x16 x17 x18 x19 x20 x21 : Value) (Wr : World) : Prop where
  below : Below W1.heap.size W1 Wr
  oc : L 0 = true → Wr.ownsRow W1.heap.size 5 1 vc 38016 cc
  of : L 5 = true → Wr.ownsRow W1.heap.size 5 1 vf Lf.length (u8s Lf)
  l0 : L 0 = true → x14 = vc
  l1 : L 1 = true → x15 = sp
  l2 : L 2 = true → x16 = .int .i64 b
  l3 : L 3 = true → x17 = .int .i64 x
  l4 : L 4 = true → x18 = .int .i64 y
  l5 : L 5 = true → x19 = .tuple #[vf, er]
  l6 : L 6 = true → x13 = .tuple #[vf, er]
  l7 : L 7 = true → x20 = vf
  l8 : L 8 = true → x21 = er
  l9 : L 9 = true → x11 = vf
  l10 : L 10 = true → x12 = er
def RowI14 (fr : Value → Value → Value → Value → Value → Value → Value → Value → Value → Value → Value → Act) (W1 : World) (cc : List Value) (sp er : Value) (b x y : Int) (Lf : List UInt8) (L : Nat → Bool) (ac : Act) (Wr : World) : Prop :=
  ∃ vc vf x11 x12 x13 x14 x15 x16 x17 x18 x19 x20 x21, ac = fr x11 x12 x13 x14 x15 x16 x17 x18 x19 x20 x21 ∧ RowV14 W1 cc sp er b x y Lf L vc vf x11 x12 x13 x14 x15 x16 x17 x18 x19 x20 x21 Wr

set_option maxRecDepth 100000 in
set_option maxHeartbeats 4000000 in
theorem row14_true (I : MotionI) (f g a b x y : Int) (hf : I64 f) (hg : I64 g) (ha : I64 a) (hb : I64 b) (hx : I64 x) (hy : I64 y) (hm : mE f g a b x y 38016 = 0) (ws : List UInt8) (hw : (mL f g a b x y (chT 38016)).take 8 = ws) {W : World} {wv : Value} (hB : Byt W.heap.size W wv ws) :
    Calls Try.prog 24 #[spotV f g a, .int .i64 b, .int .i64 x, .int .i64 y, wv] W fun e W' => e = .returned (.bool true) ∧ Below W.heap.size W W' := by
  have hlen : (mL f g a b x y (chT 38016)).length = 64 := by rw [mL_length, chT_length]; exact if_pos hm
  have HF : Hid (∀ {W2 : World} {v : Value} {base : Nat}, W2.ownsRow base 5 1 v 38016 (u8s (chT 38016)) → Calls Try.prog 12 #[v, spotV f g a, .int .i64 b, .int .i64 x, .int .i64 y] W2 fun e W' => ∃ v, e = .returned (.tuple #[v, .int .i64 0]) ∧ W'.ownsRow W2.heap.size 5 1 v 64 (u8s (mL f g a b x y (chT 38016))) ∧ Below W2.heap.size W2 W') := fun {W2} {v} {base} h => by
    have hbt : Byt W2.heap.size W2 v (chT 38016) := byt_own (by rw [chT_length]; exact h) (by rw [chT_length]; omega) (Nat.le_refl _)
    have := I.fetch f g a b x y hbt (Nat.le_refl _) (capped_own h) hf hg ha hb hx hy
    rw [chT_length, hlen] at this
    have hm' : mE f g a b x y ((38016 : Nat) : Int) = 0 := hm
    rw [hm'] at this
    exact this
  have HCh := Lib.hid (fun W => chapter14_any W)
  have HBy := Lib.hid hB
  have HW8 := Lib.hid hw
  have HLen := Lib.hid hlen
  clear hlen hm hw hB hf hg ha hb hx hy
  generalize mL f g a b x y (chT 38016) = Lf at *
  generalize hcc : u8s (chT 38016) = cc at *
  have HCC := Lib.hid hcc
  clear hcc
  go_enter Try.func24, Try.ntmps24
  go_wp2
  obtain ⟨W1, hW1⟩ : ∃ W1, W.alloc (.cells #[.int .i64 f, .int .i64 g, .int .i64 a] 23 (0, 0)) = W1 := ⟨_, rfl⟩
  rw [hW1]
  have hb1 : Below W.heap.size W W1 := by rw [← hW1]; exact (Below.refl _ W).alloc (Nat.le_refl _) _
  have hz1 : W1.heap.size = W.heap.size + 1 := by rw [← hW1]; simp
  have hbx : SpotAt W1 W.heap.size f g a := ⟨_, by rw [← hW1]; exact World.alloc_heap_new W _⟩
  have B1 := Lib.hid hb1
  have HBx := Lib.hid hbx
  clear hb1 hbx hW1
  refine wp_region_inv (by kernel_rfl) (by kernel_rfl) (by kernel_rfl) (RowI14 (fun x11 x12 x13 x14 x15 x16 x17 x18 x19 x20 x21 => { tmps := #[.agg #[.int .i64 f, .int .i64 g, .int .i64 a], .int .i64 b, .int .i64 x, .int .i64 y, wv, .pointer (some ⟨W.heap.size, 0, none⟩), undef, undef, undef, undef, .bool false, x11, x12, x13, x14, x15, x16, x17, x18, x19, x20, x21, undef, undef, undef, undef, undef, undef, undef, undef, undef, undef, undef, undef, undef], defers := [] }) W1 cc (spotV f g a) (.int .i64 0) b x y Lf) ?h0 ?st ?hd
  case h0 =>
    intro L hL
    have e : ∀ i, ¬ L i = true := fun i h => by rw [hL i] at h; cases h
    exact ⟨undef, undef, undef, undef, undef, undef, undef, undef, undef, undef, undef, undef, undef, rfl, ⟨(Below.refl _ _).drew, fun h => (e _ h).elim, fun h => (e _ h).elim, fun h => (e _ h).elim, fun h => (e _ h).elim, fun h => (e _ h).elim, fun h => (e _ h).elim, fun h => (e _ h).elim, fun h => (e _ h).elim, fun h => (e _ h).elim, fun h => (e _ h).elim, fun h => (e _ h).elim, fun h => (e _ h).elim, fun h => (e _ h).elim⟩⟩
  case st =>
    refine ⟨?o0, ?o1, ?o2, ?o3, ?o4, ?o5, ?o6, ?o7, ?o8, ?o9, ?o10, trivial⟩
    case o0 =>
      rintro L ac Wr hL hbe hcl ⟨vc, vf, x11, x12, x13, x14, x15, x16, x17, x18, x19, x20, x21, rfl, hV⟩
      have HV := Lib.hid hV
      clear hV hcl hbe
      go_simp
      refine ⟨trivial, rfl, (callsIn_wide.2 (HCh.out Wr)).mono ?_⟩
      rintro e W6 ⟨v, rfl, ho, hbw⟩
      replace ho := ownsRow_base ho HV.out.below.size
      exact ⟨v, vf, x11, x12, x13, _, x15, x16, x17, x18, x19, x20, x21, rfl, ⟨(below_chain HV.out.below (Nat.le_refl _) hbw), fun _ => ho, fun h => (ownsRow_bar (HV.out.of h) (bar_of_below (S := fun _ => False) hbw) (fun _ _ e => e)), fun _ => rfl, HV.out.l1, HV.out.l2, HV.out.l3, HV.out.l4, HV.out.l5, HV.out.l6, HV.out.l7, HV.out.l8, HV.out.l9, HV.out.l10⟩⟩
    case o1 =>
      rintro L ac Wr hL hbe hcl ⟨vc, vf, x11, x12, x13, x14, x15, x16, x17, x18, x19, x20, x21, rfl, hV⟩
      obtain ⟨d0, d1, d2⟩ := (HBx.out.later hV.below).cells
      have HV := Lib.hid hV
      clear hV hcl hbe
      go_simp
      exact ⟨vc, vf, x11, x12, x13, x14, _, x16, x17, x18, x19, x20, x21, rfl, ⟨HV.out.below, HV.out.oc, HV.out.of, HV.out.l0, fun _ => rfl, HV.out.l2, HV.out.l3, HV.out.l4, HV.out.l5, HV.out.l6, HV.out.l7, HV.out.l8, HV.out.l9, HV.out.l10⟩⟩
    case o2 =>
      rintro L ac Wr hL hbe hcl ⟨vc, vf, x11, x12, x13, x14, x15, x16, x17, x18, x19, x20, x21, rfl, hV⟩
      have HV := Lib.hid hV
      clear hV hcl hbe
      go_simp
      exact ⟨vc, vf, x11, x12, x13, x14, x15, _, x17, x18, x19, x20, x21, rfl, ⟨HV.out.below, HV.out.oc, HV.out.of, HV.out.l0, HV.out.l1, fun _ => rfl, HV.out.l3, HV.out.l4, HV.out.l5, HV.out.l6, HV.out.l7, HV.out.l8, HV.out.l9, HV.out.l10⟩⟩
    case o3 =>
      rintro L ac Wr hL hbe hcl ⟨vc, vf, x11, x12, x13, x14, x15, x16, x17, x18, x19, x20, x21, rfl, hV⟩
      have HV := Lib.hid hV
      clear hV hcl hbe
      go_simp
      exact ⟨vc, vf, x11, x12, x13, x14, x15, x16, _, x18, x19, x20, x21, rfl, ⟨HV.out.below, HV.out.oc, HV.out.of, HV.out.l0, HV.out.l1, HV.out.l2, fun _ => rfl, HV.out.l4, HV.out.l5, HV.out.l6, HV.out.l7, HV.out.l8, HV.out.l9, HV.out.l10⟩⟩
    case o4 =>
      rintro L ac Wr hL hbe hcl ⟨vc, vf, x11, x12, x13, x14, x15, x16, x17, x18, x19, x20, x21, rfl, hV⟩
      have HV := Lib.hid hV
      clear hV hcl hbe
      go_simp
      exact ⟨vc, vf, x11, x12, x13, x14, x15, x16, x17, _, x19, x20, x21, rfl, ⟨HV.out.below, HV.out.oc, HV.out.of, HV.out.l0, HV.out.l1, HV.out.l2, HV.out.l3, fun _ => rfl, HV.out.l5, HV.out.l6, HV.out.l7, HV.out.l8, HV.out.l9, HV.out.l10⟩⟩
    case o5 =>
      rintro L ac Wr hL hbe hcl ⟨vc, vf, x11, x12, x13, x14, x15, x16, x17, x18, x19, x20, x21, rfl, hV⟩
      have h6 : L 6 = false := by rw [Bool.eq_false_iff]; intro h; have := hcl 6 _ rfl h { on := 5, ground := .data } (by simp) rfl; rw [hL] at this; cases this
      have h7 : L 7 = false := by rw [Bool.eq_false_iff]; intro h; have := hcl 7 _ rfl h { on := 6, ground := .data } (by simp) rfl; rw [h6] at this; cases this
      have h9 : L 9 = false := by rw [Bool.eq_false_iff]; intro h; have := hcl 9 _ rfl h { on := 7, ground := .data } (by simp) rfl; rw [h7] at this; cases this
      have hL0 := hbe { on := 0, ground := .data } (by simp) rfl
      obtain rfl := hV.l0 (hbe { on := 0, ground := .data } (by simp) rfl)
      obtain rfl := hV.l1 (hbe { on := 1, ground := .data } (by simp) rfl)
      obtain rfl := hV.l2 (hbe { on := 2, ground := .data } (by simp) rfl)
      obtain rfl := hV.l3 (hbe { on := 3, ground := .data } (by simp) rfl)
      obtain rfl := hV.l4 (hbe { on := 4, ground := .data } (by simp) rfl)
      have HV := Lib.hid hV
      clear hV hcl hbe
      go_simp
      refine ⟨trivial, rfl, (callsIn_wide.2 (HF.out (HV.out.oc hL0))).mono ?_⟩
      rintro e W6 ⟨v, rfl, ho, hbw⟩
      replace ho := ownsRow_base ho HV.out.below.size
      rw [← HLen.out] at ho
      exact ⟨_, v, x11, x12, x13, _, _, _, _, _, _, x20, x21, rfl, ⟨(below_chain HV.out.below (Nat.le_refl _) hbw), fun h => (ownsRow_bar (HV.out.oc h) (bar_of_below (S := fun _ => False) hbw) (fun _ _ e => e)), fun _ => ho, HV.out.l0, HV.out.l1, HV.out.l2, HV.out.l3, HV.out.l4, fun _ => rfl, (fun h => by have h : L 6 = true := h; rw [h6] at h; cases h), (fun h => by have h : L 7 = true := h; rw [h7] at h; cases h), HV.out.l8, (fun h => by have h : L 9 = true := h; rw [h9] at h; cases h), HV.out.l10⟩⟩
    case o6 =>
      rintro L ac Wr hL hbe hcl ⟨vc, vf, x11, x12, x13, x14, x15, x16, x17, x18, x19, x20, x21, rfl, hV⟩
      obtain rfl := hV.l5 (hbe { on := 5, ground := .data } (by simp) rfl)
      have HV := Lib.hid hV
      clear hV hcl hbe
      go_simp
      exact ⟨vc, vf, x11, x12, _, x14, x15, x16, x17, x18, _, x20, x21, rfl, ⟨HV.out.below, HV.out.oc, HV.out.of, HV.out.l0, HV.out.l1, HV.out.l2, HV.out.l3, HV.out.l4, HV.out.l5, fun _ => rfl, HV.out.l7, HV.out.l8, HV.out.l9, HV.out.l10⟩⟩
    case o7 =>
      rintro L ac Wr hL hbe hcl ⟨vc, vf, x11, x12, x13, x14, x15, x16, x17, x18, x19, x20, x21, rfl, hV⟩
      obtain rfl := hV.l6 (hbe { on := 6, ground := .data } (by simp) rfl)
      have HV := Lib.hid hV
      clear hV hcl hbe
      go_simp
      exact ⟨vc, vf, x11, x12, _, x14, x15, x16, x17, x18, x19, _, x21, rfl, ⟨HV.out.below, HV.out.oc, HV.out.of, HV.out.l0, HV.out.l1, HV.out.l2, HV.out.l3, HV.out.l4, HV.out.l5, HV.out.l6, fun _ => rfl, HV.out.l8, HV.out.l9, HV.out.l10⟩⟩
    case o8 =>
      rintro L ac Wr hL hbe hcl ⟨vc, vf, x11, x12, x13, x14, x15, x16, x17, x18, x19, x20, x21, rfl, hV⟩
      obtain rfl := hV.l6 (hbe { on := 6, ground := .data } (by simp) rfl)
      have HV := Lib.hid hV
      clear hV hcl hbe
      go_simp
      exact ⟨vc, vf, x11, x12, _, x14, x15, x16, x17, x18, x19, x20, _, rfl, ⟨HV.out.below, HV.out.oc, HV.out.of, HV.out.l0, HV.out.l1, HV.out.l2, HV.out.l3, HV.out.l4, HV.out.l5, HV.out.l6, HV.out.l7, fun _ => rfl, HV.out.l9, HV.out.l10⟩⟩
    case o9 =>
      rintro L ac Wr hL hbe hcl ⟨vc, vf, x11, x12, x13, x14, x15, x16, x17, x18, x19, x20, x21, rfl, hV⟩
      obtain rfl := hV.l7 (hbe { on := 7, ground := .data } (by simp) rfl)
      have HV := Lib.hid hV
      clear hV hcl hbe
      go_simp
      exact ⟨vc, _, _, x12, x13, x14, x15, x16, x17, x18, x19, _, x21, rfl, ⟨HV.out.below, HV.out.oc, HV.out.of, HV.out.l0, HV.out.l1, HV.out.l2, HV.out.l3, HV.out.l4, HV.out.l5, HV.out.l6, HV.out.l7, HV.out.l8, fun _ => rfl, HV.out.l10⟩⟩
    case o10 =>
      rintro L ac Wr hL hbe hcl ⟨vc, vf, x11, x12, x13, x14, x15, x16, x17, x18, x19, x20, x21, rfl, hV⟩
      obtain rfl := hV.l8 (hbe { on := 8, ground := .data } (by simp) rfl)
      have HV := Lib.hid hV
      clear hV hcl hbe
      go_simp
      exact ⟨vc, vf, x11, _, x13, x14, x15, x16, x17, x18, x19, x20, _, rfl, ⟨HV.out.below, HV.out.oc, HV.out.of, HV.out.l0, HV.out.l1, HV.out.l2, HV.out.l3, HV.out.l4, HV.out.l5, HV.out.l6, HV.out.l7, HV.out.l8, HV.out.l9, fun _ => rfl⟩⟩
  case hd =>
    rintro L ac Wr hL ⟨vc, vf, x11, x12, x13, x14, x15, x16, x17, x18, x19, x20, x21, rfl, hV⟩
    have h9 := hV.l9 (hL 9 (by decide))
    obtain rfl := hV.l10 (hL 10 (by decide))
    have hof := hV.of (hL 5 (by decide))
    have hbw := hV.below
    subst h9
    clear hV hL
    have hbt := byt_own hof (by rw [HLen.out]; omega) (Nat.le_refl _)
    obtain ⟨av, cv, rfl⟩ := row_form hof
    have hb8 := byt_take14 hbt 8 (by rw [HLen.out]; omega)
    rw [HW8.out] at hb8
    have hwv := HBy.out.below (below_chain B1.out (Nat.le_refl _) hbw)
    have HSm := Lib.hid (same_any hb8 hwv)
    have HB := Lib.hid (below_chain B1.out (Nat.le_refl _) hbw)
    have hcap : 64 ≤ cv := by
      rw [HLen.out] at hof
      rcases hof.2 with ⟨h, -⟩ | ⟨g', cap', cur, e, -, hg', hc', hc2, -⟩
      · cases h
      · cases e; omega
    have hl64 : ((Lf.length : Nat) : Int) = 64 := by rw [HLen.out]; rfl
    rw [HLen.out]
    clear hof hbt hb8 hwv hbw hl64
    simp only [decide_true] at HSm
    go_wp2_with fail
    refine HSm.out.mono ?_
    rintro e w' ⟨rfl, rfl⟩
    go_wp2
    go_ret
    exact ⟨rfl, HB.out⟩
end Go.Proofs.Ythoklmhaljjjdaa
