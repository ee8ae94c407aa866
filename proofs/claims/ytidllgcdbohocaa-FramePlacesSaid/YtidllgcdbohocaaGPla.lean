/- frame: Place. -/
import Derived.Test.YtidllgcdbohocaaGCor
import Derived.Test.YtidllgcdbohocaaGFun
namespace Go.Proofs.Ytidllgcdbohocaa
open Go.RowKit Go.Shelf Go.Sort
set_option linter.unusedVariables false
attribute [local go_sem] Oper.semAt_some

/-- where block x of all stands, with its macroblock; where it lies among the bytes -/
def bX (c x : Nat) : Nat := gpX c (x / 198) + 16 * (x % 198 / 6 % 11)
def bY (c x : Nat) : Nat := gpY c (x / 198) + 16 * (x % 198 / 6 / 11)
def bP (c : Nat) (w h : Int) (x : Nat) : Int := plF w h (x % 6 + 1) + plW w (x % 6 + 1) * ((coY (bY c x) (x % 6 + 1) : Nat) : Int) + ((coX (bX c x) (x % 6 + 1) : Nat) : Int)
/-- is it that one? -/
def isB (c x : Nat) (g a b : Int) : Prop := ((gpN c (x / 198) : Nat) : Int) = g ∧ ((x % 198 / 6 + 1 : Nat) : Int) = a ∧ ((x % 6 + 1 : Nat) : Int) = b
/-- what Place answers, of a format that is known -/
def PlaE (c N : Nat) (w h : Int) (g a b : Int) (e : Ending) : Prop :=
  (∃ x, x < 198 * N ∧ isB c x g a b ∧ e = .returned (.tuple #[.int .i64 (bP c w h x), .int .i64 (plW w (x % 6 + 1)), .int .i64 0])) ∨
  ((∃ k, k < N ∧ ((gpN c k : Nat) : Int) = g) ∧ (1 ≤ a ∧ a ≤ 33) ∧ (b < 1 ∨ 6 < b) ∧ e = .returned (.tuple #[.int .i64 0, .int .i64 0, .int .i64 3])) ∨
  ((∃ k, k < N ∧ ((gpN c k : Nat) : Int) = g) ∧ (a < 1 ∨ 33 < a) ∧ e = .returned (.tuple #[.int .i64 0, .int .i64 0, .int .i64 13])) ∨
  ((∀ k, k < N → ((gpN c k : Nat) : Int) ≠ g) ∧ e = .returned (.tuple #[.int .i64 0, .int .i64 0, .int .i64 8]))
theorem encB_eq (c x : Nat) : encBk c x = #[.agg #[.int .i64 (gpN c (x / 198) : Nat), .int .i64 ((x % 198 / 6 + 1 : Nat) : Int), .int .i64 (bX c x : Nat), .int .i64 (bY c x : Nat), .int .i64 ((x % 6 + 1 : Nat) : Int)]] := rfl
theorem bX_le {c x : Nat} (hc : c = 1 ∨ c = 2) : bX c x ≤ 1000 := by
  have : gpX c (x / 198) ≤ 176 := by
    unfold gpX
    have := Nat.mod_lt (x / 198) (show 0 < c by omega)
    omega
  unfold bX
  omega
theorem bY_le {c x N : Nat} (hN : N ≤ 12) (hx : x < 198 * N) : bY c x ≤ 1000 := by
  have : gpY c (x / 198) ≤ 48 * 11 := by
    unfold gpY
    have := Nat.div_le_self (x / 198) c
    have : x / 198 < 12 := by omega
    omega
  unfold bY
  omega
theorem place_none {c N : Nat} {g a b : Int} {k m : Nat} (hk : k < N) (hg : ((gpN c k : Nat) : Int) = g) (hm : m < 33) (ha : a = (m : Int) + 1) (h : ∀ x, x < 198 * N → ¬ isB c x g a b) : b < 1 ∨ 6 < b := by
  by_cases h1 : b < 1
  · exact .inl h1
  · right
    by_cases h2 : 6 < b
    · exact h2
    · obtain ⟨i, hi⟩ : ∃ i : Nat, b = (i : Int) + 1 := ⟨(b - 1).toNat, by omega⟩
      refine absurd ⟨?_, ?_, ?_⟩ (h (198 * k + 6 * m + i) (by omega))
      · rw [show (198 * k + 6 * m + i) / 198 = k by omega]; exact hg
      · omega
      · omega

/-- the boxes of a call of Place -/
structure PInv (W : World) (g a b u v z : Int) (Wx : World) : Prop where
  q0 : Box1 Wx W.heap.size (.int .i64 g)
  q1 : Box1 Wx (W.heap.size + 1) (.int .i64 a)
  q2 : Box1 Wx (W.heap.size + 1 + 1) (.int .i64 b)
  q3 : Box1 Wx (W.heap.size + 1 + 1 + 1) (.int .i64 u)
  q4 : Box1 Wx (W.heap.size + 1 + 1 + 1 + 1) (.int .i64 v)
  q5 : Box1 Wx (W.heap.size + 1 + 1 + 1 + 1 + 1) (.int .i64 z)
  below : Below W.heap.size W Wx
theorem PInv.at {W : World} {g a b u v z : Int} {A B : World} (h : PInv W g a b u v z A) (hk : ∀ k, W.heap.size ≤ k → k < W.heap.size + 6 → B.heap[k]? = A.heap[k]?) (hb : Below W.heap.size A B) : PInv W g a b u v z B :=
  ⟨h.q0.at (hk _ (by omega) (by omega)), h.q1.at (hk _ (by omega) (by omega)), h.q2.at (hk _ (by omega) (by omega)), h.q3.at (hk _ (by omega) (by omega)), h.q4.at (hk _ (by omega) (by omega)), h.q5.at (hk _ (by omega) (by omega)), h.below.trans hb⟩
theorem PInv.size {W : World} {g a b u v z : Int} {A : World} (h : PInv W g a b u v z A) : W.heap.size + 6 ≤ A.heap.size := by have := h.q5.lt; omega

theorem pl_in {f w h nn : Int} {c r : Nat} (H : Fm f w h nn c r) (b y : Nat) (hy : y ≤ 2000) : 0 ≤ plF w h b ∧ plF w h b ≤ 200000 ∧ 0 ≤ plW w b * (y : Int) ∧ plW w b * (y : Int) ≤ 1000000 := by
  unfold plF plW
  rcases H with ⟨rfl, rfl, rfl, rfl, -, -⟩ | ⟨rfl, rfl, rfl, rfl, -, -⟩
  all_goals
    repeat' split
    all_goals omega
theorem co_le (x b : Nat) (hx : x ≤ 1000) : coX x b ≤ 1008 ∧ coY x b ≤ 2000 ∨ 7 ≤ b := by
  by_cases h : 7 ≤ b
  · exact .inr h
  · left
    unfold coX coY
    constructor
    all_goals
      split
      · omega
      · omega

/-- the region that tells the place: the world -/
structure PRegW (w5 : World) (B1 B2 B3 : Nat) (P q : Int) (L : Nat → Bool) (Wr : World) : Prop where
  bar : Bar (fun k => k = B1 ∨ k = B2 ∨ k = B3) w5 Wr
  n1 : ∃ v, Box1 Wr B1 v
  n2 : ∃ v, Box1 Wr B2 v
  n3 : ∃ v, Box1 Wr B3 v
  l8 : L 8 = true → Box1 Wr B1 (.int .i64 P)
  l9 : L 9 = true → Box1 Wr B2 (.int .i64 q)
  l10 : L 10 = true → Box1 Wr B3 (.int .i64 0)
theorem PRegW.same {w5 : World} {B1 B2 B3 : Nat} {P q : Int} {L L' : Nat → Bool} {A B : World} (h : PRegW w5 B1 B2 B3 P q L A) (hk : Below A.heap.size A B) (h8 : L' 8 = L 8) (h9 : L' 9 = L 9) (h10 : L' 10 = L 10) : PRegW w5 B1 B2 B3 P q L' B :=
  ⟨h.bar.trans (bar_of_below (S := fun _ => False) hk) (fun _ _ e => e.elim),
    by obtain ⟨v, e⟩ := h.n1; exact ⟨v, e.at (hk.block _ e.lt)⟩, by obtain ⟨v, e⟩ := h.n2; exact ⟨v, e.at (hk.block _ e.lt)⟩, by obtain ⟨v, e⟩ := h.n3; exact ⟨v, e.at (hk.block _ e.lt)⟩,
    fun e => (h.l8 (h8 ▸ e)).at (hk.block _ (h.l8 (h8 ▸ e)).lt), fun e => (h.l9 (h9 ▸ e)).at (hk.block _ (h.l9 (h9 ▸ e)).lt), fun e => (h.l10 (h10 ▸ e)).at (hk.block _ (h.l10 (h10 ▸ e)).lt)⟩
/-- and what its operations have told -/
structure PRegV (pl bl tu ptr : Value) (X Y P q : Int) (L : Nat → Bool) (x58 x59 x60 x61 x62 x63 x64 x65 : Value) : Prop where
  l0 : L 0 = true → x58 = pl
  l1 : L 1 = true → x59 = bl
  l2 : L 2 = true → x60 = tu
  l3 : L 3 = true → x61 = .int .i64 X
  l4 : L 4 = true → x62 = .int .i64 Y
  l5 : L 5 = true → x63 = .int .i64 P
  l6 : L 6 = true → x64 = ptr
  l7 : L 7 = true → x65 = .int .i64 q
def PRegI (fr : Value → Value → Value → Value → Value → Value → Value → Value → Act) (w5 : World) (B1 B2 B3 : Nat) (pl bl tu ptr : Value) (X Y P q : Int) (L : Nat → Bool) (ac : Act) (Wr : World) : Prop :=
  ∃ x58 x59 x60 x61 x62 x63 x64 x65, ac = fr x58 x59 x60 x61 x62 x63 x64 x65 ∧ PRegW w5 B1 B2 B3 P q L Wr ∧ PRegV pl bl tu ptr X Y P q L x58 x59 x60 x61 x62 x63 x64 x65

/-- the three results told: a call of Place with nought, nought and an error -/
theorem PInv.tell {W : World} {g a b u v z : Int} {A : World} (h : PInv W g a b u v z A) (u' v' z' : Int) :
    PInv W g a b u' v' z' (((A.setCell ⟨W.heap.size + 1 + 1 + 1, 0, none⟩ (.int .i64 u')).setCell ⟨W.heap.size + 1 + 1 + 1 + 1, 0, none⟩ (.int .i64 v')).setCell ⟨W.heap.size + 1 + 1 + 1 + 1 + 1, 0, none⟩ (.int .i64 z')) := by
  have hk : ∀ k, k < W.heap.size + 3 → (((A.setCell ⟨W.heap.size + 1 + 1 + 1, 0, none⟩ (.int .i64 u')).setCell ⟨W.heap.size + 1 + 1 + 1 + 1, 0, none⟩ (.int .i64 v')).setCell ⟨W.heap.size + 1 + 1 + 1 + 1 + 1, 0, none⟩ (.int .i64 z')).heap[k]? = A.heap[k]? := fun k hk => by
    rw [heap_setCell_other _ _ _ _ (by simp; omega), heap_setCell_other _ _ _ _ (by simp; omega), heap_setCell_other _ _ _ _ (by simp; omega)]
  refine ⟨h.q0.at (hk _ (by omega)), h.q1.at (hk _ (by omega)), h.q2.at (hk _ (by omega)), ((h.q3.set _).other _ _ (by simp <;> omega)).other _ _ (by simp <;> omega), ((h.q4.other _ _ (by simp <;> omega)).set _).other _ _ (by simp <;> omega), ((h.q5.other _ _ (by simp <;> omega)).other _ _ (by simp <;> omega)).set _, ?_⟩
  refine ((h.below.setCell ?_ _).setCell ?_ _).setCell ?_ _
  all_goals (simp <;> omega)

set_option maxRecDepth 100000 in
set_option maxHeartbeats 4000000 in
theorem place13_any {f w h nn : Int} {c r : Nat} (H : Fm f w h nn c r) (g a b : Int) (W : World) :
    Calls Try.prog 19 #[.int .i64 f, .int .i64 g, .int .i64 a, .int .i64 b] W fun e W' => PlaE c (c * r) w h g a b e ∧ Below W.heap.size W W' := by
  have HK := Lib.hid (fun W => fknown_any H W)
  have HCo := Lib.hid (fun W => corner13_any H g a W)
  have HPl := Lib.hid (fun b W => fplane_any H b W)
  have HB := Lib.hid (fun w => fblocks_in Fence.wide (40 - 1) trivial rfl f w)
  have HT := Lib.hid (fun (n : Nat) (hn : 12 ≤ n) (bb : Nat) (Kp : World → World → Prop) (w0 : World) => fblocks_T H n hn bb Kp w0)
  have hcr := H.cr
  have HC := Lib.hid H.c
  have HPB := Lib.hid (fun b y hy => pl_in H b y hy)
  clear H
  generalize hcN : c * r = N at *
  refine (callsIn_wide (n := 40)).1 ?_
  refine callsIn_of_wp_marks Try.func19 rfl trivial ?_ rfl
  simp only [Try.ntmps19, List.size_toArray, List.length_cons, List.length_nil, Nat.reduceAdd, Nat.reduceSub, Array.replicate_succ, Array.replicate_zero, List.push_toArray, List.append_toArray, List.nil_append, List.cons_append]
  gi_wp2
  obtain ⟨w1, hw⟩ : ∃ w1, ((((((W.alloc (Obj.cells #[Value.int IntKind.i64 g] 3)).alloc (Obj.cells #[Value.int IntKind.i64 a] 3)).alloc (Obj.cells #[Value.int IntKind.i64 b] 3)).alloc (Obj.cells #[Value.int IntKind.i64 0] 3)).alloc (Obj.cells #[Value.int IntKind.i64 0] 3)).alloc (Obj.cells #[Value.int IntKind.i64 0] 22)) = w1 := ⟨_, rfl⟩
  have hz1 : w1.heap.size = W.heap.size + 6 := by rw [← hw]; simp
  have hb1 : Below W.heap.size W w1 := by rw [← hw]; exact ((((((Below.refl _ W).alloc (Nat.le_refl _) _).alloc (by simp) _).alloc (by simp; omega) _).alloc (by simp; omega) _).alloc (by simp; omega) _).alloc (by simp; omega) _
  have q0 : Box1 w1 W.heap.size (.int .i64 g) := by rw [← hw]; exact ⟨_, heap_keep (heap_keep (heap_keep (heap_keep (heap_keep (heap_new _ rfl _) _) _) _) _) _⟩
  have q1 : Box1 w1 (W.heap.size + 1) (.int .i64 a) := by rw [← hw]; exact ⟨_, heap_keep (heap_keep (heap_keep (heap_keep (heap_new _ (by simp) _) _) _) _) _⟩
  have q2 : Box1 w1 (W.heap.size + 1 + 1) (.int .i64 b) := by rw [← hw]; exact ⟨_, heap_keep (heap_keep (heap_keep (heap_new _ (by simp) _) _) _) _⟩
  have q3 : Box1 w1 (W.heap.size + 1 + 1 + 1) (.int .i64 0) := by rw [← hw]; exact ⟨_, heap_keep (heap_keep (heap_new _ (by simp) _) _) _⟩
  have q4 : Box1 w1 (W.heap.size + 1 + 1 + 1 + 1) (.int .i64 0) := by rw [← hw]; exact ⟨_, heap_keep (heap_new _ (by simp) _) _⟩
  have q5 : Box1 w1 (W.heap.size + 1 + 1 + 1 + 1 + 1) (.int .i64 0) := by rw [← hw]; exact ⟨_, heap_new _ (by simp) _⟩
  rw [hw]
  clear hw
  refine ⟨trivial, (callsIn_wide.2 (HCo.out w1)).mono ?_⟩
  clear HCo
  rintro e w2 ⟨he, hb2⟩
  have hz2 := hb2.size
  have pI : PInv W g a b 0 0 0 w2 := ⟨q0.at (hb2.block _ (by omega)), q1.at (hb2.block _ (by omega)), q2.at (hb2.block _ (by omega)), q3.at (hb2.block _ (by omega)), q4.at (hb2.block _ (by omega)), q5.at (hb2.block _ (by omega)), Below.thru hb1 hb2 (by omega)⟩
  clear q0 q1 q2 q3 q4 q5 hb1 hb2
  have PI := Lib.hid pI
  clear pI
  rcases he with ⟨k, m, hk, hm, hg, ha, rfl⟩ | ⟨hk, ha, rfl⟩ | ⟨hno, rfl⟩
  · have HNone : Hid ((∀ x, x < 198 * N → ¬ isB c x g a b) → PlaE c N w h g a b (.returned (.tuple #[.int .i64 0, .int .i64 0, .int .i64 3]))) := fun hh => .inr (.inl ⟨⟨k, hk, hg⟩, by omega, place_none hk hg hm ha hh, rfl⟩)
    generalize ((gpX c k : Nat) : Int) + 16 * ((m : Int) % 11) = cx at *
    generalize ((gpY c k : Nat) : Int) + 16 * ((m : Int) / 11) = cy at *
    clear hk hm hg ha
    gi_wp2_with (first | (refine ⟨trivial, ?_⟩; gi_at_call 27; refine (callsIn_wide.2 (HK.out _)).mono ?_; rintro e w' ⟨rfl, rfl⟩) | (refine ⟨trivial, ?_⟩; gi_at_call 33; refine (HB.out _).mono ?_; rintro e w' ⟨rfl, rfl⟩))
    obtain ⟨w3, hw3⟩ : ∃ w3, ((w2.alloc (Obj.cells #[Value.int IntKind.i64 f] 47)).alloc (Obj.cells #[Value.int IntKind.i64 f] 47)) = w3 := ⟨_, rfl⟩
    rw [hw3]
    have hz3 : w3.heap.size = w2.heap.size + 2 := by rw [← hw3]; simp
    have hb3 : Below w2.heap.size w2 w3 := by rw [← hw3]; exact ((Below.refl _ w2).alloc (Nat.le_refl _) _).alloc (by simp) _
    have hf3 : Box1 w3 w2.heap.size (.int .i64 f) := by rw [← hw3]; exact ⟨_, heap_keep (heap_new _ rfl _) _⟩
    have hmb : Box1 w3 (w2.heap.size + 1) (.int .i64 f) := by rw [← hw3]; exact ⟨_, heap_new _ (by simp) _⟩
    clear hw3
    have hzp := PI.out.size
    refine wpIn_range_T rfl (by omega) (gf := 39) (lb := #[.pointer (some ⟨w2.heap.size + 1, 0, none⟩)]) rfl trivial (enters_of Try.func39 (by kernel_rfl) rfl)
      (HT.out (40 - 1) (by omega) (w2.heap.size + 1) (fun _ _ => True) w3 (by omega) hmb.cell.1)
      (fun _ _ => trivial) (fun _ _ _ _ => trivial) (Below.refl _ _) (fun _ => rfl)
      (fun x Wx => (∀ y, y < x → ¬ isB c y g a b) ∧ PInv W g a b 0 0 0 Wx ∧ Box1 Wx w2.heap.size (.int .i64 f))
      (fun c' x Wx => c' = .ret ∧ isB c x g a b ∧ PInv W g a b (bP c w h x) (plW w (x % 6 + 1)) 0 Wx)
      ?hI ?hIx ?h0 ?hround ?hdone ?hstop
    case hI =>
      rintro x A B ⟨h1, h2, h3⟩ hb
      exact ⟨h1, h2.at (fun k _ _ => hb.block _ (by omega)) (hb.mono (by omega)), h3.at (hb.block _ (by omega))⟩
    case hIx =>
      rintro c' x A B ⟨h1, h2, h3⟩ hb
      exact ⟨h1, h2, h3.at (fun k _ _ => hb.block _ (by omega)) (hb.mono (by omega))⟩
    case h0 =>
      exact ⟨fun m hm => by omega, PI.out.at (fun k _ _ => hb3.block _ (by omega)) (hb3.mono (by omega)), hf3⟩
    case hround =>
      rintro x Wx ⟨h1, h2, h3⟩ hxz hx
      clear hb3 hf3 hmb
      have hxb := bX_le (x := x) HC.out
      have hyb := bY_le (c := c) hcr hx
      have hE := encB_eq c x
      have hIs : Hid (∀ g a b, isB c x g a b ↔ ((gpN c (x / 198) : Nat) : Int) = g ∧ ((x % 198 / 6 + 1 : Nat) : Int) = a ∧ ((x % 6 + 1 : Nat) : Int) = b) := fun _ _ _ => Iff.rfl
      have hPl : Hid (bP c w h x = plF w h (x % 6 + 1) + plW w (x % 6 + 1) * ((coY (bY c x) (x % 6 + 1) : Nat) : Int) + ((coX (bX c x) (x % 6 + 1) : Nat) : Int)) := rfl
      have hb1 : 1 ≤ x % 6 + 1 := by omega
      have hb6 : x % 6 + 1 ≤ 6 := by omega
      rw [hE]
      clear hE
      generalize gpN c (x / 198) = vg at *
      generalize x % 198 / 6 + 1 = va at *
      generalize hvb : x % 6 + 1 = vb at *
      have HVb := Lib.hid hvb
      clear hvb
      generalize bX c x = vx at *
      generalize bY c x = vy at *
      gi_wp2
      refine ⟨KeepsHi.alloc _ _ _, trivial, fun W2 hb2 hz2 hot => ?_⟩
      have hz2' : W2.heap.size = Wx.heap.size + 1 := by rw [hz2]; simp
      have hmx : W2.heap[Wx.heap.size]? = some (.cells #[.int .i64 (vg : Int), .int .i64 (va : Int), .int .i64 (vx : Int), .int .i64 (vy : Int), .int .i64 (vb : Int)] 69 (0, 0)) := by
        rw [hot _ (by omega)]; exact World.alloc_heap_new _ _
      have hk : ∀ b, b < w3.heap.size → W2.heap[b]? = Wx.heap[b]? := fun b hb => by rw [hot _ (by omega), Below.heap_alloc _ _ _ (by omega)]
      replace h2 := h2.at (B := W2) (fun k _ _ => hk _ (by omega)) (((Below.refl W.heap.size Wx).alloc (by omega) _).trans (hb2.mono (by omega)))
      replace h3 := h3.at (hk _ (by omega))
      obtain ⟨c0, f0⟩ := h2.q0.cell
      obtain ⟨c1, f1⟩ := h2.q1.cell
      obtain ⟨c2, f2⟩ := h2.q2.cell
      obtain ⟨c3, f3⟩ := h3.cell
      have m0 : W2.cell? ⟨Wx.heap.size, 0, none⟩ = some (.int .i64 (vg : Int)) := by simp [World.cell?, hmx]
      have m1 : W2.cell? ⟨Wx.heap.size, 1, none⟩ = some (.int .i64 (va : Int)) := by simp [World.cell?, hmx]
      have m4 : W2.cell? ⟨Wx.heap.size, 4, none⟩ = some (.int .i64 (vb : Int)) := by simp [World.cell?, hmx]
      have H1 := Lib.hid h1
      have H2 := Lib.hid h2
      have H3 := Lib.hid h3
      have HMx := Lib.hid hmx
      clear h1 h2 h3 hb2 hz2 hot hk hmx
      have no : ¬ isB c x g a b → (∀ y, y < x + 1 → ¬ isB c y g a b) := fun hn y hy => by
        by_cases e : y = x
        · rw [e]; exact hn
        · exact H1.out y (by omega)
      have NO := Lib.hid no
      clear no
      by_cases hg : (vg : Int) = g
      · have t1 : ((vg : Int) == g) = true := by rw [beq_iff_eq]; exact hg
        by_cases ha : (va : Int) = a
        · have t2 : ((va : Int) == a) = true := by rw [beq_iff_eq]; exact ha
          by_cases hb : (vb : Int) = b
          · have t3 : ((vb : Int) == b) = true := by rw [beq_iff_eq]; exact hb
            have HY := Lib.hid ((hIs.out g a b).2 ⟨hg, ha, hb⟩)
            have HP2 : Hid (Calls Try.prog 34 #[.int .i64 f, .int .i64 b] W2 fun e W' => e = .returned (.agg #[.int .i64 (plF w h vb), .int .i64 (plW w vb)]) ∧ Below W2.heap.size W2 W') := by
              have := HPl.out vb W2
              rw [hb] at this
              exact this
            clear hg ha hb
            gi_wp2_with (refine ⟨trivial, ?_⟩; gi_at_call 34; refine CallsIn.mono (F := Fence.wide.inRound _) (callsIn_wide.2 HP2.out) ?_; rintro e w4 ⟨rfl, hb4⟩)
            have hco := co_le vx vb (by omega)
            have hcoY := co_le vy vb (by omega)
            obtain ⟨z0, z1, z2, z3⟩ := HPB.out vb (coY vy vb) (by omega)
            have hX : ((coX vx vb : Nat) : Int) ≤ 1008 := by omega
            have HCo := Lib.hid (fun W => fcornerB_any (vg : Int) (va : Int) vx vy vb (by omega) (by omega) (by omega) (by omega) W)
            have hPl2 := hPl.out
            clear hco hcoY
            generalize coX vx vb = X at *
            generalize coY vy vb = Y at *
            generalize plF w h vb = p at *
            generalize hqq : plW w vb = q at *
            have HQ := Lib.hid hqq
            clear hqq
            have HPc := Lib.hid (fun W => fplaceP_any p q (X : Int) (Y : Int) z0 z1 (by omega) (by omega) z2 z3 W)
            rw [← hPl2] at HPc
            generalize hPP : bP c w h x = P at *
            have HPP := Lib.hid hPP
            clear hPP
            obtain ⟨w5, hw5⟩ : ∃ w5, w4.alloc (Obj.cells #[Value.int IntKind.i64 p, Value.int IntKind.i64 q] 71) = w5 := ⟨_, rfl⟩
            have hz5 : w5.heap.size = w4.heap.size + 1 := by rw [← hw5]; simp
            have hz4 := hb4.size
            have hb5 : Below W2.heap.size W2 w5 := by rw [← hw5]; exact hb4.trans ((Below.refl _ w4).alloc hz4 _)
            have hg5 : w5.heap[w4.heap.size]? = some (.cells #[.int .i64 p, .int .i64 q] 71 (0, 0)) := by rw [← hw5]; exact World.alloc_heap_new _ _
            have hm5 := (hb5.block _ (by omega)).trans HMx.out
            have hI5 : PInv W g a b 0 0 0 w5 := H2.out.at (fun k _ _ => hb5.block _ (by omega)) (hb5.mono (by omega))
            rw [hw5]
            clear hw5
            have HSz := H2.out.size
            have HCell : Hid (∀ Wr, Bar (fun k => k = W.heap.size + 1 + 1 + 1 ∨ k = W.heap.size + 1 + 1 + 1 + 1 ∨ k = W.heap.size + 1 + 1 + 1 + 1 + 1) w5 Wr → (Wr.cell? ⟨w4.heap.size, 0, none⟩ = some (.int .i64 p) ∧ Wr.cell? ⟨w4.heap.size, 1, none⟩ = some (.int .i64 q)) ∧
                (Wr.cell? ⟨Wx.heap.size, 0, none⟩ = some (.int .i64 (vg : Int)) ∧ Wr.cell? ⟨Wx.heap.size, 1, none⟩ = some (.int .i64 (va : Int)) ∧ Wr.cell? ⟨Wx.heap.size, 2, none⟩ = some (.int .i64 (vx : Int)) ∧ Wr.cell? ⟨Wx.heap.size, 3, none⟩ = some (.int .i64 (vy : Int)) ∧ Wr.cell? ⟨Wx.heap.size, 4, none⟩ = some (.int .i64 (vb : Int)))) := fun Wr hb => by
              have k1 := (hb.block _ (show w4.heap.size < w5.heap.size by omega) (by omega)).trans hg5
              have k2 := (hb.block _ (show Wx.heap.size < w5.heap.size by omega) (by omega)).trans hm5
              refine ⟨⟨by simp [World.cell?, k1], by simp [World.cell?, k1]⟩, by simp [World.cell?, k2], by simp [World.cell?, k2], by simp [World.cell?, k2], by simp [World.cell?, k2], by simp [World.cell?, k2]⟩
            have HKeep : Hid (∀ Wr, Bar (fun k => k = W.heap.size + 1 + 1 + 1 ∨ k = W.heap.size + 1 + 1 + 1 + 1 ∨ k = W.heap.size + 1 + 1 + 1 + 1 + 1) w5 Wr → KeepsMid w3.heap.size Wx.heap.size W2 Wr ∧ Below W.heap.size W Wr ∧ Box1 Wr W.heap.size (.int .i64 g) ∧ Box1 Wr (W.heap.size + 1) (.int .i64 a) ∧ Box1 Wr (W.heap.size + 1 + 1) (.int .i64 b)) := fun Wr hb =>
              ⟨⟨Nat.le_trans hb5.size hb.size, fun k _ _ => (hb.block _ (by omega) (by omega)).trans (hb5.block _ (by omega))⟩, hI5.below.trans (hb.below (by omega) (fun k hk e => by omega)),
                hI5.q0.at (hb.block _ (by omega) (by omega)), hI5.q1.at (hb.block _ (by omega) (by omega)), hI5.q2.at (hb.block _ (by omega) (by omega))⟩
            have HI5 := Lib.hid hI5
            clear hI5 hm5 hg5 hb4 hb5 hPl2 hPl t1 t2 t3 m0 m1 m4 c0 c1 c2 c3 f0 f1 f2 f3
            refine wpIn_region_inv (by kernel_rfl) (by kernel_rfl) (by kernel_rfl) (PRegI (fun x58 x59 x60 x61 x62 x63 x64 x65 => { tmps := #[.int .i64 f, .int .i64 g, .int .i64 a, .int .i64 b, undef, .pointer (some ⟨W.heap.size, 0, none⟩), .pointer (some ⟨W.heap.size + 1, 0, none⟩), .pointer (some ⟨W.heap.size + 1 + 1, 0, none⟩), .pointer (some ⟨W.heap.size + 1 + 1 + 1, 0, none⟩), .pointer (some ⟨W.heap.size + 1 + 1 + 1 + 1, 0, none⟩), .pointer (some ⟨W.heap.size + 1 + 1 + 1 + 1 + 1, 0, none⟩), .int .i64 cx, .int .i64 cy, .int .i64 0, .pointer (some ⟨w2.heap.size, 0, none⟩), .int .i64 0, .pointer (some ⟨Wx.heap.size, 0, none⟩), .pointer (some ⟨w4.heap.size, 0, none⟩), .tuple #[.int .i64 cx, .int .i64 cy, .int .i64 0], .int .i64 f, .int .i64 g, .int .i64 a, .tuple #[.int .i64 cx, .int .i64 cy, .int .i64 0], .int .i64 cx, .int .i64 cy, .int .i64 0, .int .i64 0, .bool false, undef, .tuple #[.int .i64 f, .int .i64 0], .int .i64 f, .tuple #[.int .i64 f, .int .i64 0], .int .i64 f, .int .i64 0, .int .i64 f, .func (.func 39) #[] #[.pointer (some ⟨w2.heap.size + 1, 0, none⟩)], .agg #[.int .i64 (vg : Int), .int .i64 (va : Int), .int .i64 (vx : Int), .int .i64 (vy : Int), .int .i64 (vb : Int)], .pointer (some ⟨Wx.heap.size, 0, none⟩), .pointer (some ⟨Wx.heap.size, 0, none⟩), .int .i64 (vg : Int), .int .i64 g, .bool true, .bool true, .pointer (some ⟨Wx.heap.size, 0, none⟩), .pointer (some ⟨Wx.heap.size, 1, none⟩), .int .i64 (va : Int), .int .i64 a, .bool true, .bool true, .bool true, .pointer (some ⟨Wx.heap.size, 4, none⟩), .int .i64 (vb : Int), .int .i64 b, .bool true, .bool true, .int .i64 f, .int .i64 b, .agg #[.int .i64 p, .int .i64 q], x58, x59, x60, x61, x62, x63, x64, x65], defers := [] }) w5 (W.heap.size + 1 + 1 + 1) (W.heap.size + 1 + 1 + 1 + 1) (W.heap.size + 1 + 1 + 1 + 1 + 1) (.agg #[.int .i64 p, .int .i64 q]) (.agg #[.int .i64 (vg : Int), .int .i64 (va : Int), .int .i64 (vx : Int), .int .i64 (vy : Int), .int .i64 (vb : Int)]) (.tuple #[.int .i64 (X : Int), .int .i64 (Y : Int)]) (.pointer (some ⟨w4.heap.size, 1, none⟩)) (X : Int) (Y : Int) P q) ?h0 ?st ?hd
            case h0 =>
              intro L hL
              have e : ∀ i, ¬ L i = true := fun i h => by rw [hL i] at h; cases h
              exact ⟨undef, undef, undef, undef, undef, undef, undef, undef, rfl, ⟨(Bar.refl _ _).drew, ⟨_, HI5.out.q3⟩, ⟨_, HI5.out.q4⟩, ⟨_, HI5.out.q5⟩, fun h => (e _ h).elim, fun h => (e _ h).elim, fun h => (e _ h).elim⟩, ⟨fun h => (e _ h).elim, fun h => (e _ h).elim, fun h => (e _ h).elim, fun h => (e _ h).elim, fun h => (e _ h).elim, fun h => (e _ h).elim, fun h => (e _ h).elim, fun h => (e _ h).elim⟩⟩
            case st =>
              refine ⟨?o0, ?o1, ?o2, ?o3, ?o4, ?o5, ?o6, ?o7, ?o8, ?o9, ?o10, trivial⟩
              case o0 =>
                rintro L ac Wr hL hbe hcl ⟨x58, x59, x60, x61, x62, x63, x64, x65, rfl, hW, hV⟩
                obtain ⟨⟨d0, d1⟩, -⟩ := HCell.out Wr hW.bar
                have HW := Lib.hid hW
                have HV := Lib.hid hV
                clear hW hV hcl hbe
                go_simp
                exact ⟨_, x59, x60, x61, x62, x63, x64, x65, rfl, (HW.out.same (Below.refl _ _) rfl rfl rfl), ⟨fun _ => rfl, HV.out.l1, HV.out.l2, HV.out.l3, HV.out.l4, HV.out.l5, HV.out.l6, HV.out.l7⟩⟩
              case o1 =>
                rintro L ac Wr hL hbe hcl ⟨x58, x59, x60, x61, x62, x63, x64, x65, rfl, hW, hV⟩
                obtain ⟨-, d0, d1, d2, d3, d4⟩ := HCell.out Wr hW.bar
                have HW := Lib.hid hW
                have HV := Lib.hid hV
                clear hW hV hcl hbe
                go_simp
                exact ⟨x58, _, x60, x61, x62, x63, x64, x65, rfl, (HW.out.same (Below.refl _ _) rfl rfl rfl), ⟨HV.out.l0, fun _ => rfl, HV.out.l2, HV.out.l3, HV.out.l4, HV.out.l5, HV.out.l6, HV.out.l7⟩⟩
              case o2 =>
                rintro L ac Wr hL hbe hcl ⟨x58, x59, x60, x61, x62, x63, x64, x65, rfl, hW, hV⟩
                obtain rfl := hV.l1 (hbe { on := 1, ground := .data } (by simp) rfl)
                have HW := Lib.hid hW
                have HV := Lib.hid hV
                clear hW hV hcl hbe
                go_simp
                refine ⟨trivial, CallsIn.mono (F := Fence.wide.inRound _) (callsIn_wide.2 (HCo.out Wr)) ?_⟩
                rintro e W6 ⟨rfl, hbw⟩
                exact ⟨x58, _, _, x61, x62, x63, x64, x65, rfl, (HW.out.same hbw rfl rfl rfl), ⟨HV.out.l0, HV.out.l1, fun _ => rfl, HV.out.l3, HV.out.l4, HV.out.l5, HV.out.l6, HV.out.l7⟩⟩
              case o3 =>
                rintro L ac Wr hL hbe hcl ⟨x58, x59, x60, x61, x62, x63, x64, x65, rfl, hW, hV⟩
                obtain rfl := hV.l2 (hbe { on := 2, ground := .data } (by simp) rfl)
                have HW := Lib.hid hW
                have HV := Lib.hid hV
                clear hW hV hcl hbe
                go_simp
                exact ⟨x58, x59, _, _, x62, x63, x64, x65, rfl, (HW.out.same (Below.refl _ _) rfl rfl rfl), ⟨HV.out.l0, HV.out.l1, HV.out.l2, fun _ => rfl, HV.out.l4, HV.out.l5, HV.out.l6, HV.out.l7⟩⟩
              case o4 =>
                rintro L ac Wr hL hbe hcl ⟨x58, x59, x60, x61, x62, x63, x64, x65, rfl, hW, hV⟩
                obtain rfl := hV.l2 (hbe { on := 2, ground := .data } (by simp) rfl)
                have HW := Lib.hid hW
                have HV := Lib.hid hV
                clear hW hV hcl hbe
                go_simp
                exact ⟨x58, x59, _, x61, _, x63, x64, x65, rfl, (HW.out.same (Below.refl _ _) rfl rfl rfl), ⟨HV.out.l0, HV.out.l1, HV.out.l2, HV.out.l3, fun _ => rfl, HV.out.l5, HV.out.l6, HV.out.l7⟩⟩
              case o5 =>
                rintro L ac Wr hL hbe hcl ⟨x58, x59, x60, x61, x62, x63, x64, x65, rfl, hW, hV⟩
                obtain rfl := hV.l0 (hbe { on := 0, ground := .data } (by simp) rfl)
                obtain rfl := hV.l3 (hbe { on := 3, ground := .data } (by simp) rfl)
                obtain rfl := hV.l4 (hbe { on := 4, ground := .data } (by simp) rfl)
                have HW := Lib.hid hW
                have HV := Lib.hid hV
                clear hW hV hcl hbe
                go_simp
                refine ⟨trivial, CallsIn.mono (F := Fence.wide.inRound _) (callsIn_wide.2 (HPc.out Wr)) ?_⟩
                rintro e W6 ⟨rfl, rfl⟩
                exact ⟨_, x59, x60, _, _, _, x64, x65, rfl, (HW.out.same ((Below.refl _ _).alloc (Nat.le_refl _) _) rfl rfl rfl), ⟨HV.out.l0, HV.out.l1, HV.out.l2, HV.out.l3, HV.out.l4, fun _ => rfl, HV.out.l6, HV.out.l7⟩⟩
              case o6 =>
                rintro L ac Wr hL hbe hcl ⟨x58, x59, x60, x61, x62, x63, x64, x65, rfl, hW, hV⟩
                have HW := Lib.hid hW
                have HV := Lib.hid hV
                clear hW hV hcl hbe
                go_simp
                exact ⟨x58, x59, x60, x61, x62, x63, _, x65, rfl, (HW.out.same (Below.refl _ _) rfl rfl rfl), ⟨HV.out.l0, HV.out.l1, HV.out.l2, HV.out.l3, HV.out.l4, HV.out.l5, fun _ => rfl, HV.out.l7⟩⟩
              case o7 =>
                rintro L ac Wr hL hbe hcl ⟨x58, x59, x60, x61, x62, x63, x64, x65, rfl, hW, hV⟩
                obtain rfl := hV.l6 (hbe { on := 6, ground := .data } (by simp) rfl)
                obtain ⟨⟨d0, d1⟩, -⟩ := HCell.out Wr hW.bar
                have HW := Lib.hid hW
                have HV := Lib.hid hV
                clear hW hV hcl hbe
                go_simp
                exact ⟨x58, x59, x60, x61, x62, x63, _, _, rfl, (HW.out.same (Below.refl _ _) rfl rfl rfl), ⟨HV.out.l0, HV.out.l1, HV.out.l2, HV.out.l3, HV.out.l4, HV.out.l5, HV.out.l6, fun _ => rfl⟩⟩
              case o8 =>
                rintro L ac Wr hL hbe hcl ⟨x58, x59, x60, x61, x62, x63, x64, x65, rfl, hW, hV⟩
                obtain rfl := hV.l5 (hbe { on := 5, ground := .data } (by simp) rfl)
                obtain ⟨v1, n1⟩ := hW.n1
                obtain ⟨d0, d1⟩ := n1.cell
                have N1 := Lib.hid n1
                obtain ⟨v2, n2⟩ := hW.n2
                obtain ⟨v3, n3⟩ := hW.n3
                have N2 := Lib.hid n2
                have N3 := Lib.hid n3
                clear n1 n2 n3
                have HW := Lib.hid hW
                have HV := Lib.hid hV
                clear hW hV hcl hbe
                go_simp
                exact ⟨x58, x59, x60, x61, x62, _, x64, x65, rfl, ⟨HW.out.bar.setCell (p := ⟨W.heap.size + 1 + 1 + 1, 0, none⟩) (fun _ => .inl rfl) _, ⟨_, N1.out.set _⟩, ⟨_, N2.out.other _ _ (by simp <;> omega)⟩, ⟨_, N3.out.other _ _ (by simp <;> omega)⟩, fun _ => N1.out.set _, fun h => (HW.out.l9 h).other _ _ (by simp <;> omega), fun h => (HW.out.l10 h).other _ _ (by simp <;> omega)⟩, ⟨HV.out.l0, HV.out.l1, HV.out.l2, HV.out.l3, HV.out.l4, HV.out.l5, HV.out.l6, HV.out.l7⟩⟩
              case o9 =>
                rintro L ac Wr hL hbe hcl ⟨x58, x59, x60, x61, x62, x63, x64, x65, rfl, hW, hV⟩
                obtain rfl := hV.l7 (hbe { on := 7, ground := .data } (by simp) rfl)
                obtain ⟨v1, n1⟩ := hW.n1
                obtain ⟨v2, n2⟩ := hW.n2
                obtain ⟨v3, n3⟩ := hW.n3
                obtain ⟨d0, d1⟩ := n2.cell
                have N1 := Lib.hid n1
                have N2 := Lib.hid n2
                have N3 := Lib.hid n3
                clear n1 n2 n3
                have HW := Lib.hid hW
                have HV := Lib.hid hV
                clear hW hV hcl hbe
                go_simp
                exact ⟨x58, x59, x60, x61, x62, x63, x64, _, rfl, ⟨HW.out.bar.setCell (p := ⟨W.heap.size + 1 + 1 + 1 + 1, 0, none⟩) (fun _ => .inr (.inl rfl)) _, ⟨_, N1.out.other _ _ (by simp <;> omega)⟩, ⟨_, N2.out.set _⟩, ⟨_, N3.out.other _ _ (by simp <;> omega)⟩, fun h => (HW.out.l8 h).other _ _ (by simp <;> omega), fun _ => N2.out.set _, fun h => (HW.out.l10 h).other _ _ (by simp <;> omega)⟩, ⟨HV.out.l0, HV.out.l1, HV.out.l2, HV.out.l3, HV.out.l4, HV.out.l5, HV.out.l6, HV.out.l7⟩⟩
              case o10 =>
                rintro L ac Wr hL hbe hcl ⟨x58, x59, x60, x61, x62, x63, x64, x65, rfl, hW, hV⟩
                obtain ⟨v1, n1⟩ := hW.n1
                obtain ⟨v2, n2⟩ := hW.n2
                obtain ⟨v3, n3⟩ := hW.n3
                obtain ⟨d0, d1⟩ := n3.cell
                have N1 := Lib.hid n1
                have N2 := Lib.hid n2
                have N3 := Lib.hid n3
                clear n1 n2 n3
                have HW := Lib.hid hW
                have HV := Lib.hid hV
                clear hW hV hcl hbe
                go_simp
                exact ⟨x58, x59, x60, x61, x62, x63, x64, x65, rfl, ⟨HW.out.bar.setCell (p := ⟨W.heap.size + 1 + 1 + 1 + 1 + 1, 0, none⟩) (fun _ => .inr (.inr rfl)) _, ⟨_, N1.out.other _ _ (by simp <;> omega)⟩, ⟨_, N2.out.other _ _ (by simp <;> omega)⟩, ⟨_, N3.out.set _⟩, fun h => (HW.out.l8 h).other _ _ (by simp <;> omega), fun h => (HW.out.l9 h).other _ _ (by simp <;> omega), fun _ => N3.out.set _⟩, ⟨HV.out.l0, HV.out.l1, HV.out.l2, HV.out.l3, HV.out.l4, HV.out.l5, HV.out.l6, HV.out.l7⟩⟩
            case hd =>
              rintro L ac Wr hL ⟨x58, x59, x60, x61, x62, x63, x64, x65, rfl, hW, hV⟩
              obtain ⟨u1, u2, u3, u4, u5⟩ := HKeep.out Wr hW.bar
              have HU := Lib.hid (show KeepsMid w3.heap.size Wx.heap.size W2 Wr ∧ PInv W g a b P q 0 Wr from ⟨u1, ⟨u3, u4, u5, hW.l8 (hL 8 (by decide)), hW.l9 (hL 9 (by decide)), hW.l10 (hL 10 (by decide)), u2⟩⟩)
              clear hW hV hL u1 u2 u3 u4 u5
              gi_wp2
              exact ⟨HU.out.1, rfl, HY.out, by rw [HVb.out, HQ.out, HPP.out]; exact HU.out.2⟩
          · have t3 : ((vb : Int) == b) = false := by rw [beq_eq_false_iff_ne]; exact hb
            have HN := Lib.hid (NO.out fun h => hb ((hIs.out g a b).1 h).2.2)
            clear hg ha hb
            gi_wp2
            exact ⟨KeepsMid.refl _ _ _, trivial, HN.out, H2.out, H3.out⟩
        · have t2 : ((va : Int) == a) = false := by rw [beq_eq_false_iff_ne]; exact ha
          have HN := Lib.hid (NO.out fun h => ha ((hIs.out g a b).1 h).2.1)
          clear hg ha
          gi_wp2
          exact ⟨KeepsMid.refl _ _ _, trivial, HN.out, H2.out, H3.out⟩
      · have t1 : ((vg : Int) == g) = false := by rw [beq_eq_false_iff_ne]; exact hg
        have HN := Lib.hid (NO.out fun h => hg ((hIs.out g a b).1 h).1)
        clear hg
        gi_wp2
        exact ⟨KeepsMid.refl _ _ _, trivial, HN.out, H2.out, H3.out⟩
    case hdone =>
      rintro D W' rfl ⟨h1, h2, h3⟩ hD
      have HN := Lib.hid (HNone.out h1)
      have H2 := Lib.hid h2
      have hz := h2.size
      obtain ⟨c3, f3⟩ := h2.q3.cell
      obtain ⟨c4, f4⟩ := h2.q4.cell
      obtain ⟨c5, f5⟩ := h2.q5.cell
      clear h1 h2 h3 hb3 hf3 hmb
      gi_wp2
      refine leaves_one (D := w3.heap.size) ?_ (fun W3 hb => ?_)
      · rw [heap_setCell_other _ _ _ _ (by simp; omega), heap_setCell_other _ _ _ _ (by simp; omega), heap_setCell_other _ _ _ _ (by simp; omega)]
        exact hD
      · have hI := H2.out.tell 0 0 3
        have hzI := hI.size
        have hI2 := hI.at (B := W3) (fun k _ _ => hb.block _ (by omega) (by omega)) (hb.below (by omega) (fun k hk e => by omega))
        obtain ⟨z0, -⟩ := hI2.q3.cell
        obtain ⟨z1, -⟩ := hI2.q4.cell
        obtain ⟨z2, -⟩ := hI2.q5.cell
        exact ⟨.tuple #[.int .i64 0, .int .i64 0, .int .i64 3], by simp [results, Try.f19, go_sem, z0, z1, z2], HN.out, hI2.below⟩
    case hstop =>
      rintro D c' x W' rfl hx ⟨rfl, h2, h3⟩ hD
      have H3 := Lib.hid h3
      have hz := h3.size
      have HE : Hid (PlaE c N w h g a b (.returned (.tuple #[.int .i64 (bP c w h x), .int .i64 (plW w (x % 6 + 1)), .int .i64 0]))) := .inl ⟨x, hx, h2, rfl⟩
      clear h2 h3 hb3 hf3 hmb
      gi_wp2
      refine leaves_one (D := w3.heap.size) hD (fun W3 hb => ?_)
      have hI2 := H3.out.at (B := W3) (fun k _ _ => hb.block _ (by omega) (by omega)) (hb.below (by omega) (fun k hk e => by omega))
      obtain ⟨z0, -⟩ := hI2.q3.cell
      obtain ⟨z1, -⟩ := hI2.q4.cell
      obtain ⟨z2, -⟩ := hI2.q5.cell
      exact ⟨.tuple #[.int .i64 (bP c w h x), .int .i64 (plW w (x % 6 + 1)), .int .i64 0], by simp [results, Try.f19, go_sem, z0, z1, z2], HE.out, hI2.below⟩
  · have HE : Hid (PlaE c N w h g a b (.returned (.tuple #[.int .i64 0, .int .i64 0, .int .i64 13]))) := .inr (.inr (.inl ⟨hk, ha, rfl⟩))
    obtain ⟨c3, f3⟩ := PI.out.q3.cell
    obtain ⟨c4, f4⟩ := PI.out.q4.cell
    obtain ⟨c5, f5⟩ := PI.out.q5.cell
    clear hk ha
    gi_wp2
    have hI2 := PI.out.tell 0 0 13
    obtain ⟨z0, -⟩ := hI2.q3.cell
    obtain ⟨z1, -⟩ := hI2.q4.cell
    obtain ⟨z2, -⟩ := hI2.q5.cell
    exact leaves_none ⟨.tuple #[.int .i64 0, .int .i64 0, .int .i64 13], by simp [results, Try.f19, go_sem, z0, z1, z2], HE.out, hI2.below⟩
  · have HE : Hid (PlaE c N w h g a b (.returned (.tuple #[.int .i64 0, .int .i64 0, .int .i64 8]))) := .inr (.inr (.inr ⟨hno, rfl⟩))
    obtain ⟨c3, f3⟩ := PI.out.q3.cell
    obtain ⟨c4, f4⟩ := PI.out.q4.cell
    obtain ⟨c5, f5⟩ := PI.out.q5.cell
    clear hno
    gi_wp2
    have hI2 := PI.out.tell 0 0 8
    obtain ⟨z0, -⟩ := hI2.q3.cell
    obtain ⟨z1, -⟩ := hI2.q4.cell
    obtain ⟨z2, -⟩ := hI2.q5.cell
    exact leaves_none ⟨.tuple #[.int .i64 0, .int .i64 0, .int .i64 8], by simp [results, Try.f19, go_sem, z0, z1, z2], HE.out, hI2.below⟩

end Go.Proofs.Ytidllgcdbohocaa
