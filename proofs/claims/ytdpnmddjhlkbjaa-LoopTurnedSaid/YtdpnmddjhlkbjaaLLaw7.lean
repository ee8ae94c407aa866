/- loop: the walk of LoopTurned (praxinoscopelaw15). -/
import Derived.Test.YtdpnmddjhlkbjaaLLaw4
import Derived.BigQuiet
namespace Go.Proofs.Ytdpnmddjhlkbjaa
open Go.RowKit Go.Shelf Go.Sort
set_option linter.unusedVariables false

theorem sof_mirror (g : Nat → Int) {i : Nat} (hi : i < 8) : sof (fun u => g (7 - u)) i = sof g (7 - i) := by
  unfold sof
  have hc : i = 0 ∨ i = 1 ∨ i = 2 ∨ i = 3 ∨ i = 4 ∨ i = 5 ∨ i = 6 ∨ i = 7 := by omega
  rcases hc with rfl | rfl | rfl | rfl | rfl | rfl | rfl | rfl
  all_goals
    simp
    try omega
theorem sof_light (g : Nat → Int) (c : Int) (i : Nat) : sof (fun u => g u + c) i = sof g i + 4 * c := by
  unfold sof
  dsimp only
  split
  · omega
  · split <;> omega
theorem sf2_congr {b c : Nat → Int} (h : ∀ k, k < 64 → b k = c k) {k : Nat} (hk : k < 64) : sf2 b k = sf2 c k :=
  sof_congr (by omega) (fun v hv => sof_congr (by omega) (fun u hu => h _ (by omega)))
theorem sf2_turned {b c : Nat → Int} (h : ∀ v u, v < 8 → u < 8 → c (8 * v + u) = b (8 * u + v)) {k : Nat} (hk : k < 64) : sf2 c k = sf2 b (k % 8 * 8 + k / 8) := by
  unfold sf2
  rw [show (k % 8 * 8 + k / 8) % 8 = k / 8 by omega, show (k % 8 * 8 + k / 8) / 8 = k % 8 by omega]
  rw [← sof_swap (fun v u => c (8 * v + u)) (k % 8) (k / 8)]
  exact sof_congr (by omega) (fun u hu => sof_congr (by omega) (fun v hv => h v u hv hu))
theorem sf2_mirrored {b c : Nat → Int} (h : ∀ v u, v < 8 → u < 8 → c (8 * v + u) = b (8 * v + (7 - u))) {k : Nat} (hk : k < 64) : sf2 c k = sf2 b (k / 8 * 8 + 7 - k % 8) := by
  unfold sf2
  rw [show (k / 8 * 8 + 7 - k % 8) % 8 = 7 - k % 8 by omega, show (k / 8 * 8 + 7 - k % 8) / 8 = k / 8 by omega]
  refine sof_congr (by omega) (fun v hv => ?_)
  rw [← sof_mirror (fun u => b (8 * v + u)) (show k % 8 < 8 by omega)]
  exact sof_congr (by omega) (fun u hu => h v u hv hu)
theorem sf2_lighter {b c : Nat → Int} {m : Int} (h : ∀ k, k < 64 → c k = b k + m) {k : Nat} (hk : k < 64) : sf2 c k = sf2 b k + 16 * m := by
  rw [sf2_congr h hk]
  unfold sf2
  have e : ∀ v, sof (fun u => b (8 * v + u) + m) (k % 8) = sof (fun u => b (8 * v + u)) (k % 8) + 4 * m := fun v => sof_light (fun u => b (8 * v + u)) m (k % 8)
  rw [sof_congr (show k / 8 < 8 by omega) (fun v _ => e v), sof_light (fun v => sof (fun u => b (8 * v + u)) (k % 8)) (4 * m)]
  omega

/-- bytes halved, so many of them -/
def hfB (B : List UInt8) (k : Nat) : List UInt8 := (List.range 64).map fun j => if j < k then (B[j]?.getD 0) / 2 else B[j]?.getD 0
theorem hfB_length (B : List UInt8) (k : Nat) : (hfB B k).length = 64 := by simp [hfB]
theorem hfB_get (B : List UInt8) (k : Nat) {j : Nat} (hj : j < 64) : (hfB B k)[j]? = some (if j < k then (B[j]?.getD 0) / 2 else B[j]?.getD 0) := by simp [hfB, hj]
theorem hfB_zero {B : List UInt8} (h : B.length = 64) : hfB B 0 = B := listB_ext (hfB_length _ _) h (fun j hj => by
  rw [hfB_get _ _ hj, if_neg (by omega), List.getElem?_eq_getElem (by omega)]
  rfl)
theorem hfB_step (B : List UInt8) {k : Nat} (hk : k < 64) : (hfB B k).set k ((B[k]?.getD 0) / 2) = hfB B (k + 1) := listB_ext (n := 64) (by simp [hfB]) (hfB_length _ _) (fun j hj => by
  rw [hfB_get _ _ hj, List.getElem?_set]
  by_cases h : k = j
  · rw [if_pos h, if_pos (by rw [hfB_length]; omega), if_pos (by omega), h]
  · rw [if_neg h, hfB_get _ _ hj]
    by_cases h2 : j < k
    · rw [if_pos h2, if_pos (by omega)]
    · rw [if_neg h2, if_neg (by omega)])
theorem hfB_at (B : List UInt8) {k : Nat} (hk : k < 64) : (hfB B k)[k]?.getD 0 = B[k]?.getD 0 := by rw [hfB_get _ _ hk, if_neg (by omega)]; rfl
theorem hfB_in (B : List UInt8) {k : Nat} (hk : k < 64) : bN (hfB B 64) k ≤ 127 := by
  unfold bN
  rw [hfB_get _ _ hk, if_pos hk]
  have := (B[k]?.getD 0).toNat_lt
  simp
  omega

/-- the three others, of a block H -/
def tuF (H : List UInt8) (k : Nat) : UInt8 := H[k % 8 * 8 + k / 8]?.getD 0
def miF (H : List UInt8) (k : Nat) : UInt8 := H[k / 8 * 8 + 7 - k % 8]?.getD 0
def liF (H : List UInt8) (m : Int) (k : Nat) : UInt8 := UInt8.ofNat (bN H k + m).toNat
theorem bN_up (F : Nat → UInt8) {k : Nat} (hk : k < 64) : bN (upU F 64) k = ((F k).toNat : Int) := by unfold bN; rw [upU_get _ _ hk, if_pos hk]; rfl
theorem liF_val {H : List UInt8} {m : Int} (hm : 0 ≤ m ∧ m < 128) {k : Nat} (h : bN H k ≤ 127) : ((liF H m k).toNat : Int) = bN H k + m := by
  have h0 := bN_in H k
  unfold liF
  rw [UInt8.toNat_ofNat_of_lt' (by show _ < 256; omega)]
  omega
theorem fb_val {zs : List UInt8} (h : zs.length = 64) {k : Nat} (hk : k < 64) : (((fbL zs)[k]?.getD 0).toNat : Int) = (sf2 (bN zs) k + 8) / 16 := fbL_get h hk
theorem fb_turned {H : List UInt8} (h : H.length = 64) {k : Nat} (hk : k < 64) : (fbL (upU (tuF H) 64))[k]?.getD 0 = (fbL H)[k % 8 * 8 + k / 8]?.getD 0 := by
  have h1 := fb_val (upU_length (tuF H) 64) hk
  have h2 := fb_val h (show k % 8 * 8 + k / 8 < 64 by omega)
  rw [sf2_turned (b := bN H) (fun v u hv hu => by
    rw [bN_up _ (by omega)]
    unfold tuF bN
    rw [show (8 * v + u) % 8 * 8 + (8 * v + u) / 8 = 8 * u + v by omega]) hk] at h1
  exact UInt8.toNat_inj.1 (by omega)
theorem fb_mirrored {H : List UInt8} (h : H.length = 64) {k : Nat} (hk : k < 64) : (fbL (upU (miF H) 64))[k]?.getD 0 = (fbL H)[k / 8 * 8 + 7 - k % 8]?.getD 0 := by
  have h1 := fb_val (upU_length (miF H) 64) hk
  have h2 := fb_val h (show k / 8 * 8 + 7 - k % 8 < 64 by omega)
  rw [sf2_mirrored (b := bN H) (fun v u hv hu => by
    rw [bN_up _ (by omega)]
    unfold miF bN
    rw [show (8 * v + u) / 8 * 8 + 7 - (8 * v + u) % 8 = 8 * v + (7 - u) by omega]) hk] at h1
  exact UInt8.toNat_inj.1 (by omega)
theorem fb_lighter {H : List UInt8} (h : H.length = 64) (hH : ∀ k, k < 64 → bN H k ≤ 127) {m : Int} (hm : 0 ≤ m ∧ m < 128) {k : Nat} (hk : k < 64) : (((fbL (upU (liF H m) 64))[k]?.getD 0).toNat : Int) = (((fbL H)[k]?.getD 0).toNat : Int) + m := by
  rw [fb_val (upU_length (liF H m) 64) hk, fb_val h hk, sf2_lighter (b := bN H) (m := m) (fun j hj => by rw [bN_up _ hj, liF_val hm (hH j hj)]) hk]
  omega

abbrev sl7 (g : Nat) : Value := .slice (some ⟨g, 0, none⟩) 64 64
/-- what a row of 64 bytes that was told holds -/
def Told7 (W : World) (b off : Nat) (Z : List UInt8) : Prop := b < W.heap.size ∧ ∀ k, k < 64 → W.cell? ⟨b, off + k, none⟩ = some (.int .u8 ((Z[k]?.getD 0).toNat))
theorem Told7.below {W W' : World} {b off : Nat} {Z : List UInt8} (h : Told7 W b off Z) (hb : Below W.heap.size W W') : Told7 W' b off Z :=
  ⟨Nat.lt_of_lt_of_le h.1 hb.size, fun k hk => (hb.cell (p := ⟨b, off + k, none⟩) h.1).trans (h.2 k hk)⟩
theorem filt7 (I : LoopI) {W : World} {g : Nat} {Z : List UInt8} (h : BytR W g Z) (hZ : Z.length = 64) :
    Calls Try.prog 11 #[sl7 g] W fun e W' => ∃ b off cv, e = .returned (.tuple #[.slice (some ⟨b, off, none⟩) 64 cv, .int .i64 0]) ∧ Told7 W' b off (fbL Z) ∧ Below W.heap.size W W' := by
  have hfl : (fbL Z).length = 64 := by rw [fbL_length, if_pos hZ]
  have := I.filter (h.byt hZ (by omega)) (Nat.le_refl _) ⟨_, _, _, rfl, Nat.le_refl _⟩
  rw [hZ, hfl, show fbE 64 = 0 from rfl] at this
  refine this.mono ?_
  rintro e W' ⟨v, rfl, ho, hb⟩
  obtain ⟨av, cv, rfl⟩ := row_form ho
  have hby : Byt W'.heap.size W' (.slice av 64 cv) (fbL Z) := byt_own (by rw [hfl]; exact ho) (by omega) (Nat.le_refl _)
  obtain ⟨a', c', e, -, hz⟩ := hby
  rw [hfl] at e
  cases e
  rcases hz with e | ⟨b, off, rfl, hbl, hz⟩
  · rw [e] at hfl; cases hfl
  exact ⟨b, off, cv, rfl, ⟨hbl, fun k hk => hz k (by omega)⟩, hb⟩
/-- what LoopTurned's first region has told -/
structure TnC (w : World) (zs : List UInt8) (sv : Value) (L : Nat → Bool) (x6 x7 x8 x9 x28 x29 x30 x31 x32 : Value) (W : World) : Prop where
  below : Below w.heap.size w W
  l0 : L 0 = true → x28 = sv
  l1 : L 1 = true → ∃ g, x29 = sl7 g ∧ w.heap.size ≤ g ∧ BytR W g (madeS zs)
  l2 : L 2 = true → ∃ g, x30 = sl7 g ∧ w.heap.size ≤ g ∧ BytR W g zeroB64
  l3 : L 3 = true → ∃ g, x31 = sl7 g ∧ w.heap.size ≤ g ∧ BytR W g zeroB64
  l4 : L 4 = true → ∃ g, x32 = sl7 g ∧ w.heap.size ≤ g ∧ BytR W g zeroB64
  l5 : L 5 = true → x6 = x29
  l6 : L 6 = true → x7 = x30
  l7 : L 7 = true → x8 = x31
  l8 : L 8 = true → x9 = x32
  d12 : L 1 = true → L 2 = true → x29 ≠ x30
  d13 : L 1 = true → L 3 = true → x29 ≠ x31
  d14 : L 1 = true → L 4 = true → x29 ≠ x32
  d23 : L 2 = true → L 3 = true → x30 ≠ x31
  d24 : L 2 = true → L 4 = true → x30 ≠ x32
  d34 : L 3 = true → L 4 = true → x31 ≠ x32
def TnI (fr : Value → Value → Value → Value → Value → Value → Value → Value → Value → Act) (w : World) (zs : List UInt8) (sv : Value) (L : Nat → Bool) (ac : Act) (W : World) : Prop :=
  ∃ x6 x7 x8 x9 x28 x29 x30 x31 x32, ac = fr x6 x7 x8 x9 x28 x29 x30 x31 x32 ∧ TnC w zs sv L x6 x7 x8 x9 x28 x29 x30 x31 x32 W
theorem sl7_ne {g h : Nat} (hn : g ≠ h) : sl7 g ≠ sl7 h := by
  intro e
  injection e with e1
  injection e1 with e2
  injection e2 with e3
  exact hn e3
theorem sl7_old {W : World} {v : Value} {n : Nat} {Z : List UInt8} (hv : ∃ g, v = sl7 g ∧ n ≤ g ∧ BytR W g Z) : v ≠ sl7 W.heap.size := by
  obtain ⟨g, rfl, _, hN⟩ := hv
  have := hN.lt
  exact sl7_ne (by omega)
theorem sl7_keep {W W' : World} {v : Value} {n : Nat} {Z : List UInt8} (hb : Below W.heap.size W W') (hv : ∃ g, v = sl7 g ∧ n ≤ g ∧ BytR W g Z) : ∃ g, v = sl7 g ∧ n ≤ g ∧ BytR W' g Z := by
  obtain ⟨g, e, h1, h2⟩ := hv
  exact ⟨g, e, h1, h2.below hb h2.lt⟩

set_option maxRecDepth 100000 in
set_option maxHeartbeats 4000000 in
theorem turned15_walk (I : LoopI) {w : World} {a : Option Addr} {len cap : Nat} {zs : List UInt8} (hR : Row8 w.heap.size w a len cap zs) (more : Int) :
    Calls Try.prog 7 #[.slice a len cap, .int .i64 more] w fun e w' => e = .returned (.bool true) ∧ Below w.heap.size w w' := by
  have HK := Lib.hid (fun W => known15_any I W)
  have hl := hR.1
  subst hl
  by_cases hl1 : 64 < zs.length
  · have q1 : (64 : Int) < (zs.length : Int) := by omega
    clear hR
    go_enter Try.func7, Try.ntmps7
    go_wp2_with (go_at_call 4; refine (HK.out _).mono ?_; rintro e w' ⟨rfl, hb⟩)
    go_ret
    exact ⟨rfl, hb⟩
  · have q1 : decide ((64 : Int) < (zs.length : Int)) = false := by simp; omega
    have HB : Hid (∀ w', Below w.heap.size w w' → Byt w.heap.size w' (.slice a zs.length cap) zs) := fun w' hb => by
      have h := hR.byt (Nat.le_refl _) (k := zs.length) (Nat.le_refl _) (by omega)
      rw [List.take_length] at h
      exact h.below hb
    have HMd := Lib.hid (fun w' (hb : Below w.heap.size w w') => made15_any (HB.out w' hb) hb.size (by omega))
    have hBl : (madeS zs).length = 64 := madeS_length (by omega)
    have HPk := Lib.hid (fun W => pick_any more 128 W (by omega) (by omega))
    clear hR
    go_enter Try.func7, Try.ntmps7
    go_wp2_with fail
    refine (HK.out _).mono ?_
    rintro e w1 ⟨rfl, b1⟩
    have B1 := Lib.hid b1
    have hs1 := b1.size
    clear b1
    go_wp2_with fail
    refine (HPk.out _).mono ?_
    rintro e w' ⟨rfl, rfl⟩
    have hm0 : 0 ≤ more % 128 := by omega
    have hm1 : more % 128 < 128 := by omega
    generalize more % 128 = m at *
    go_wp2_with fail
    refine wp_region_inv (by kernel_rfl) (by kernel_rfl) (by kernel_rfl) (TnI (fun x6 x7 x8 x9 x28 x29 x30 x31 x32 => { tmps := #[.slice a zs.length cap, .int .i64 m, undef, undef, .bool false, .bool true, x6, x7, x8, x9, undef, undef, undef, undef, undef, undef, undef, undef, undef, undef, undef, .bool true, .slice a zs.length cap, .int .i64 (zs.length : Int), .bool false, undef, .int .i64 more, .int .i64 m, x28, x29, x30, x31, x32, undef, undef, undef, undef, undef, undef, undef, undef, undef, undef, undef, undef, undef, undef, undef, undef, undef, undef, undef, undef, undef, undef, undef, undef, undef, undef, undef, undef, undef, undef, undef, undef, undef, undef, undef, undef, undef, undef, undef, undef, undef, undef, undef, undef, undef, undef, undef, undef, undef, undef, undef, undef, undef, undef, undef, undef, undef, undef, undef, undef, undef, undef, undef, undef, undef, undef, undef, undef, undef, undef, undef, undef, undef, undef, undef, undef, undef, undef, undef, undef, undef, undef, undef, undef, undef, undef, undef, undef, undef, undef, undef, undef, undef, undef, undef, undef, undef, undef, undef, undef, undef, undef, undef, undef, undef, undef, undef, undef, undef, undef, undef, undef, undef, undef, undef, undef, undef, undef, undef, undef, undef, undef, undef, undef, undef, undef, undef, undef, undef, undef, undef, undef, undef, undef, undef, undef, undef, undef, undef, undef, undef, undef, undef, undef, undef, undef, undef, undef, undef, undef, undef, undef, undef, undef, undef, undef], defers := [] }) w1 zs (.slice a zs.length cap)) ?h0 ?st ?hd
    case h0 =>
      intro L hL
      have e : ∀ i, ¬ L i = true := fun i h => by rw [hL i] at h; cases h
      exact ⟨undef, undef, undef, undef, undef, undef, undef, undef, undef, rfl, ⟨(Below.refl _ _).drew, fun h => (e _ h).elim, fun h => (e _ h).elim, fun h => (e _ h).elim, fun h => (e _ h).elim, fun h => (e _ h).elim, fun h => (e _ h).elim, fun h => (e _ h).elim, fun h => (e _ h).elim, fun h => (e _ h).elim, fun h _ => (e _ h).elim, fun h _ => (e _ h).elim, fun h _ => (e _ h).elim, fun h _ => (e _ h).elim, fun h _ => (e _ h).elim, fun h _ => (e _ h).elim⟩⟩
    case st =>
      refine ⟨?o0, ?o1, ?o2, ?o3, ?o4, ?o5, ?o6, ?o7, ?o8, trivial⟩
      case o0 =>
        rintro L ac Wr hL hbe hcl ⟨x6, x7, x8, x9, x28, x29, x30, x31, x32, rfl, hC⟩
        have HC := Lib.hid hC
        clear hC hcl hbe
        go_simp
        exact ⟨x6, x7, x8, x9, _, x29, x30, x31, x32, rfl, ⟨HC.out.below, fun _ => rfl, HC.out.l1, HC.out.l2, HC.out.l3, HC.out.l4, HC.out.l5, HC.out.l6, HC.out.l7, HC.out.l8, HC.out.d12, HC.out.d13, HC.out.d14, HC.out.d23, HC.out.d24, HC.out.d34⟩⟩
      case o1 =>
        rintro L ac Wr hL hbe hcl ⟨x6, x7, x8, x9, x28, x29, x30, x31, x32, rfl, hC⟩
        have hA : L 5 = false := by rw [Bool.eq_false_iff]; intro h; have := hcl 5 _ rfl h { on := 1, ground := .data } (by simp) rfl; rw [hL] at this; cases this
        obtain rfl := hC.l0 (hbe { on := 0, ground := .data } (by simp) rfl)
        have HC := Lib.hid hC
        clear hC hcl hbe
        go_simp
        refine ⟨trivial, rfl, (callsIn_wide.2 (HMd.out Wr (below_chain B1.out (Nat.le_refl _) HC.out.below))).mono ?_⟩
        rintro e W6 ⟨rfl, hn, hbw⟩
        have hz := HC.out.below.size
        exact ⟨x6, x7, x8, x9, _, _, x30, x31, x32, rfl, ⟨HC.out.below.trans (hbw.mono hz), HC.out.l0, fun _ => ⟨_, rfl, hz, hn⟩, fun h => sl7_keep hbw (HC.out.l2 h), fun h => sl7_keep hbw (HC.out.l3 h), fun h => sl7_keep hbw (HC.out.l4 h), fun h => by (rw [show setB L 1 5 = L 5 from rfl, hA] at h; cases h), HC.out.l6, HC.out.l7, HC.out.l8, fun _ h e => sl7_old (HC.out.l2 h) e.symm, fun _ h e => sl7_old (HC.out.l3 h) e.symm, fun _ h e => sl7_old (HC.out.l4 h) e.symm, HC.out.d23, HC.out.d24, HC.out.d34⟩⟩
      case o2 =>
        rintro L ac Wr hL hbe hcl ⟨x6, x7, x8, x9, x28, x29, x30, x31, x32, rfl, hC⟩
        have hA : L 6 = false := by rw [Bool.eq_false_iff]; intro h; have := hcl 6 _ rfl h { on := 2, ground := .data } (by simp) rfl; rw [hL] at this; cases this
        have hmk := made64b Wr
        have HC := Lib.hid hC
        clear hC hcl hbe
        go_simp
        have hz := HC.out.below.size
        have hbw : Below Wr.heap.size Wr (Wr.alloc (.cells (u8s zeroB64).toArray 5 (0, 0))) := (Below.refl _ _).alloc (Nat.le_refl _) _
        have hn := bytR_new Wr zeroB64
        exact ⟨x6, x7, x8, x9, x28, x29, _, x31, x32, rfl, ⟨HC.out.below.trans (hbw.mono hz), HC.out.l0, fun h => sl7_keep hbw (HC.out.l1 h), fun _ => ⟨_, rfl, hz, hn⟩, fun h => sl7_keep hbw (HC.out.l3 h), fun h => sl7_keep hbw (HC.out.l4 h), HC.out.l5, fun h => by (rw [show setB L 2 6 = L 6 from rfl, hA] at h; cases h), HC.out.l7, HC.out.l8, fun h _ => sl7_old (HC.out.l1 h), HC.out.d13, HC.out.d14, fun _ h e => sl7_old (HC.out.l3 h) e.symm, fun _ h e => sl7_old (HC.out.l4 h) e.symm, HC.out.d34⟩⟩
      case o3 =>
        rintro L ac Wr hL hbe hcl ⟨x6, x7, x8, x9, x28, x29, x30, x31, x32, rfl, hC⟩
        have hA : L 7 = false := by rw [Bool.eq_false_iff]; intro h; have := hcl 7 _ rfl h { on := 3, ground := .data } (by simp) rfl; rw [hL] at this; cases this
        have hmk := made64b Wr
        have HC := Lib.hid hC
        clear hC hcl hbe
        go_simp
        have hz := HC.out.below.size
        have hbw : Below Wr.heap.size Wr (Wr.alloc (.cells (u8s zeroB64).toArray 5 (0, 0))) := (Below.refl _ _).alloc (Nat.le_refl _) _
        have hn := bytR_new Wr zeroB64
        exact ⟨x6, x7, x8, x9, x28, x29, x30, _, x32, rfl, ⟨HC.out.below.trans (hbw.mono hz), HC.out.l0, fun h => sl7_keep hbw (HC.out.l1 h), fun h => sl7_keep hbw (HC.out.l2 h), fun _ => ⟨_, rfl, hz, hn⟩, fun h => sl7_keep hbw (HC.out.l4 h), HC.out.l5, HC.out.l6, fun h => by (rw [show setB L 3 7 = L 7 from rfl, hA] at h; cases h), HC.out.l8, HC.out.d12, fun h _ => sl7_old (HC.out.l1 h), HC.out.d14, fun h _ => sl7_old (HC.out.l2 h), HC.out.d24, fun _ h e => sl7_old (HC.out.l4 h) e.symm⟩⟩
      case o4 =>
        rintro L ac Wr hL hbe hcl ⟨x6, x7, x8, x9, x28, x29, x30, x31, x32, rfl, hC⟩
        have hA : L 8 = false := by rw [Bool.eq_false_iff]; intro h; have := hcl 8 _ rfl h { on := 4, ground := .data } (by simp) rfl; rw [hL] at this; cases this
        have hmk := made64b Wr
        have HC := Lib.hid hC
        clear hC hcl hbe
        go_simp
        have hz := HC.out.below.size
        have hbw : Below Wr.heap.size Wr (Wr.alloc (.cells (u8s zeroB64).toArray 5 (0, 0))) := (Below.refl _ _).alloc (Nat.le_refl _) _
        have hn := bytR_new Wr zeroB64
        exact ⟨x6, x7, x8, x9, x28, x29, x30, x31, _, rfl, ⟨HC.out.below.trans (hbw.mono hz), HC.out.l0, fun h => sl7_keep hbw (HC.out.l1 h), fun h => sl7_keep hbw (HC.out.l2 h), fun h => sl7_keep hbw (HC.out.l3 h), fun _ => ⟨_, rfl, hz, hn⟩, HC.out.l5, HC.out.l6, HC.out.l7, fun h => by (rw [show setB L 4 8 = L 8 from rfl, hA] at h; cases h), HC.out.d12, HC.out.d13, fun h _ => sl7_old (HC.out.l1 h), HC.out.d23, fun h _ => sl7_old (HC.out.l2 h), fun h _ => sl7_old (HC.out.l3 h)⟩⟩
      case o5 =>
        rintro L ac Wr hL hbe hcl ⟨x6, x7, x8, x9, x28, x29, x30, x31, x32, rfl, hC⟩
        have HC := Lib.hid hC
        clear hC hcl hbe
        go_simp
        exact ⟨_, x7, x8, x9, x28, x29, x30, x31, x32, rfl, ⟨HC.out.below, HC.out.l0, HC.out.l1, HC.out.l2, HC.out.l3, HC.out.l4, fun _ => rfl, HC.out.l6, HC.out.l7, HC.out.l8, HC.out.d12, HC.out.d13, HC.out.d14, HC.out.d23, HC.out.d24, HC.out.d34⟩⟩
      case o6 =>
        rintro L ac Wr hL hbe hcl ⟨x6, x7, x8, x9, x28, x29, x30, x31, x32, rfl, hC⟩
        have HC := Lib.hid hC
        clear hC hcl hbe
        go_simp
        exact ⟨x6, _, x8, x9, x28, x29, x30, x31, x32, rfl, ⟨HC.out.below, HC.out.l0, HC.out.l1, HC.out.l2, HC.out.l3, HC.out.l4, HC.out.l5, fun _ => rfl, HC.out.l7, HC.out.l8, HC.out.d12, HC.out.d13, HC.out.d14, HC.out.d23, HC.out.d24, HC.out.d34⟩⟩
      case o7 =>
        rintro L ac Wr hL hbe hcl ⟨x6, x7, x8, x9, x28, x29, x30, x31, x32, rfl, hC⟩
        have HC := Lib.hid hC
        clear hC hcl hbe
        go_simp
        exact ⟨x6, x7, _, x9, x28, x29, x30, x31, x32, rfl, ⟨HC.out.below, HC.out.l0, HC.out.l1, HC.out.l2, HC.out.l3, HC.out.l4, HC.out.l5, HC.out.l6, fun _ => rfl, HC.out.l8, HC.out.d12, HC.out.d13, HC.out.d14, HC.out.d23, HC.out.d24, HC.out.d34⟩⟩
      case o8 =>
        rintro L ac Wr hL hbe hcl ⟨x6, x7, x8, x9, x28, x29, x30, x31, x32, rfl, hC⟩
        have HC := Lib.hid hC
        clear hC hcl hbe
        go_simp
        exact ⟨x6, x7, x8, _, x28, x29, x30, x31, x32, rfl, ⟨HC.out.below, HC.out.l0, HC.out.l1, HC.out.l2, HC.out.l3, HC.out.l4, HC.out.l5, HC.out.l6, HC.out.l7, fun _ => rfl, HC.out.d12, HC.out.d13, HC.out.d14, HC.out.d23, HC.out.d24, HC.out.d34⟩⟩
    case hd =>
      rintro L ac W2 hL ⟨x6, x7, x8, x9, x28, x29, x30, x31, x32, rfl, hC⟩
      obtain rfl := hC.l0 (hL 0 (by decide))
      obtain ⟨gb, e1, hgb, nb⟩ := hC.l1 (hL 1 (by decide))
      obtain ⟨gt, e2, hgt, nt⟩ := hC.l2 (hL 2 (by decide))
      obtain ⟨gm, e3, hgm, nm⟩ := hC.l3 (hL 3 (by decide))
      obtain ⟨gl, e4, hgl, nl⟩ := hC.l4 (hL 4 (by decide))
      obtain rfl := hC.l5 (hL 5 (by decide))
      obtain rfl := hC.l6 (hL 6 (by decide))
      obtain rfl := hC.l7 (hL 7 (by decide))
      obtain rfl := hC.l8 (hL 8 (by decide))
      have n12 : gb ≠ gt := fun e => hC.d12 (hL 1 (by decide)) (hL 2 (by decide)) (by rw [e1, e2, e])
      have n13 : gb ≠ gm := fun e => hC.d13 (hL 1 (by decide)) (hL 3 (by decide)) (by rw [e1, e3, e])
      have n14 : gb ≠ gl := fun e => hC.d14 (hL 1 (by decide)) (hL 4 (by decide)) (by rw [e1, e4, e])
      have n23 : gt ≠ gm := fun e => hC.d23 (hL 2 (by decide)) (hL 3 (by decide)) (by rw [e2, e3, e])
      have n24 : gt ≠ gl := fun e => hC.d24 (hL 2 (by decide)) (hL 4 (by decide)) (by rw [e2, e4, e])
      have n34 : gm ≠ gl := fun e => hC.d34 (hL 3 (by decide)) (hL 4 (by decide)) (by rw [e3, e4, e])
      subst e1 e2 e3 e4
      have B2 := Lib.hid hC.below
      have hs2 := hC.below.size
      have Nb := Lib.hid nb
      have Nt := Lib.hid nt
      have Nm := Lib.hid nm
      have Nl := Lib.hid nl
      clear hC nb nt nm nl hL
      go_wp2_with fail
      generalize madeS zs = M at *
      go_loopw [10] (fun i wr => ∃ k : Nat, i = .int .i64 (k : Int) ∧ k ≤ 64 ∧ BytR wr gb (hfB M k) ∧ Bar (fun q => q = gb) W2 wr) (fun i _ => 64 - (intOf i).toNat)
      case atStart => exact ⟨0, rfl, by omega, by rw [hfB_zero hBl]; exact Nb.out, Bar.refl _ _⟩
      case round =>
        obtain ⟨k, rfl, hk, hN, hB⟩ := hrel
        have HN := Lib.hid hN
        have HBr := Lib.hid hB
        clear hN hB
        by_cases hk2 : k < 64
        · have i0 : (k : Int) < 64 := by omega
          have c1 := HN.out.cell (k := k) (by rw [hfB_length]; omega)
          rw [hfB_at _ hk2] at c1
          have f1 := HN.out.frozen k
          have HSt := Lib.hid (hfB_step M hk2)
          generalize M[k]?.getD 0 = z at *
          obtain ⟨z2, hz2⟩ : ∃ z2 : UInt8, z2 = z / 2 := ⟨_, rfl⟩
          have hz3 : z2.toNat = z.toNat / 2 := by rw [hz2]; simp
          rw [← hz2] at HSt
          have hz8 := z.toNat_lt
          have e2 : Int.tdiv ((z.toNat : Nat) : Int) 2 = ((z2.toNat : Nat) : Int) := by rw [Int.tdiv_eq_ediv_of_nonneg (by omega)]; omega
          have e3 : IntKind.u8.wrap ((z2.toNat : Nat) : Int) = ((z2.toNat : Nat) : Int) := by rw [IntKind.wrap_u8]; omega
          clear hz2 hz3
          go_wp2_with fail
          go_roundw
          case rel => exact ⟨k + 1, by go_num, by omega, by rw [← HSt.out]; exact HN.out.set _ _, HBr.out.setCell (p := ⟨gb, k, none⟩) (fun _ => rfl) _⟩
          case measure => simp [intOf]; omega
        · obtain rfl : k = 64 := by omega
          rename World => W3
          have HHi := Lib.hid (fun k hk => @hfB_in M k hk)
          have hHl := hfB_length M 64
          generalize hfB M 64 = H at *
          have Nt3 := Lib.hid (Nt.out.bar HBr.out (fun e => n12 e.symm))
          have Nm3 := Lib.hid (Nm.out.bar HBr.out (fun e => n13 e.symm))
          have Nl3 := Lib.hid (Nl.out.bar HBr.out (fun e => n14 e.symm))
          have B3 := Lib.hid (B2.out.trans (HBr.out.below (B := w1.heap.size) (by omega) (fun q hq e => by omega)))
          clear HBr
          go_wp2_with fail
          go_loopw [11] (fun i wr => ∃ k : Nat, i = .int .i64 (k : Int) ∧ k ≤ 64 ∧ BytR wr gb H ∧ BytR wr gt (upU (tuF H) k) ∧ BytR wr gm (upU (miF H) k) ∧ BytR wr gl (upU (liF H m) k) ∧ Below w1.heap.size w1 wr) (fun i _ => 64 - (intOf i).toNat)
          case atStart => exact ⟨0, rfl, by omega, HN.out, by rw [upU_zero]; exact Nt3.out, by rw [upU_zero]; exact Nm3.out, by rw [upU_zero]; exact Nl3.out, B3.out⟩
          case round =>
            obtain ⟨k, rfl, hk, hb, ht, hm, hl, hB⟩ := hrel
            have Hb := Lib.hid hb
            have Ht := Lib.hid ht
            have Hm := Lib.hid hm
            have Hl := Lib.hid hl
            have HBr := Lib.hid hB
            clear hb ht hm hl hB
            by_cases hk2 : k < 64
            · have i0 : (k : Int) < 64 := by omega
              obtain ⟨r, hr⟩ : ∃ r, r = k % 8 := ⟨_, rfl⟩
              obtain ⟨c, hc⟩ : ∃ c, c = k / 8 := ⟨_, rfl⟩
              obtain ⟨p, hp⟩ : ∃ p, p = r * 8 + c := ⟨_, rfl⟩
              obtain ⟨s, hs⟩ : ∃ s, s = c * 8 + 7 - r := ⟨_, rfl⟩
              have hr8 : r < 8 := by omega
              have hc8 : c < 8 := by omega
              have hp64 : p < 64 := by omega
              have hs64 : s < 64 := by omega
              have St := Lib.hid (upU_step (tuF H) hk2)
              have Sm := Lib.hid (upU_step (miF H) hk2)
              have Sl := Lib.hid (upU_step (liF H m) hk2)
              have zt : tuF H k = H[p]?.getD 0 := by unfold tuF; rw [← hr, ← hc, ← hp]
              have zm : miF H k = H[s]?.getD 0 := by unfold miF; rw [← hr, ← hc, ← hs]
              have zl := liF_val (H := H) (m := m) ⟨hm0, hm1⟩ (HHi.out k hk2)
              have zl' : ((liF H m k).toNat : Int) = (((H[k]?.getD 0).toNat : Nat) : Int) + m := zl
              have hki : (((H[k]?.getD 0).toNat : Nat) : Int) ≤ 127 := HHi.out k hk2
              rw [zt] at St
              rw [zm] at Sm
              have cp := Hb.out.cell (k := p) (by omega)
              have cs := Hb.out.cell (k := s) (by omega)
              have ck := Hb.out.cell (k := k) (by omega)
              have ct := Ht.out.cell (k := k) (by rw [upU_length]; omega)
              have ft := Ht.out.frozen k
              have cm := Hm.out.cell (k := k) (by rw [upU_length]; omega)
              have fm := Hm.out.frozen k
              have cl := Hl.out.cell (k := k) (by rw [upU_length]; omega)
              have fl := Hl.out.frozen k
              have e1 : Int.tmod (k : Int) 8 = (r : Int) := by rw [Int.tmod_eq_emod_of_nonneg (by omega)]; omega
              have e2 : Int.tdiv (k : Int) 8 = (c : Int) := by rw [Int.tdiv_eq_ediv_of_nonneg (by omega)]; omega
              have e3 : (r : Int) * 8 + (c : Int) = (p : Int) := by omega
              have e4 : (c : Int) * 8 + 7 - (r : Int) = (s : Int) := by omega
              have i1 : (p : Int) < 64 := by omega
              have i2 : (s : Int) < 64 := by omega
              have i3 : (r : Int) < 8 := by omega
              have i4 : (c : Int) < 8 := by omega
              clear zt zm zl hr hc hp hs
              generalize H[p]?.getD 0 = zt at *
              generalize H[s]?.getD 0 = zm at *
              generalize H[k]?.getD 0 = zk at *
              generalize liF H m k = zq at *
              have e5 : IntKind.u8.wrap m = m := by rw [IntKind.wrap_u8]; omega
              have e6 : IntKind.u8.wrap (((zk.toNat : Nat) : Int) + m) = ((zq.toNat : Nat) : Int) := by rw [IntKind.wrap_u8]; omega
              clear zl' hki
              go_wp2_with fail
              refine ⟨⟨k + 1, by go_num, by omega, ((Hb.out.other n12 _).other n13 _).other n14 _, ?_, ?_, ?_, ?_⟩, by simp [intOf]; omega⟩
              · rw [← St.out]; exact ((Ht.out.set k zt).other n23 _).other n24 _
              · rw [← Sm.out]; exact ((Hm.out.other (p := ⟨gt, k, none⟩) (fun e => n23 e.symm) _).set k zm).other n34 _
              · rw [← Sl.out]; exact ((Hl.out.other (p := ⟨gt, k, none⟩) (fun e => n24 e.symm) _).other (p := ⟨gm, k, none⟩) (fun e => n34 e.symm) _).set k zq
              · exact ((HBr.out.setCell (p := ⟨gt, k, none⟩) hgt _).setCell (p := ⟨gm, k, none⟩) hgm _).setCell (p := ⟨gl, k, none⟩) hgl _
            · obtain rfl : k = 64 := by omega
              go_wp2_with fail
              have F1 := Lib.hid (fun k hk => @fb_turned H hHl k hk)
              have F2 := Lib.hid (fun k hk => @fb_mirrored H hHl k hk)
              have F3 := Lib.hid (fun k hk => @fb_lighter H hHl HHi.out m ⟨hm0, hm1⟩ k hk)
              have U1 := upU_length (tuF H) 64
              have U2 := upU_length (miF H) 64
              have U3 := upU_length (liF H m) 64
              generalize upU (tuF H) 64 = T1 at *
              generalize upU (miF H) 64 = T2 at *
              generalize upU (liF H m) 64 = T3 at *
              have hbl := Hb.out.lt
              have htl := Ht.out.lt
              have hml := Hm.out.lt
              have hll := Hl.out.lt
              refine (filt7 I Hb.out hHl).mono ?_
              rintro e w4 ⟨g0, o0, c0, rfl, t0, b4⟩
              have B4 := Lib.hid (below_chain HBr.out (Nat.le_refl _) b4)
              have R0 := Lib.hid t0
              have Ht := Lib.hid (Ht.out.below b4 (by omega))
              have Hm := Lib.hid (Hm.out.below b4 (by omega))
              have Hl := Lib.hid (Hl.out.below b4 (by omega))
              have hs4 := b4.size
              clear b4 t0 Hb
              go_wp2_with fail
              refine (filt7 I Ht.out U1).mono ?_
              rintro e w5 ⟨g1, o1, c1, rfl, t1, b5⟩
              have B5 := Lib.hid (below_chain B4.out (Nat.le_refl _) b5)
              have R0 := Lib.hid (R0.out.below b5)
              have R1 := Lib.hid t1
              have Hm := Lib.hid (Hm.out.below b5 (by omega))
              have Hl := Lib.hid (Hl.out.below b5 (by omega))
              have hs5 := b5.size
              clear b5 t1 Ht
              go_wp2_with fail
              refine (filt7 I Hm.out U2).mono ?_
              rintro e w6 ⟨g2, o2, c2, rfl, t2, b6⟩
              have B6 := Lib.hid (below_chain B5.out (Nat.le_refl _) b6)
              have R0 := Lib.hid (R0.out.below b6)
              have R1 := Lib.hid (R1.out.below b6)
              have R2 := Lib.hid t2
              have Hl := Lib.hid (Hl.out.below b6 (by omega))
              have hs6 := b6.size
              clear b6 t2 Hm
              go_wp2_with fail
              refine (filt7 I Hl.out U3).mono ?_
              rintro e w7 ⟨g3, o3, c3, rfl, t3, b7⟩
              have B7 := Lib.hid (below_chain B6.out (Nat.le_refl _) b7)
              have R0 := Lib.hid (R0.out.below b7)
              have R1 := Lib.hid (R1.out.below b7)
              have R2 := Lib.hid (R2.out.below b7)
              have R3 := Lib.hid t3
              have hs7 := b7.size
              clear b7 t3 Hl
              generalize fbL H = Z0 at *
              generalize fbL T1 = Z1 at *
              generalize fbL T2 = Z2 at *
              generalize fbL T3 = Z3 at *
              go_wp2_with fail
              go_loopw [20] (fun i wr => ∃ k : Nat, i = .int .i64 (k : Int) ∧ k ≤ 64 ∧ Below w7.heap.size w7 wr) (fun i _ => 64 - (intOf i).toNat)
              case atStart => exact ⟨0, rfl, by omega, Below.refl _ _⟩
              case round =>
                obtain ⟨k, rfl, hk, hb⟩ := hrel
                have HBw := Lib.hid hb
                clear hb
                by_cases hk2 : k < 64
                · have i0 : (k : Int) < 64 := by omega
                  obtain ⟨r, hr⟩ : ∃ r, r = k % 8 := ⟨_, rfl⟩
                  obtain ⟨c, hc⟩ : ∃ c, c = k / 8 := ⟨_, rfl⟩
                  obtain ⟨p, hp⟩ : ∃ p, p = r * 8 + c := ⟨_, rfl⟩
                  obtain ⟨s, hs⟩ : ∃ s, s = c * 8 + 7 - r := ⟨_, rfl⟩
                  have hr8 : r < 8 := by omega
                  have hc8 : c < 8 := by omega
                  have hp64 : p < 64 := by omega
                  have hs64 : s < 64 := by omega
                  have x1 := (R1.out.below HBw.out).2 k hk2
                  have x2 := (R2.out.below HBw.out).2 k hk2
                  have x3 := (R3.out.below HBw.out).2 k hk2
                  have y1 := (R0.out.below HBw.out).2 p hp64
                  have y2 := (R0.out.below HBw.out).2 s hs64
                  have y3 := (R0.out.below HBw.out).2 k hk2
                  have f1 := F1.out k hk2
                  have f2 := F2.out k hk2
                  have f3 := F3.out k hk2
                  rw [← hr, ← hc, ← hp] at f1
                  rw [← hr, ← hc, ← hs] at f2
                  rw [f1] at x1
                  rw [f2] at x2
                  have hz3 := (Z3[k]?.getD 0).toNat_lt
                  have e1 : Int.tmod (k : Int) 8 = (r : Int) := by rw [Int.tmod_eq_emod_of_nonneg (by omega)]; omega
                  have e2 : Int.tdiv (k : Int) 8 = (c : Int) := by rw [Int.tdiv_eq_ediv_of_nonneg (by omega)]; omega
                  have e3 : (r : Int) * 8 + (c : Int) = (p : Int) := by omega
                  have e4 : (c : Int) * 8 + 7 - (r : Int) = (s : Int) := by omega
                  have i1 : (p : Int) < 64 := by omega
                  have i2 : (s : Int) < 64 := by omega
                  have i3 : (r : Int) < 8 := by omega
                  have i4 : (c : Int) < 8 := by omega
                  clear hr hc hp hs f1 f2
                  generalize Z0[p]?.getD 0 = z0 at *
                  generalize Z0[s]?.getD 0 = z1 at *
                  generalize Z0[k]?.getD 0 = z2 at *
                  generalize Z3[k]?.getD 0 = z3 at *
                  have e5 : IntKind.i64.wrap ((z2.toNat : Nat) : Int) = ((z2.toNat : Nat) : Int) := by rw [IntKind.wrap_i64]; omega
                  have e6 : IntKind.i64.wrap ((z3.toNat : Nat) : Int) = ((z3.toNat : Nat) : Int) := by rw [IntKind.wrap_i64]; omega
                  have e7 : ((z2.toNat : Nat) : Int) + m = ((z3.toNat : Nat) : Int) := f3.symm
                  have i5 : ((z3.toNat : Nat) : Int) < 256 := by omega
                  clear f3
                  go_wp2_with fail
                  go_quiet (fail)
                  go_wp2_with fail
                  exact ⟨⟨k + 1, by go_num, by omega, HBw.out.trans (below_drewN _ _ _)⟩, by simp [intOf]; omega⟩
                · obtain rfl : k = 64 := by omega
                  go_wp2_with fail
                  go_ret
                  exact ⟨rfl, below_chain B1.out (Nat.le_refl _) (below_chain B7.out (Nat.le_refl _) HBw.out)⟩

end Go.Proofs.Ytdpnmddjhlkbjaa
