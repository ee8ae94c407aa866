/- loop: the walk of LoopTwice (praxinoscopelaw15). -/
import Derived.Test.YtdpnmddjhlkbjaaLLaw4
import Derived.BigQuiet
namespace Go.Proofs.Ytdpnmddjhlkbjaa
open Go.RowKit Go.Shelf Go.Sort
set_option linter.unusedVariables false

theorem lnL_of {d : Bool} {b : Nat → Int} {j : Nat} (hj : j < 64) : lnL d (nthC (ofC 64 b)) j = lnL d b j :=
  sof_congr (ix_lt d hj) (fun t ht => ofC_get (pl_lt d (co_lt d hj) ht))
theorem sf2_of {b : Nat → Int} {k : Nat} (hk : k < 64) : sf2 (nthC (ofC 64 b)) k = sf2 b k :=
  sof_congr (by omega) (fun v hv => sof_congr (by omega) (fun u hu => ofC_get (by omega)))
/-- numbers, so many of them told -/
def upG (F : Nat → Int) (k : Nat) : List Int := ofC 64 fun j => if j < k then F j else 0
theorem upG_length (F : Nat → Int) (k : Nat) : (upG F k).length = 64 := ofC_length _ _
theorem upG_zero (F : Nat → Int) : upG F 0 = zeros64 := listC_ext (upG_length _ _) rfl (fun j hj => by unfold upG; rw [ofC_get hj, if_neg (by omega)]; unfold nthC zeros64; rw [List.getElem?_replicate, if_pos hj]; rfl)
theorem upG_all (F : Nat → Int) : upG F 64 = ofC 64 F := ofC_congr fun j hj => if_pos hj
theorem upG_step (F : Nat → Int) {k : Nat} (hk : k < 64) : (upG F k).set k (F k) = upG F (k + 1) := by
  unfold upG
  rw [ofC_set hk]
  apply ofC_congr
  intro j hj
  by_cases h : j = k
  · rw [if_pos h, if_pos (by omega), h]
  · rw [if_neg h]
    by_cases h2 : j < k
    · rw [if_pos h2, if_pos (by omega)]
    · rw [if_neg h2, if_neg (by omega)]

abbrev sl64 (g : Nat) : Value := .slice (some ⟨g, 0, none⟩) 64 64
/-- what LoopTwice's first region has told -/
structure TwC (w : World) (zs : List UInt8) (sv : Value) (L : Nat → Bool) (x4 x5 x23 x24 x25 : Value) (W : World) : Prop where
  below : Below w.heap.size w W
  l0 : L 0 = true → x23 = sv
  l1 : L 1 = true → ∃ g, x24 = sl64 g ∧ w.heap.size ≤ g ∧ BytR W g (madeS zs)
  l2 : L 2 = true → ∃ g, x25 = sl64 g ∧ w.heap.size ≤ g ∧ NumsAt W g 3 zeros64
  l3 : L 3 = true → x4 = x24
  l4 : L 4 = true → x5 = x25
def TwI (fr : Value → Value → Value → Value → Value → Act) (w : World) (zs : List UInt8) (sv : Value) (L : Nat → Bool) (ac : Act) (W : World) : Prop :=
  ∃ x4 x5 x23 x24 x25, ac = fr x4 x5 x23 x24 x25 ∧ TwC w zs sv L x4 x5 x23 x24 x25 W

set_option maxRecDepth 100000 in
set_option maxHeartbeats 4000000 in
theorem twice15_walk (I : LoopI) {w : World} {a : Option Addr} {len cap : Nat} {zs : List UInt8} (hR : Row8 w.heap.size w a len cap zs) :
    Calls Try.prog 5 #[.slice a len cap] w fun e w' => e = .returned (.bool true) ∧ Below w.heap.size w w' := by
  have HK := Lib.hid (fun W => known15_any I W)
  have hl := hR.1
  subst hl
  by_cases hl1 : 64 < zs.length
  · have q1 : (64 : Int) < (zs.length : Int) := by omega
    clear hR
    go_enter Try.func5, Try.ntmps5
    go_wp2_with (go_at_call 4; refine (HK.out _).mono ?_; rintro e w' ⟨rfl, hb⟩)
    go_ret
    exact ⟨rfl, hb⟩
  · have q1 : decide ((64 : Int) < (zs.length : Int)) = false := by simp; omega
    have HB : Hid (∀ w', Below w.heap.size w w' → Byt w.heap.size w' (.slice a zs.length cap) zs) := fun w' hb => by
      have h := hR.byt (Nat.le_refl _) (k := zs.length) (Nat.le_refl _) (by omega)
      rw [List.take_length] at h
      exact h.below hb
    have HMd := Lib.hid (fun w' (hb : Below w.heap.size w w') => made15_any (HB.out w' hb) hb.size (by omega))
    have hBl : (madeS zs).length = 64 := madeS_length (by omega)
    clear hR
    go_enter Try.func5, Try.ntmps5
    go_wp2_with fail
    refine (HK.out _).mono ?_
    rintro e w1 ⟨rfl, b1⟩
    have B1 := Lib.hid b1
    have hs1 := b1.size
    clear b1
    go_wp2_with fail
    refine wp_region_inv (by kernel_rfl) (by kernel_rfl) (by kernel_rfl) (TwI (fun x4 x5 x23 x24 x25 => { tmps := #[.slice a zs.length cap, undef, .bool false, .bool true, x4, x5, undef, undef, undef, undef, undef, undef, undef, undef, undef, undef, undef, undef, .bool true, .slice a zs.length cap, .int .i64 (zs.length : Int), .bool false, undef, x23, x24, x25, undef, undef, undef, undef, undef, undef, undef, undef, undef, undef, undef, undef, undef, undef, undef, undef, undef, undef, undef, undef, undef, undef, undef, undef, undef, undef, undef, undef, undef, undef, undef, undef, undef, undef, undef, undef, undef, undef, undef, undef, undef, undef, undef, undef, undef, undef, undef, undef, undef, undef, undef, undef, undef, undef, undef, undef, undef, undef, undef, undef, undef, undef, undef, undef, undef, undef, undef, undef, undef, undef, undef, undef, undef, undef, undef, undef, undef, undef, undef, undef, undef, undef, undef, undef, undef, undef], defers := [] }) w1 zs (.slice a zs.length cap)) ?h0 ?st ?hd
    case h0 =>
      intro L hL
      have e : ∀ i, ¬ L i = true := fun i h => by rw [hL i] at h; cases h
      exact ⟨undef, undef, undef, undef, undef, rfl, ⟨(Below.refl _ _).drew, fun h => (e _ h).elim, fun h => (e _ h).elim, fun h => (e _ h).elim, fun h => (e _ h).elim, fun h => (e _ h).elim⟩⟩
    case st =>
      refine ⟨?o0, ?o1, ?o2, ?o3, ?o4, trivial⟩
      case o0 =>
        rintro L ac Wr hL hbe hcl ⟨x4, x5, x23, x24, x25, rfl, hC⟩
        have HC := Lib.hid hC
        clear hC hcl hbe
        go_simp
        exact ⟨x4, x5, _, x24, x25, rfl, ⟨HC.out.below, fun _ => rfl, HC.out.l1, HC.out.l2, HC.out.l3, HC.out.l4⟩⟩
      case o1 =>
        rintro L ac Wr hL hbe hcl ⟨x4, x5, x23, x24, x25, rfl, hC⟩
        have h3 : L 3 = false := by rw [Bool.eq_false_iff]; intro h; have := hcl 3 _ rfl h { on := 1, ground := .data } (by simp) rfl; rw [hL] at this; cases this
        obtain rfl := hC.l0 (hbe { on := 0, ground := .data } (by simp) rfl)
        have HC := Lib.hid hC
        clear hC hcl hbe
        go_simp
        refine ⟨trivial, rfl, (callsIn_wide.2 (HMd.out Wr (below_chain B1.out (Nat.le_refl _) HC.out.below))).mono ?_⟩
        rintro e W6 ⟨rfl, hn, hbw⟩
        have hz := HC.out.below.size
        exact ⟨x4, x5, _, _, x25, rfl, ⟨HC.out.below.trans (hbw.mono hz), HC.out.l0, fun _ => ⟨_, rfl, hz, hn⟩, fun h => by (obtain ⟨g, e1, e2, e3⟩ := HC.out.l2 h; exact ⟨g, e1, e2, e3.below hbw e3.lt⟩), fun h => by (rw [show setB L 1 3 = L 3 from rfl, h3] at h; cases h), HC.out.l4⟩⟩
      case o2 =>
        rintro L ac Wr hL hbe hcl ⟨x4, x5, x23, x24, x25, rfl, hC⟩
        have h4 : L 4 = false := by rw [Bool.eq_false_iff]; intro h; have := hcl 4 _ rfl h { on := 2, ground := .data } (by simp) rfl; rw [hL] at this; cases this
        have hmk := made64 Wr
        have HC := Lib.hid hC
        clear hC hcl hbe
        go_simp
        have hz := HC.out.below.size
        have hbw := ints64_new Wr 3 zeros64
        exact ⟨x4, x5, x23, x24, _, rfl, ⟨HC.out.below.trans (hbw.mono hz), HC.out.l0, fun h => by (obtain ⟨g, e1, e2, e3⟩ := HC.out.l1 h; exact ⟨g, e1, e2, e3.below hbw e3.lt⟩), fun _ => ⟨_, rfl, hz, numsAt_new Wr 3 zeros64⟩, HC.out.l3, fun h => by (rw [show setB L 2 4 = L 4 from rfl, h4] at h; cases h)⟩⟩
      case o3 =>
        rintro L ac Wr hL hbe hcl ⟨x4, x5, x23, x24, x25, rfl, hC⟩
        have HC := Lib.hid hC
        clear hC hcl hbe
        go_simp
        exact ⟨_, x5, x23, x24, x25, rfl, ⟨HC.out.below, HC.out.l0, HC.out.l1, HC.out.l2, fun _ => rfl, HC.out.l4⟩⟩
      case o4 =>
        rintro L ac Wr hL hbe hcl ⟨x4, x5, x23, x24, x25, rfl, hC⟩
        have HC := Lib.hid hC
        clear hC hcl hbe
        go_simp
        exact ⟨x4, _, x23, x24, x25, rfl, ⟨HC.out.below, HC.out.l0, HC.out.l1, HC.out.l2, HC.out.l3, fun _ => rfl⟩⟩
    case hd =>
      rintro L ac W2 hL ⟨x4, x5, x23, x24, x25, rfl, hC⟩
      obtain rfl := hC.l0 (hL 0 (by decide))
      obtain ⟨gb, e1, hgb, hNb⟩ := hC.l1 (hL 1 (by decide))
      obtain ⟨gn, e2, hgn, hNn⟩ := hC.l2 (hL 2 (by decide))
      obtain rfl := hC.l3 (hL 3 (by decide))
      obtain rfl := hC.l4 (hL 4 (by decide))
      subst e1 e2
      have hne : gb ≠ gn := fun e => by
        subst e
        have h := hNb.symm.trans hNn
        injection h with h
        injection h with _ h
        exact absurd h (by decide)
      have B2 := Lib.hid hC.below
      have hs2 := hC.below.size
      have HNb := Lib.hid hNb
      have HNn := Lib.hid hNn
      clear hC hNb hNn hL
      go_wp2_with fail
      go_loopw [6] (fun i wr => ∃ k : Nat, i = .int .i64 (k : Int) ∧ k ≤ 64 ∧ NumsAt wr gn 3 (upG (bN (madeS zs)) k) ∧ Bar (fun q => q = gn) W2 wr) (fun i _ => 64 - (intOf i).toNat)
      case atStart => exact ⟨0, rfl, by omega, by rw [upG_zero]; exact HNn.out, Bar.refl _ _⟩
      case round =>
        obtain ⟨k, rfl, hk, hN, hB⟩ := hrel
        have HN := Lib.hid hN
        have HBr := Lib.hid hB
        have HNb2 := Lib.hid (HNb.out.bar hB hne)
        clear hN hB
        by_cases hk2 : k < 64
        · have i0 : (k : Int) < 64 := by omega
          have x1 := HNb2.out.cell (k := k) (by omega)
          have c1 := HN.out.cell (k := k) (by rw [upG_length]; omega)
          have f1 := HN.out.frozen k
          have HSt := Lib.hid (show (upG (bN (madeS zs)) k).set k (((((madeS zs)[k]?.getD 0).toNat : Nat) : Int)) = upG (bN (madeS zs)) (k + 1) from upG_step (bN (madeS zs)) hk2)
          generalize (madeS zs)[k]?.getD 0 = z at *
          have hz8 := z.toNat_lt
          have hz9 : ((z.toNat : Nat) : Int) < 256 := by omega
          have hz7 : (0 : Int) ≤ ((z.toNat : Nat) : Int) := by omega
          go_wp2_with fail
          go_roundw
          case rel => exact ⟨k + 1, by go_num, by omega, by rw [← HSt.out]; exact HN.out.set _ _, HBr.out.setCell (p := ⟨gn, k, none⟩) (fun _ => rfl) _⟩
          case measure => simp [intOf]; omega
        · obtain rfl : k = 64 := by omega
          rw [upG_all] at HN
          have B3 := Lib.hid (B2.out.trans (HBr.out.below (B := w1.heap.size) (by omega) (fun q hq e => by omega)))
          have hs3 := B3.out.size
          have hN3 := HN.out.lt
          have HF := Lib.hid (I.filter (HNb2.out.byt hBl (by omega)) (Nat.le_refl _) ⟨_, _, _, rfl, Nat.le_refl _⟩)
          have hfl : (fbL (madeS zs)).length = 64 := by rw [fbL_length, if_pos hBl]
          rw [hBl, hfl, show fbE 64 = 0 from rfl] at HF
          have HZ : Hid (∀ k, k < 64 → (((fbL (madeS zs))[k]?.getD 0).toNat : Int) = (sf2 (bN (madeS zs)) k + 8) / 16) := fun k hk => fbL_get hBl hk
          have HQ : Hid (∀ k, k < 64 → 0 ≤ sf2 (bN (madeS zs)) k ∧ sf2 (bN (madeS zs)) k ≤ 4080) := fun k hk => sf2_in (bN_in _) hk
          have hin0 : ∀ j, 0 ≤ nthC (ofC 64 (bN (madeS zs))) j ∧ nthC (ofC 64 (bN (madeS zs))) j ≤ 255 := fun j => by
            by_cases hj : j < 64
            · rw [ofC_get hj]; exact bN_in _ _
            · rw [ofC_out (by omega)]; omega
          have hin1 : ∀ (d : Bool) j, 0 ≤ nthC (ofC 64 (lnL d (nthC (ofC 64 (bN (madeS zs)))))) j ∧ nthC (ofC 64 (lnL d (nthC (ofC 64 (bN (madeS zs)))))) j ≤ 1020 := fun d j => by
            by_cases hj : j < 64
            · rw [ofC_get hj]
              have := lnL_in (d := d) hin0 hj
              omega
            · rw [ofC_out (by omega)]; omega
          have H1 : Hid (∀ k, k < 64 → nthC (ofC 64 (lnL true (nthC (ofC 64 (lnL false (nthC (ofC 64 (bN (madeS zs))))))))) k = sf2 (bN (madeS zs)) k) := fun k hk => by rw [ofC_get hk, ln_twice _ hk, sf2_of hk]
          have H2 : Hid (∀ k, k < 64 → nthC (ofC 64 (lnL false (nthC (ofC 64 (lnL true (nthC (ofC 64 (bN (madeS zs))))))))) k = sf2 (bN (madeS zs)) k) := fun k hk => by rw [ofC_get hk, ln_twice2 _ hk, sf2_of hk]
          have HL0 := Lib.hid (fun (d : Bool) (W : World) (g : Nat) (h : NumsAt W g 3 (ofC 64 (bN (madeS zs)))) => lines15_any I (h.rowV (ofC_length _ _)) (Nat.le_refl _) (fun j => by have := hin0 j; omega) d)
          have HL1 := Lib.hid (fun (d d' : Bool) (W : World) (g : Nat) (h : NumsAt W g 3 (ofC 64 (lnL d' (nthC (ofC 64 (bN (madeS zs))))))) => lines15_any I (h.rowV (ofC_length _ _)) (Nat.le_refl _) (fun j => by have := hin1 d' j; omega) d)
          have hr1 : (ofC 64 (lnL true (nthC (ofC 64 (lnL false (nthC (ofC 64 (bN (madeS zs))))))))).length = 64 := ofC_length _ _
          have hr2 : (ofC 64 (lnL false (nthC (ofC 64 (lnL true (nthC (ofC 64 (bN (madeS zs))))))))).length = 64 := ofC_length _ _
          clear hin0 hin1
          generalize fbL (madeS zs) = Z at *
          generalize sf2 (bN (madeS zs)) = q at *
          go_wp2_with fail
          refine HF.out.mono ?_
          rintro e w4 ⟨v7, rfl, ho, b4⟩
          obtain ⟨av, cv, rfl⟩ := row_form ho
          have B4 := Lib.hid (below_chain B3.out (Nat.le_refl _) b4)
          have HO := Lib.hid ho
          have HN4 := Lib.hid (HN.out.below b4 hN3)
          have hs4 := b4.size
          clear b4 ho HF HNb2 HN HBr
          go_wp2_with fail
          refine (HL0.out false w4 _ HN4.out).mono ?_
          rintro e w5 ⟨rfl, n5, b5⟩
          have B5 := Lib.hid (below_chain B4.out (Nat.le_refl _) b5)
          have HO := Lib.hid (ownsRow_belowN HO.out b5)
          have HN5 := Lib.hid (HN4.out.below b5 (by omega))
          have HRw := Lib.hid n5
          have hrw := n5.lt
          have hs5 := b5.size
          clear b5 n5 HN4
          go_wp2_with fail
          refine (HL0.out true w5 _ HN5.out).mono ?_
          rintro e w6 ⟨rfl, n6, b6⟩
          have B6 := Lib.hid (below_chain B5.out (Nat.le_refl _) b6)
          have HO := Lib.hid (ownsRow_belowN HO.out b6)
          have HRw := Lib.hid (HRw.out.below b6 hrw)
          have HCl := Lib.hid n6
          have hcl := n6.lt
          have hs6 := b6.size
          clear b6 n6 HN5 HL0
          go_wp2_with fail
          refine (HL1.out true false w6 _ HRw.out).mono ?_
          rintro e w7 ⟨rfl, n7, b7⟩
          have B7 := Lib.hid (below_chain B6.out (Nat.le_refl _) b7)
          have HO := Lib.hid (ownsRow_belowN HO.out b7)
          have HCl := Lib.hid (HCl.out.below b7 hcl)
          have HOn := Lib.hid n7
          have hon := n7.lt
          have hs7 := b7.size
          clear b7 n7 HRw
          go_wp2_with fail
          refine (HL1.out false true w7 _ HCl.out).mono ?_
          rintro e w8 ⟨rfl, n8, b8⟩
          have B8 := Lib.hid (below_chain B7.out (Nat.le_refl _) b8)
          have HO := Lib.hid (ownsRow_belowN HO.out b8)
          have HOn := Lib.hid (HOn.out.below b8 hon)
          have HTw := Lib.hid n8
          have htw := n8.lt
          have hs8 := b8.size
          clear b8 n8 HCl HL1
          go_wp2_with fail
          have hby : Byt w8.heap.size w8 (.slice av 64 cv) Z := byt_own (by rw [hfl]; exact HO.out) (by omega) (Nat.le_refl _)
          obtain ⟨a', c', e, -, hz⟩ := hby
          rw [hfl] at e
          cases e
          rcases hz with e | ⟨b, off, rfl, hbl, hz⟩
          · rw [e] at hfl; cases hfl
          have HC : Hid (∀ Wr, Below w8.heap.size w8 Wr → ∀ k, k < 64 → Wr.cell? ⟨w6.heap.size, k, none⟩ = some (.int .i64 (q k)) ∧ Wr.cell? ⟨w7.heap.size, k, none⟩ = some (.int .i64 (q k)) ∧ Wr.cell? ⟨b, off + k, none⟩ = some (.int .u8 (Z[k]?.getD 0).toNat)) := fun Wr hb k hk => by
            have x1 := (HOn.out.below hb (by omega)).cell (k := k) (by rw [hr1]; exact hk)
            have x2 := (HTw.out.below hb htw).cell (k := k) (by rw [hr2]; exact hk)
            have e1 := H1.out k hk
            have e2 := H2.out k hk
            unfold nthC at e1 e2
            rw [e1] at x1
            rw [e2] at x2
            exact ⟨x1, x2, (hb.cell (p := ⟨b, off + k, none⟩) hbl).trans (hz k (by omega))⟩
          clear hz HOn HTw HO H1 H2
          go_loopw [17] (fun i wr => ∃ k : Nat, i = .int .i64 (k : Int) ∧ k ≤ 64 ∧ Below w8.heap.size w8 wr) (fun i _ => 64 - (intOf i).toNat)
          case atStart => exact ⟨0, rfl, by omega, Below.refl _ _⟩
          case round =>
            obtain ⟨k, rfl, hk, hb⟩ := hrel
            have HBw := Lib.hid hb
            clear hb
            by_cases hk2 : k < 64
            · have i0 : (k : Int) < 64 := by omega
              obtain ⟨x1, x2, x3⟩ := HC.out _ HBw.out k hk2
              obtain ⟨q0, q1'⟩ := HQ.out k hk2
              have hz := HZ.out k hk2
              generalize q k = y at *
              generalize Z[k]?.getD 0 = z at *
              have e1 : IntKind.i64.wrap (y + 8) = y + 8 := by rw [IntKind.wrap_i64]; omega
              have e2 : Int.tdiv (y + 8) 16 = ((z.toNat : Nat) : Int) := by rw [Int.tdiv_eq_ediv_of_nonneg (by omega)]; omega
              have hz8 := z.toNat_lt
              have e3 : IntKind.i64.wrap ((z.toNat : Nat) : Int) = ((z.toNat : Nat) : Int) := by rw [IntKind.wrap_i64]; omega
              clear hz
              go_wp2_with fail
              go_quiet (fail)
              go_wp2_with fail
              go_roundw
              case rel => exact ⟨k + 1, by go_num, by omega, HBw.out.trans (below_drewN _ _ _)⟩
              case measure => simp [intOf]; omega
            · obtain rfl : k = 64 := by omega
              go_wp2_with fail
              go_ret
              exact ⟨rfl, below_chain B1.out (Nat.le_refl _) (below_chain B8.out (Nat.le_refl _) HBw.out)⟩

end Go.Proofs.Ytdpnmddjhlkbjaa
