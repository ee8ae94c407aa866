/- The walks of ScanStarts, ScanBack, ScanOrder (praxinoscopelaw09). -/
import Derived.Test.YtjfekhjfdapilaaZLaw2
namespace Go.Proofs.Ytjfekhjfdapilaa
open Go.RowKit Go.Shelf
set_option linter.unusedVariables false

theorem pairsAt_cons_set {w : World} {g : Nat} {r l : Int} {rest : List (Int × Int)} (h : PairsAt w g 0 ((r, l) :: rest)) (x : Int) : PairsAt (w.setCell ⟨g, 0, none⟩ (.int .i64 x)) g 0 ((x, l) :: rest) := by
  intro j p hp
  have h0 := (h 0 (r, l) rfl)
  simp only [Nat.zero_add] at h0 ⊢
  match j with
  | 0 =>
    simp at hp
    subst hp
    exact ⟨World.cell?_setCell_same _ _ _ h0.1, (World.cell?_setCell_other _ _ _ _ (by simp)).trans h0.2⟩
  | j + 1 =>
    have hj := h (j + 1) p (by simpa using hp)
    simp only [Nat.zero_add] at hj
    exact ⟨(World.cell?_setCell_other _ _ _ _ (by simp)).trans hj.1, (World.cell?_setCell_other _ _ _ _ (by simp)).trans hj.2⟩

set_option maxRecDepth 100000 in
set_option maxHeartbeats 4000000 in
theorem scanStarts_walk {w : World} {a : Option Addr} {len cap : Nat} {ps : List (Int × Int)} (hR : RowP w.heap.size w a len cap ps) :
    Calls Try.prog 8 #[.slice a len cap] w fun e w' => e = .returned (.bool true) ∧ Below w.heap.size w w' := by
  have HAw := Lib.hid (awake9_any w)
  have hl := hR.1
  by_cases h0 : len = 0
  · have q1 : ((len : Int) == 0) = true := by rw [beq_iff_eq]; omega
    clear hR
    go_enter Try.func8, Try.ntmps8
    go_wp2_with (go_at_call 9; refine HAw.out.mono ?_; rintro e w' ⟨rfl, hb⟩)
    go_ret
    exact ⟨rfl, hb⟩
  · have q1 : ((len : Int) == 0) = false := by rw [beq_eq_false_iff_ne]; omega
    by_cases hlen : 60 < len
    · have q2 : (60 : Int) < (len : Int) := by omega
      clear hR
      go_enter Try.func8, Try.ntmps8
      go_wp2_with (go_at_call 9; refine HAw.out.mono ?_; rintro e w' ⟨rfl, hb⟩)
      go_ret
      exact ⟨rfl, hb⟩
    · have q2 : ¬ (60 : Int) < (len : Int) := by omega
      have q3 : (0 : Int) < (len : Int) := by omega
      have HNc := Lib.hid hR.nocap
      have HRB := Lib.hid (fun w' (hb : Below w.heap.size w w') => hR.below hb)
      have hsl := sprR_len ps 1
      clear hR
      go_enter Try.func8, Try.ntmps8
      go_wp2_with fail
      refine HAw.out.mono ?_
      rintro e w1 ⟨rfl, hb1⟩
      have HB1 := Lib.hid hb1
      have hs1 := hb1.size
      clear hb1 HAw
      go_wp2_with fail
      refine (spreadZ_any (HRB.out w1 HB1.out) hs1 (by omega) 1).mono ?_
      rintro e w2 ⟨v2, rfl, ho2, hb2⟩
      have HO2 := Lib.hid ho2
      have HB2 := Lib.hid (HB1.out.trans (hb2.mono hs1))
      have hs2 := hb2.size
      have HSr := Lib.hid (HRB.out w2 HB2.out).src
      clear hb2 ho2
      go_wp2_with (at_builtin; refine wpList_append_p rfl _ _ rfl w2.heap.size _ 0 [] rfl (own_emptyP w2) a len cap ps rfl (HSr.out.alloc _) HNc.out (by omega) (by simp) ?_; intro v3 w3 hap; have HAp := Lib.hid (first_p hap); clear hap; refine Hid.out ?_)
      refine Lib.hid ?_
      obtain ⟨ho3, hb3⟩ := HAp.out
      obtain ⟨av3, c3, rfl, hr3⟩ := rowP_own ho3
      have hbase3 := fun k e => (ho3.lt k e)
      match ps, hl with
      | [], hl => simp at hl; omega
      | (r, l) :: rest, hl =>
        rcases hr3.2.2.2 with hc0 | ⟨g, off, rfl, hg, hp⟩
        · have := hr3.2.1
          omega
        have hoff : off = 0 := by
          rcases ho3.2 with ⟨e, _⟩ | ⟨g', cap', cur, e, _⟩
          · cases e
          · cases e; rfl
        subst hoff
        have hgl := hg (by omega)
        have hgb := (hbase3 g rfl).1
        have x1 := (hp 0 (r, l) rfl).1
        simp only [Nat.zero_add, Nat.zero_mul] at x1
        have HP := Lib.hid hp
        have HB3 := Lib.hid hb3
        have hs3 := hb3.size
        have hfr : w3.frozen? ⟨g, 0, none⟩ = false := by
          rcases ho3.2 with ⟨e, _⟩ | ⟨g', cap', cur, e, _, hh, _⟩
          · cases e
          · cases e; simp [World.frozen?, hh]
        have HC3 := Lib.hid (show len ≤ c3 ∧ c3 ≤ 9223372036854775807 from ⟨hr3.2.1, hr3.2.2.1⟩)
        clear HAp ho3 hb3 hr3 hbase3 hg hp
        by_cases hfar : r < 0 ∨ 100 < r
        · have hne := spr_far (l := l) (rest := rest) hfar
          have e1 : ((sprR ((r, l) :: rest) 1).1 != 0) = true := by rw [bne_iff_ne]; exact hne
          generalize (sprR ((r, l) :: rest) 1).1 = er at *
          clear hne
          by_cases r0 : r < 0
          · clear hfar
            go_wp2
            go_ret
            exact ⟨rfl, HB2.out.trans (HB3.out.mono (by omega))⟩
          · have r1 : 100 < r := by omega
            clear hfar
            go_wp2
            go_ret
            exact ⟨rfl, HB2.out.trans (HB3.out.mono (by omega))⟩
        · have r0 : ¬ r < 0 := by omega
          have r1 : ¬ 100 < r := by omega
          have r2 : 0 ≤ r := by omega
          have r3 : r ≤ 100 := by omega
          have hst := spr_starts (l := l) (rest := rest) r2 r3
          have hp4 := pairsAt_cons_set HP.out (r + 1)
          have hb4 : Below w2.heap.size w3 (w3.setCell ⟨g, 0, none⟩ (.int .i64 (r + 1))) := (Below.refl _ _).setCell (p := ⟨g, 0, none⟩) hgb _
          have hR4 : RowP (w3.setCell ⟨g, 0, none⟩ (.int .i64 (r + 1))).heap.size (w3.setCell ⟨g, 0, none⟩ (.int .i64 (r + 1))) (some ⟨g, 0, none⟩) len c3 ((r + 1, l) :: rest) := ⟨by simpa using hl, HC3.out.1, HC3.out.2, .inr ⟨g, 0, rfl, fun _ => by simpa using hgl, hp4⟩⟩
          have hC4 : CellsAt (w3.setCell ⟨g, 0, none⟩ (.int .i64 (r + 1))) v2 (intV (sprR ((r, l) :: rest) 1).2) := by
            have h3 := HO2.out.cellsAt.below (HB3.out.trans hb4)
            exact h3
          have HSp := Lib.hid (spreads9_any hR4 (Nat.le_refl _) (by omega) 0 hC4 (by omega) (sprR ((r, l) :: rest) 1).1)
          rw [hst] at HSp
          simp only [decide_true, beq_self_eq_true, Bool.and_self] at HSp
          have HB4 := Lib.hid hb4
          generalize (sprR ((r, l) :: rest) 1).1 = er at *
          clear hst hp4 hR4 hC4 hb4
          go_wp2_with (go_at_call 21; refine HSp.out.mono ?_; rintro e w5 ⟨rfl, hb5⟩)
          go_ret
          have hW4 := HB2.out.trans ((HB3.out.trans HB4.out).mono (by omega))
          exact ⟨rfl, below_chain hW4 (Nat.le_refl _) hb5⟩

/-! ### ScanOrder -/
theorem ord_same : ∀ i k : Fin 64, ((ordAt i.val : Int) == (ordAt k.val : Int)) = ((i.val : Int) == (k.val : Int)) := by decide +kernel
theorem ord_sum : ∀ i k : Fin 64, i.val < k.val → ordAt i.val % 8 + ordAt i.val / 8 ≤ ordAt k.val % 8 + ordAt k.val / 8 := by decide +kernel
theorem ord_way : ∀ i k : Fin 64, i.val < k.val → ordAt i.val % 8 + ordAt i.val / 8 = ordAt k.val % 8 + ordAt k.val / 8 → (ordAt k.val / 8 < ordAt i.val / 8 ↔ (ordAt i.val % 8 + ordAt i.val / 8) % 2 = 0) := by decide +kernel

set_option maxRecDepth 100000 in
set_option maxHeartbeats 4000000 in
theorem scanOrder_walk {w : World} (i k : Int) :
    Calls Try.prog 6 #[.int .i64 i, .int .i64 k] w fun e w' => e = .returned (.bool true) ∧ Below w.heap.size w w' := by
  have HKn := Lib.hid (known9_any w)
  have HPi := Lib.hid (fun W => pick_any i 64 W (by omega) (by omega))
  have HPk := Lib.hid (fun W => pick_any k 64 W (by omega) (by omega))
  have hi0 := Int.emod_nonneg i (b := 64) (by omega)
  have hi1 := Int.emod_lt_of_pos i (b := 64) (by omega)
  have hk0 := Int.emod_nonneg k (b := 64) (by omega)
  have hk1 := Int.emod_lt_of_pos k (b := 64) (by omega)
  obtain ⟨I, hI⟩ : ∃ I : Nat, i % 64 = I := ⟨(i % 64).toNat, by omega⟩
  obtain ⟨K, hK⟩ : ∃ K : Nat, k % 64 = K := ⟨(k % 64).toNat, by omega⟩
  rw [hI] at HPi hi0 hi1
  rw [hK] at HPk hk0 hk1
  have hI64 : I < 64 := by omega
  have hK64 : K < 64 := by omega
  have HPI := Lib.hid (fun W => placeZ_any (I : Int) W)
  have HPK := Lib.hid (fun W => placeZ_any (K : Int) W)
  have eI : placeN (I : Int) = (ordAt I : Nat) ∧ placeE (I : Int) = 0 := by unfold placeN placeE; rw [if_pos ⟨hi0, hi1⟩, if_pos ⟨hi0, hi1⟩, Int.toNat_natCast]; exact ⟨rfl, rfl⟩
  have eK : placeN (K : Int) = (ordAt K : Nat) ∧ placeE (K : Int) = 0 := by unfold placeN placeE; rw [if_pos ⟨hk0, hk1⟩, if_pos ⟨hk0, hk1⟩, Int.toNat_natCast]; exact ⟨rfl, rfl⟩
  rw [eI.1, eI.2] at HPI
  rw [eK.1, eK.2] at HPK
  have hsame := ord_same ⟨I, hI64⟩ ⟨K, hK64⟩
  have HSum := Lib.hid (ord_sum ⟨I, hI64⟩ ⟨K, hK64⟩)
  have HWay := Lib.hid (ord_way ⟨I, hI64⟩ ⟨K, hK64⟩)
  have a1 := ordAt_lt I
  have a2 := ordAt_lt K
  simp only at hsame HSum HWay
  generalize ordAt I = A at *
  generalize ordAt K = B at *
  have A0 : (0 : Int) ≤ (A : Int) := by omega
  have A1 : ¬ (63 : Int) < (A : Int) := by omega
  have A2 : ¬ (A : Int) < 0 := by omega
  have B0 : (0 : Int) ≤ (B : Int) := by omega
  have B1 : ¬ (63 : Int) < (B : Int) := by omega
  have B2 : ¬ (B : Int) < 0 := by omega
  clear hI hK eI eK hi0 hi1 hk0 hk1
  go_enter Try.func6, Try.ntmps6
  go_wp2_with fail
  refine HKn.out.mono ?_
  rintro e w1 ⟨rfl, hb1⟩
  have HB1 := Lib.hid hb1
  clear hb1 HKn
  go_wp2_with fail
  refine (HPi.out w1).mono ?_
  rintro e w' ⟨rfl, rfl⟩
  go_wp2_with fail
  refine (HPk.out w1).mono ?_
  rintro e w' ⟨rfl, rfl⟩
  go_wp2_with fail
  refine (HPI.out w1).mono ?_
  rintro e w2 ⟨rfl, hb2⟩
  have HB2 := Lib.hid (below_chain HB1.out (Nat.le_refl _) hb2)
  clear hb2
  go_wp2_with fail
  refine (HPK.out w2).mono ?_
  rintro e w3 ⟨rfl, hb3⟩
  have HB3 := Lib.hid (below_chain HB2.out (Nat.le_refl _) hb3)
  clear hb3 HPi HPk HPI HPK
  by_cases hIK : I < K
  · have hd : (I : Int) < (K : Int) := by omega
    have s1 := Lib.hid (HSum.out hIK)
    have s2 := Lib.hid (HWay.out hIK)
    go_wp2
    all_goals first
      | (go_ret; exact ⟨rfl, HB3.out⟩)
      | (exfalso
         have s1 := s1.out
         have s2 := s2.out
         by_cases c1 : (B : Int) / 8 < (A : Int) / 8 <;> by_cases c2 : ((B : Int) % 8 + (B : Int) / 8) % 2 = 0 <;> simp_all <;> omega)
  · have hd : ¬ (I : Int) < (K : Int) := by omega
    go_wp2
    go_ret
    exact ⟨rfl, HB3.out⟩

end Go.Proofs.Ytjfekhjfdapilaa
