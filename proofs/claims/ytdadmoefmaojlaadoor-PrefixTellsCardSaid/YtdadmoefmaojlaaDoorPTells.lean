/- The contract of the law PrefixTells, over a tree's contracts: it returns true, and nothing that lay is changed. -/
import Derived.Test.YtdadmoefmaojlaaDoorPTree
namespace Go.Proofs.YtdadmoefmaojlaaDoor
open Go.RowKit Go.Shelf
set_option linter.unusedVariables false

set_option maxRecDepth 100000 in
set_option maxHeartbeats 8000000 in
theorem prefixTells_walk (I : TreeI) (HA : ∀ w : World, Calls Tryd.prog 9 #[] w fun e w' => e = .returned (.bool true) ∧ Below w.heap.size w w')
    {w : World} {a a' : Option Addr} {len cap len' cap' : Nat} {cs : List ByteArray} {ns : List Int} {sv : Value} {zs : List UInt8} (hC : RowV w.heap.size w a len cap (strV cs)) (hN : RowV w.heap.size w a' len' cap' (intV ns)) (hB : Byt w.heap.size w sv zs)
    (hsz : ∀ s ∈ cs, s.size ≤ 9223372036854775807) (hbig : cs.length ≤ 8796093022208) (hns : I64s ns) (at_ number : Int) (hat : at_ ≤ 9223372036854775807) (hnu1 : -9223372036854775808 ≤ number) (hnu2 : number ≤ 9223372036854775807) :
    Calls Tryd.prog 3 #[.slice a len cap, .slice a' len' cap', sv, .int .i64 at_, .int .i64 number] w fun e w' => e = .returned (.bool true) ∧ Below w.heap.size w w' := by
  have hA := Lib.hid HA
  have HNs := Lib.hid hns
  clear hns
  clear HA
  have HL := Lib.hid (long3_any hC hsz)
  have e1 : cs.length = len := by have := hC.1; simpa using this
  have e2 : ns.length = len' := by have := hN.1; simpa using this
  subst e1
  subst e2
  have HC := Lib.hid hC
  have HN := Lib.hid hN
  have HB := Lib.hid hB
  have HSz := Lib.hid hsz
  have hc1 := hC.2.1
  have hc2 := hC.2.2.1
  have hn1 := hN.2.1
  have hn2 := hN.2.2.1
  obtain ⟨ab, capb, rfl, hzl, _⟩ := hB
  obtain ⟨i1, hi1, hz10, hz11, hz12⟩ := info_parts Tryd.info9
  clear hC hN hsz
  go_enter Tryd.func3, Tryd.ntmps3
  go_wp2_with fail
  refine HL.out.mono ?_
  rintro e w0 ⟨rfl, rfl⟩
  by_cases hlong : long3B cs = true ∨ 400 < ns.length ∨ 100 < zs.length
  · by_cases h1 : long3B cs = true
    · rw [h1]
      go_wp2_with (go_at_call 9; refine (hA.out _).mono ?_; rintro e w5 ⟨rfl, hb5⟩)
      go_ret
      exact ⟨rfl, hb5⟩
    · have h1' : long3B cs = false := by simpa using h1
      rw [h1']
      by_cases h2 : 400 < ns.length
      · clear hlong h1
        go_wp2_with (go_at_call 9; refine (hA.out _).mono ?_; rintro e w5 ⟨rfl, hb5⟩)
        go_ret
        exact ⟨rfl, hb5⟩
      · have h3 : 100 < zs.length := by
          rcases hlong with h | h | h
          · exact absurd h h1
          · exact absurd h h2
          · exact h
        clear hlong h1
        go_wp2_with (go_at_call 9; refine (hA.out _).mono ?_; rintro e w5 ⟨rfl, hb5⟩)
        go_ret
        exact ⟨rfl, hb5⟩
  have hl1 : long3B cs = false := by rcases h : long3B cs with _ | _ <;> simp_all
  have hl2 : ns.length ≤ 400 := by omega
  have hl3 : zs.length ≤ 100 := by omega
  rw [hl1]
  clear hlong hl1
  have HCs := Lib.hid HC.out.src
  have HCn := Lib.hid HC.out.nocap
  go_wp2_with (at_builtin; refine wpList_append_v rfl (.tmp 41) (.tmp 42) 22 9 i1 (.string ⟨#[]⟩) 16 rfl Tryd.underlying22x hi1 hz10 hz11 hz12 rfl w.heap.size (.slice (some ⟨w.heap.size, 0, none⟩) 0 0) 0 [] rfl (own_empty _ _) a cs.length cap (strV cs) rfl (HCs.out.alloc _) HCn.out strV_one (by omega) (by omega) (by simp) ?_; intro v1 w1 hap1; have HA1 := Lib.hid (first_v hap1); clear hap1)
  refine (copyInts_any (HN.out.below HA1.out.2) (by omega)).mono ?_
  rintro e w2 ⟨v2, rfl, hr2, b2⟩
  rw [List.length_map] at hr2
  have B2 := below_chain HA1.out.2 (Nat.le_refl _) b2
  have hr1 := ownsRow_bar HA1.out.1 (bar_of_below (S := fun _ => False) b2) (fun _ _ e => e)
  have hs1 := HA1.out.2.size
  obtain ⟨a1, c1, rfl, hv1⟩ := rowV_own hr1
  obtain ⟨a2, c2, rfl, hv2⟩ := rowV_own hr2
  have HR1 := Lib.hid hr1
  have HR2 := Lib.hid (ownsRow_base hr2 hs1)
  have HV1 := Lib.hid hv1
  have HV2 := Lib.hid hv2
  clear hr1 hr2 hv1 hv2 b2
  go_wp2_with fail
  refine (I.make HV1.out HV2.out HSz.out HNs.out).mono ?_
  rintro e w3 ⟨b3, hm3⟩
  have B3 := below_chain B2 (Nat.le_refl _) b3
  have HM4 := Lib.hid (tmake_any ((HC.out.below B3).mono B3.size) ((HN.out.below B3).mono B3.size) HSz.out)
  have HSm : Hid (∀ w4, Below w3.heap.size w3 w4 → Calls Tryd.prog 13 #[.slice a2 ns.length c2, .slice a' ns.length cap'] w4 fun e w' => e = .returned (.bool true) ∧ Below w4.heap.size w4 w') := fun w4 b4 =>
    (sameInts_any (((cellsAt_own HR2.out).below b3).below b4) ((HN.out.below (below_chain B3 (Nat.le_refl _) b4)).cellsAt) (by omega) (by omega)).mono (by rintro e w' ⟨rfl, hb⟩; exact ⟨by simp, hb⟩)
  rcases hm3 with ⟨h0, bp, rfl, hp⟩ | ⟨h0, rfl⟩
  · have hn0 : 0 < cs.length := by
      unfold makeE at h0
      split at h0
      · simp at h0
      · omega
    obtain ⟨g1, cp1, e1, hg1, _, _⟩ := row_cells HR1.out hn0
    cases e1
    have HP := Lib.hid hp
    have HC0 := Lib.hid (cells0_own HR1.out)
    have hgw : w.heap.size ≤ g1 := (HR1.out.lt g1 rfl).1
    have hb2w : ∀ k, (Value.slice a2 ns.length c2).ownBlock = some k → w.heap.size ≤ k ∧ k < w2.heap.size := fun k e => HR2.out.lt k e
    have HB2w := Lib.hid hb2w
    have hs2 := B2.size
    have hs3 := b3.size
    clear hp hb2w
    go_wp2_with fail
    refine HM4.out.mono ?_
    rintro e w4 ⟨b4, hm4⟩
    obtain ⟨_, bt4, rfl, ht⟩ := hm4.resolve_right (fun h => h.1 h0)
    have HT := Lib.hid ht
    have HP4 := Lib.hid (I.later HP.out b4)
    have B4 := below_chain B3 (Nat.le_refl _) b4
    have hs4 := b4.size
    have HM := Lib.hid h0
    clear ht h0 HM4
    go_wp2_with fail
    refine (HSm.out _ b4).mono ?_
    rintro e w5 ⟨rfl, b5⟩
    have HT5 := Lib.hid (HT.out.later b5)
    have HP5 := Lib.hid (I.later HP4.out b5)
    have B5 := below_chain B4 (Nat.le_refl _) b5
    have hs5 := b5.size
    have B25 : Below w2.heap.size w2 w5 := below_chain (below_chain b3 (Nat.le_refl _) b4) (Nat.le_refl _) b5
    have HR25 := Lib.hid (ownsRow_bar HR2.out (bar_of_below (S := fun _ => False) B25) (fun _ _ e => e))
    have HR15 := Lib.hid (ownsRow_bar HR1.out (bar_of_below (S := fun _ => False) B25) (fun _ _ e => e))
    clear b5 B25
    go_wp2_with fail
    refine (overInts_any HR25.out (by omega)).mono ?_
    rintro e w6 ⟨rfl, hb6⟩
    have hs6 := hb6.size
    have HB6 := Lib.hid hb6
    have hc06 : Cells0 w6 g1 cs.length := by
      by_cases e : (Value.slice a2 ns.length c2).ownBlock = some g1
      · exfalso
        obtain ⟨cur, t1, h1, _⟩ := cells0_own HR15.out
        rcases HR25.out.2 with ⟨e2, _⟩ | ⟨g', cap', cur', e2, _, hg', _⟩
        · rw [e2] at e; simp [Value.ownBlock] at e
        · rw [e2] at e
          simp [Value.ownBlock] at e
          subst e
          rcases HR15.out.2 with ⟨e3, _⟩ | ⟨g3, cap3, cur3, e3, _, hg3, _⟩
          · cases e3
          · cases e3
            rw [hg'] at hg3
            simp at hg3
      · obtain ⟨cur, t1, h1, h2⟩ := cells0_own HR15.out
        exact ⟨cur, t1, (hb6.block g1 (by omega) e).trans h1, h2⟩
    have HC6 := Lib.hid hc06
    clear hb6 hc06
    go_wp2_with fail
    go_loopw [17] (fun i wr => ∃ k : Nat, i = .int .i64 k ∧ k ≤ cs.length ∧ Cells0 wr g1 cs.length ∧ Bar (fun k => k = g1) w6 wr) (fun i _ => cs.length - (intOf i).toNat)
    case atStart => exact ⟨0, rfl, by omega, HC6.out, Bar.refl _ _⟩
    case round =>
      obtain ⟨k, rfl, hk, hB0, hbar⟩ := hrel
      have HBar := Lib.hid hbar
      have HB0 := Lib.hid hB0
      clear hbar
      by_cases hk2 : k < cs.length
      · obtain ⟨u, hc, hf⟩ := hB0.cell hk2
        clear hB0
        go_wp2
        refine ⟨⟨k + 1, by go_num, by omega, HB0.out.set _, HBar.out.setCell (fun _ => rfl) _⟩, ?_⟩
        simp [intOf]; omega
      · clear hB0
        have hkn : k = cs.length := by omega
        subst k
        have B6 : Below w.heap.size w w6 := B5.trans (HB6.out.below (by omega) (fun k hk e => by have := (HB2w.out k e).1; omega))
        have B7 : Below w.heap.size w wr := B6.trans (HBar.out.below (by omega) (fun k hk e => by omega))
        have HP7 := Lib.hid (I.keep (I.keep HP5.out HB6.out (fun k hk _ e => by have := (HB2w.out k e).2; omega)) HBar.out (fun k hk _ e => by omega))
        have HT7 := Lib.hid ((HT5.out.keep HB6.out (fun k hk e => by have := (HB2w.out k e).2; omega)).keep HBar.out (fun k hk e => by omega))
        obtain ⟨gx, gn, ge, hgt⟩ := getT_form cs ns zs at_
        have HG1 := Lib.hid (I.get HP7.out (HB.out.below B7) B7.size (by omega) at_ hat)
        rw [hgt] at HG1
        have HGt := Lib.hid hgt
        clear hgt
        go_wp2_with fail
        refine HG1.out.mono ?_
        rintro e w8 ⟨rfl, b8⟩
        have B8 := below_chain B7 (Nat.le_refl _) b8
        have HG2 := Lib.hid (tget_any (HT7.out.later b8) (HB.out.below B8) B8.size (by omega) at_ hat)
        rw [HGt.out] at HG2
        go_wp2_with fail
        refine HG2.out.mono ?_
        rintro e w9 ⟨rfl, b9⟩
        have b89 := below_chain b8 (Nat.le_refl _) b9
        have HPu := Lib.hid (I.put (I.later HP7.out b89) number hnu1 hnu2)
        generalize hps : putS cs ns number = ps at *
        generalize hpe : putE3 ns number = pe at *
        go_wp2_with fail
        refine HPu.out.mono ?_
        rintro e w10 ⟨rfl, b10⟩
        have b810 := below_chain b89 (Nat.le_refl _) b10
        have HPu2 := Lib.hid (tput_any (HT7.out.later b810) number)
        rw [hps, hpe] at HPu2
        clear hps hpe
        go_wp2_with fail
        refine HPu2.out.mono ?_
        rintro e w11 ⟨rfl, rfl⟩
        have HCo := Lib.hid (I.codes (I.later HP7.out b810))
        go_wp2_with fail
        refine HCo.out.mono ?_
        rintro e w12 ⟨rfl, b12⟩
        have B12 := below_chain (below_chain B7 (Nat.le_refl _) b810) (Nat.le_refl _) b12
        go_wp2_with (go_at_call 9; refine (hA.out _).mono ?_; rintro e w13 ⟨rfl, hb13⟩)
        go_ret
        exact ⟨rfl, below_chain B12 (Nat.le_refl _) hb13⟩
  · go_wp2_with fail
    refine HM4.out.mono ?_
    rintro e w4 ⟨b4, hm4⟩
    obtain ⟨_, rfl⟩ := hm4.resolve_left (fun h => h0 h.1)
    generalize makeE cs ns = me
    have B4 := below_chain B3 (Nat.le_refl _) b4
    clear HM4 h0
    go_wp2_with fail
    refine (HSm.out _ b4).mono ?_
    rintro e w5 ⟨rfl, b5⟩
    have B5 := below_chain B4 (Nat.le_refl _) b5
    go_wp2_with (go_at_call 9; refine (hA.out _).mono ?_; rintro e w13 ⟨rfl, hb13⟩)
    go_ret
    exact ⟨rfl, below_chain B5 (Nat.le_refl _) hb13⟩

end Go.Proofs.YtdadmoefmaojlaaDoor
