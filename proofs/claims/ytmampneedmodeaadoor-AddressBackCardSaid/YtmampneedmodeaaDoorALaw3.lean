/- The contract of the law's helper code (praxinoscopelaw04); the walks of AddressApart and AddressWalk. -/
import Derived.Test.YtmampneedmodeaaDoorALaw2
namespace Go.Proofs.YtmampneedmodeaaDoor
open Go.RowKit Go.Shelf
set_option linter.unusedVariables false

set_option maxRecDepth 100000 in
set_option maxHeartbeats 1000000 in
theorem code4_true (s : ByteArray) (hs : AllBits s) (h1 : 1 ≤ s.size) (h11 : s.size ≤ 11) (k : Nat) (hk : k < s.size) (h49 : s[k] = 49) (w : World) :
    Calls Tryd.prog 23 #[.string s] w fun e w' => e = .returned (.bool true) ∧ w = w' := by
  have HS := Lib.hid hs
  have H49 := Lib.hid h49
  clear hs h49
  go_enter Tryd.func23, Tryd.ntmps23
  go_wp2
  go_loop [3, 4] (fun b i => ∃ (t : Nat) (c : Bool), t ≤ s.size ∧ i = .int .i64 t ∧ b = .bool c ∧ (k < t → c = false)) (fun _ i => s.size - (intOf i).toNat)
  case atStart => exact ⟨0, true, Nat.zero_le _, rfl, rfl, fun h => by omega⟩
  case round =>
    obtain ⟨t, c, ht, rfl, rfl, hc⟩ := hrel
    have HC := Lib.hid hc
    clear hc
    by_cases hts : t < s.size
    · rcases HS.out t hts with h | h
      · have e1 : ((s[t].toNat : Int) != 48) = false := by rw [h]; rfl
        have e3 : ((s[t].toNat : Int) == 48) = true := by rw [h]; rfl
        have HT : Hid (t ≠ k) := by
          intro e
          subst e
          rw [H49.out] at h
          exact absurd h (by decide)
        clear h
        cases c with
        | true =>
          go_wp2
          go_round
          case rel => exact ⟨t + 1, true, by omega, by go_num, rfl, fun h => HC.out (by have := HT.out; omega)⟩
          case measure => simp [intOf]; omega
        | false =>
          go_wp2
          go_round
          case rel => exact ⟨t + 1, false, by omega, by go_num, rfl, fun h => rfl⟩
          case measure => simp [intOf]; omega
      · have e1 : ((s[t].toNat : Int) != 48) = true := by rw [h]; rfl
        have e2 : ((s[t].toNat : Int) != 49) = false := by rw [h]; rfl
        have e3 : ((s[t].toNat : Int) == 48) = false := by rw [h]; rfl
        clear h
        cases c with
        | true =>
          go_wp2
          go_round
          case rel => exact ⟨t + 1, false, by omega, by go_num, rfl, fun h => rfl⟩
          case measure => simp [intOf]; omega
        | false =>
          go_wp2
          go_round
          case rel => exact ⟨t + 1, false, by omega, by go_num, rfl, fun h => rfl⟩
          case measure => simp [intOf]; omega
    · have htn : t = s.size := by omega
      subst t
      obtain rfl := HC.out hk
      go_wp2
      go_ret
      exact ⟨rfl, rfl⟩

theorem binS_all (b m : Nat) : AllBits (binS b m) := by
  intro i hi
  have hi2 : i < m := by rw [binS_size] at hi; exact hi
  have h : (binS b m)[i] = UInt8.ofNat (48 + cbit b m i) := by
    show (binL b m).toArray[i]'(by simpa [binL] using hi2) = _
    simp [binL]
  rw [h]
  have := cbit_le b m i
  rcases (by omega : cbit b m i = 0 ∨ cbit b m i = 1) with e | e
  · rw [e]; exact .inl rfl
  · rw [e]; exact .inr rfl
theorem one_tab : ∀ c ∈ tab4.take 34, ((List.range c.2).any fun i => cbit c.1 c.2 i == 1) = true ∧ c.2 ≤ 11 := by decide +kernel
theorem code4_cd {k : Nat} (h : k < 34) (w : World) : Calls Tryd.prog 23 #[.string (binS (cd k).1 (cd k).2)] w fun e w' => e = .returned (.bool true) ∧ w = w' := by
  obtain ⟨k1, k2, k3⟩ := tab4_small _ (cd_mem (k := k) (by omega))
  have hm : cd k ∈ tab4.take 34 := by
    have h2 : k < tab4.length := by rw [tab4_length]; omega
    rw [List.mem_take_iff_getElem]
    exact ⟨k, by omega, by simp [cd, h2]⟩
  obtain ⟨hany, h11⟩ := one_tab _ hm
  rw [List.any_eq_true] at hany
  obtain ⟨i, hi, he⟩ := hany
  have hi2 : i < (cd k).2 := by simpa using hi
  have he2 : cbit (cd k).1 (cd k).2 i = 1 := by simpa using he
  refine code4_true _ (binS_all _ _) (by rw [binS_size]; exact k2) (by rw [binS_size]; exact h11) i (by rw [binS_size]; exact hi2) ?_ w
  show (binL (cd k).1 (cd k).2).toArray[i]'(by simpa [binL] using hi2) = _
  simp [binL, he2]
theorem putS4_nat {k : Nat} (h : k < 34) : putS4 (k : Int) = binS (cd k).1 (cd k).2 ∧ putE4 (k : Int) = 0 := by
  unfold putS4 putE4
  rw [if_neg (by omega), if_neg (by omega), Int.toNat_natCast]
  exact ⟨rfl, rfl⟩
theorem aput_nat {k : Nat} (h : k < 34) (w : World) (hT : Tab2 w) :
    Calls Tryd.prog 14 #[.int .i64 k] w fun r w' => r = .returned (.tuple #[.string (binS (cd k).1 (cd k).2), .int .i64 0]) ∧ Below w.heap.size w w' :=
  aput_lit _ _ _ (putS4_nat h).1 (putS4_nat h).2 w hT

theorem apart_tab : ∀ i : Fin 34, ∀ j : Fin 34, i ≠ j → (binL (cd i.val).1 (cd i.val).2).take (min (cd i.val).2 (cd j.val).2) ≠ (binL (cd j.val).1 (cd j.val).2).take (min (cd i.val).2 (cd j.val).2) := by decide +kernel
theorem apart_bytes {i j : Nat} (hi : i < 34) (hj : j < 34) (h : i ≠ j) (n : Nat) (hn : n = min (cd i).2 (cd j).2) : (binS (cd i).1 (cd i).2).extract 0 n ≠ (binS (cd j).1 (cd j).2).extract 0 n := by
  subst hn
  intro e
  have := apart_tab ⟨i, hi⟩ ⟨j, hj⟩ (by simpa using h)
  apply this
  have e2 := congrArg (fun b : ByteArray => b.data.toList) e
  simp only [ByteArray.data_extract, Array.toList_extract] at e2
  simpa [binS, List.extract] using e2

set_option maxRecDepth 100000 in
set_option maxHeartbeats 2000000 in
theorem addressApart_walk (a b : Int) (w : World) (hT : Tab2 w) :
    Calls Tryd.prog 7 #[.int .i64 a, .int .i64 b] w fun e w' => e = .returned (.bool true) ∧ Below w.heap.size w w' := by
  have ha := Int.emod_nonneg a (b := 34) (by omega)
  have ha2 := Int.emod_lt_of_pos a (b := 34) (by omega)
  have hb := Int.emod_nonneg b (b := 34) (by omega)
  have hb2 := Int.emod_lt_of_pos b (b := 34) (by omega)
  obtain ⟨i, hi⟩ := Int.eq_ofNat_of_zero_le ha
  obtain ⟨j, hj⟩ := Int.eq_ofNat_of_zero_le hb
  have hi34 : i < 34 := by omega
  have hj34 : j < 34 := by omega
  have HPa := Lib.hid (pick_any a 34)
  have HPb := Lib.hid (pick_any b 34)
  rw [hi] at HPa
  rw [hj] at HPb
  have HI := Lib.hid (fun w' => aput_nat hi34 w')
  have HJ := Lib.hid (fun w' => aput_nat hj34 w')
  have HCi := Lib.hid (fun w' => code4_cd hi34 w')
  have HCj := Lib.hid (fun w' => code4_cd hj34 w')
  have HT := Lib.hid (fun w' (hb : Below w.heap.size w w') => hT.below hb)
  have HA := Lib.hid (awake4_any w hT)
  have HX := Lib.hid (fun h => apart_bytes hi34 hj34 h)
  have hs1 := binS_size (cd i).1 (cd i).2
  have hs2 := binS_size (cd j).1 (cd j).2
  clear ha ha2 hb hb2 hi hj hT
  go_enter Tryd.func7, Tryd.ntmps7
  go_wp2_with fail
  refine HA.out.mono ?_
  rintro e w1 ⟨rfl, b1⟩
  have HB1 := Lib.hid b1
  clear b1
  go_wp2_with fail
  refine (HPa.out _ (by decide) (by decide)).mono ?_
  rintro e w' ⟨rfl, rfl⟩
  go_wp2_with fail
  refine (HPb.out _ (by decide) (by decide)).mono ?_
  rintro e w' ⟨rfl, rfl⟩
  go_wp2_with fail
  refine (HI.out w1 (HT.out _ HB1.out)).mono ?_
  rintro e w2 ⟨rfl, b2⟩
  have HB2 := Lib.hid (below_chain HB1.out (Nat.le_refl _) b2)
  clear b2
  go_wp2_with fail
  refine (HJ.out w2 (HT.out _ HB2.out)).mono ?_
  rintro e w3 ⟨rfl, b3⟩
  have HB3 := Lib.hid (below_chain HB2.out (Nat.le_refl _) b3)
  clear b3
  go_wp2_with fail
  refine (HCi.out w3).mono ?_
  rintro e w' ⟨rfl, rfl⟩
  go_wp2_with fail
  refine (HCj.out w3).mono ?_
  rintro e w' ⟨rfl, rfl⟩
  by_cases hij : i = j
  · subst hij
    go_wp2
    go_ret
    exact ⟨rfl, HB3.out⟩
  · have t1 : ((i : Int) == (j : Int)) = false := by rw [beq_eq_false_iff_ne]; omega
    obtain ⟨n, hn⟩ : ∃ n, n = min (cd i).2 (cd j).2 := ⟨_, rfl⟩
    have hne := HX.out hij n hn
    have hmin : min (((cd i).2 : Nat) : Int) (((cd j).2 : Nat) : Int) = (n : Int) := by omega
    have hn1 : n ≤ (cd i).2 := by omega
    have hn2 : n ≤ (cd j).2 := by omega
    have d2 : (((binS (cd i).1 (cd i).2).extract 0 n).toList == ((binS (cd j).1 (cd j).2).extract 0 n).toList) = false := Bool.eq_false_iff.2 (fun h => hne ((str_eq_iff _ _).1 h))
    clear hij hn hne
    go_wp2
    go_quiet (fail)
    go_wp2
    go_ret
    exact ⟨rfl, HB3.out.trans (below_drewN _ _ _)⟩

set_option maxRecDepth 100000 in
set_option maxHeartbeats 2000000 in
theorem addressWalk_walk {w : World} {a : Option Addr} {len cap : Nat} {xs : List Int} (hR : RowV w.heap.size w a len cap (intV xs)) (hT : Tab2 w) :
    Calls Tryd.prog 8 #[.slice a len cap] w fun e w' => e = .returned (.bool true) ∧ Below w.heap.size w w' := by
  have HR := Lib.hid hR
  have HA := Lib.hid (awake4_any w hT)
  have hlen : xs.length = len := by have := hR.1; simpa using this
  subst hlen
  clear hR hT
  go_enter Tryd.func8, Tryd.ntmps8
  go_wp2_with fail
  refine HA.out.mono ?_
  rintro e w1 ⟨rfl, b1⟩
  have HB1 := Lib.hid b1
  clear b1
  go_wp2_with fail
  go_loop [4, 5] (fun at_ i => ∃ (t : Nat) (x : Int), i = .int .i64 t ∧ t ≤ xs.length ∧ at_ = .int .i64 x ∧ 0 ≤ x ∧ x ≤ 33) (fun _ i => xs.length - (intOf i).toNat)
  case atStart => exact ⟨0, 0, rfl, by omega, rfl, by omega, by omega⟩
  case round =>
    obtain ⟨t, x, rfl, ht, rfl, hx0, hx1⟩ := hrel
    by_cases hlt : t < xs.length
    · have q1 : decide ((t : Int) < (xs.length : Int)) = true := decide_eq_true (by omega)
      by_cases h33 : t < 33
      · obtain ⟨b, off, rfl, hbl, hc⟩ := HR.out.cells (by omega)
        have hcell : w1.cell? ⟨b, off + t, none⟩ = some (.int .i64 (xs[t]?.getD 0)) := (HB1.out.cell (p := ⟨b, off + t, none⟩) hbl).trans (hc t _ (by simp [hlt]))
        clear hc
        generalize xs[t]?.getD 0 = y at *
        have hm := Int.emod_nonneg y (b := 33) (by omega)
        have hm2 := Int.emod_lt_of_pos y (b := 33) (by omega)
        have HP := Lib.hid (pick_any y 33 w1 (by decide) (by decide))
        generalize y % 33 = d at *
        by_cases hs : 33 < x + (1 + d)
        · have HN := Lib.hid (anext_lit x (1 + d) 0 13 (by unfold nextN; rw [if_neg (by omega), if_pos hs]) (by unfold nextE; rw [if_neg (by omega), if_pos hs]) w1)
          go_wp2_with (first | (go_at_call 22; refine HP.out.mono ?_; rintro e w' ⟨rfl, rfl⟩) | (go_at_call 16; refine HN.out.mono ?_; rintro e w' ⟨rfl, rfl⟩))
          go_ret
          exact ⟨rfl, HB1.out⟩
        · have HN := Lib.hid (anext_lit x (1 + d) (x + (1 + d)) 0 (by unfold nextN; rw [if_neg (by omega), if_neg hs]) (by unfold nextE; rw [if_neg (by omega), if_neg hs]) w1)
          obtain ⟨z, hz⟩ : ∃ z, z = x + (1 + d) := ⟨_, rfl⟩
          have hr0 : rowR z = (z - 1) / 11 := by unfold rowR; rw [if_neg (by omega)]
          have hc0 : rowC z = (z - 1) % 11 := by unfold rowC; rw [if_neg (by omega)]
          have HW := Lib.hid (arow_lit z _ _ 0 hr0 hc0 (by unfold rowE; rw [if_neg (by omega)]) w1)
          have hz1 : 1 ≤ z := by omega
          have hz2 : z ≤ 33 := by omega
          obtain ⟨r, hr⟩ : ∃ r, r = (z - 1) / 11 := ⟨_, rfl⟩
          obtain ⟨c, hcc⟩ : ∃ c, c = (z - 1) % 11 := ⟨_, rfl⟩
          rw [← hr, ← hcc] at HW
          have k1 : 0 ≤ r := by omega
          have k2 : r ≤ 2 := by omega
          have k3 : 0 ≤ c := by omega
          have k4 : c ≤ 10 := by omega
          have k5 : (11 * r + c + 1 != z) = false := by rw [bne_eq_false_iff_eq]; omega
          have k6 : (z != x + (1 + d)) = false := by rw [bne_eq_false_iff_eq]; exact hz
          rw [← hz] at HN
          clear hr0 hc0 hr hcc hz
          go_wp2_with (first | (go_at_call 22; refine HP.out.mono ?_; rintro e w' ⟨rfl, rfl⟩) | (go_at_call 16; refine HN.out.mono ?_; rintro e w' ⟨rfl, rfl⟩) | (go_at_call 18; refine HW.out.mono ?_; rintro e w' ⟨rfl, rfl⟩))
          go_round
          case rel => exact ⟨t + 1, z, by go_num, by omega, rfl, by omega, hz2⟩
          case measure => simp [intOf]; omega
      · go_wp2
        go_ret
        exact ⟨rfl, HB1.out⟩
    · have q1 : decide ((t : Int) < (xs.length : Int)) = false := decide_eq_false (by omega)
      go_wp2
      go_ret
      exact ⟨rfl, HB1.out⟩

end Go.Proofs.YtmampneedmodeaaDoor
