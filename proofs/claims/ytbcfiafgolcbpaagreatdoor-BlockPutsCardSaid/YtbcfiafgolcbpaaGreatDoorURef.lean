/- The reference's answers for quant (praxinoscoperef10). The reference's Inter and Intra. -/
import Derived.Test.YtbcfiafgolcbpaaGreatDoorUBlk
import Derived.Test.YtbcfiafgolcbpaaGreatDoorZArr
/- The reference's answers for quant (praxinoscoperef10). -/
namespace Go.Proofs.YtbcfiafgolcbpaaGreatDoor
open Go.RowKit Go.Shelf
set_option linter.unusedVariables false

theorem r10level_any (x : Int) (w : World) : Calls Tryz.prog 103 #[.int .i64 x] w fun e w' => e = .returned (.bool (okLU x)) ∧ w = w' := by
  by_cases h1 : -127 ≤ x
  · have hr : okLU x = decide (x ≤ 127) := by simp [okLU, h1]
    rw [hr]
    clear hr
    by_cases h2 : x ≤ 127
    · go_enter Tryz.func103, Tryz.ntmps103
      go_wp2
      go_ret
      exact ⟨by simp [h2], rfl⟩
    · go_enter Tryz.func103, Tryz.ntmps103
      go_wp2
      go_ret
      exact ⟨by simp [h2], rfl⟩
  · have hr : okLU x = false := by simp [okLU, h1]
    rw [hr]
    clear hr
    go_enter Tryz.func103, Tryz.ntmps103
    go_wp2
    go_ret
    exact ⟨rfl, rfl⟩
theorem r10quant_any (x : Int) (w : World) : Calls Tryz.prog 104 #[.int .i64 x] w fun e w' => e = .returned (.bool (okQU x)) ∧ w = w' := by
  by_cases h1 : 1 ≤ x
  · have hr : okQU x = decide (x ≤ 31) := by simp [okQU, h1]
    rw [hr]
    clear hr
    by_cases h2 : x ≤ 31
    · go_enter Tryz.func104, Tryz.ntmps104
      go_wp2
      go_ret
      exact ⟨by simp [h2], rfl⟩
    · go_enter Tryz.func104, Tryz.ntmps104
      go_wp2
      go_ret
      exact ⟨by simp [h2], rfl⟩
  · have hr : okQU x = false := by simp [okQU, h1]
    rw [hr]
    clear hr
    go_enter Tryz.func104, Tryz.ntmps104
    go_wp2
    go_ret
    exact ⟨rfl, rfl⟩

theorem r10value_any (l q : Int) (w : World) : Calls Tryz.prog 78 #[.int .i64 l, .int .i64 q] w fun e w' => e = .returned (.tuple #[.int .i64 (valueU l q).1, .int .i64 (valueU l q).2]) ∧ w = w' := by
  have HL := Lib.hid (fun W => r10level_any l W)
  have HQ := Lib.hid (fun W => r10quant_any q W)
  cases hl : okLU l with
  | false =>
    have hv : valueU l q = (0, 3) := by unfold valueU; rw [hl]; rfl
    rw [hv]
    rw [hl] at HL
    clear hl hv
    go_enter Tryz.func78, Tryz.ntmps78
    go_wp2_with (go_at_call 103; refine (HL.out _).mono ?_; rintro e w1 ⟨rfl, rfl⟩)
    go_ret2
    exact ⟨rfl, rfl⟩
  | true =>
    rw [hl] at HL
    cases hq : okQU q with
    | false =>
      have hv : valueU l q = (0, 3) := by unfold valueU; rw [hl, hq]; rfl
      rw [hv]
      rw [hq] at HQ
      clear hl hq hv
      go_enter Tryz.func78, Tryz.ntmps78
      go_wp2_with (first
        | (go_at_call 103; refine (HL.out _).mono ?_; rintro e w1 ⟨rfl, rfl⟩)
        | (go_at_call 104; refine (HQ.out _).mono ?_; rintro e w1 ⟨rfl, rfl⟩))
      go_ret2
      exact ⟨rfl, rfl⟩
    | true =>
      rw [valueU_ok hl hq]
      rw [hq] at HQ
      obtain ⟨l1, l2⟩ := (okLU_iff l).1 hl
      obtain ⟨q1, q2⟩ := (okQU_iff q).1 hq
      have he := Int.tmod_eq_emod_of_nonneg (b := 2) (show 0 ≤ q by omega)
      clear hl hq
      rcases Int.lt_trichotomy l 0 with h1 | h1 | h1
      · have hb1 : q * (2 * -l + 1) ≤ 31 * 255 := Int.mul_le_mul q2 (by omega) (by omega) (by omega)
        have hb2 : 1 * 3 ≤ q * (2 * -l + 1) := Int.mul_le_mul q1 (by omega) (by omega) (by omega)
        have hm : max l (-l) = -l := by omega
        have e0 : (l == 0) = false := by simp; omega
        by_cases hr : q % 2 = 0
        · have hr2 : Int.tmod q 2 = 0 := by rw [he, hr]
          have hb3 : 2 * 3 ≤ q * (2 * -l + 1) := Int.mul_le_mul (by omega) (by omega) (by omega) (by omega)
          have hW : worthU l q = -min (q * (2 * -l + 1) - 1) 2048 := by unfold worthU farU; rw [if_neg (by omega), if_pos h1, if_pos hr]; omega
          rw [hW]
          clear hW he
          go_enter Tryz.func78, Tryz.ntmps78
          go_wp2_with (first
            | (go_at_call 103; refine (HL.out _).mono ?_; rintro e w1 ⟨rfl, rfl⟩)
            | (go_at_call 104; refine (HQ.out _).mono ?_; rintro e w1 ⟨rfl, rfl⟩))
          go_ret2
          exact ⟨rfl, rfl⟩
        · have hr2 : Int.tmod q 2 = 1 := by rw [he]; omega
          have hW : worthU l q = -min (q * (2 * -l + 1)) 2048 := by unfold worthU farU; rw [if_neg (by omega), if_pos h1, if_neg hr]; omega
          rw [hW]
          clear hW he
          go_enter Tryz.func78, Tryz.ntmps78
          go_wp2_with (first
            | (go_at_call 103; refine (HL.out _).mono ?_; rintro e w1 ⟨rfl, rfl⟩)
            | (go_at_call 104; refine (HQ.out _).mono ?_; rintro e w1 ⟨rfl, rfl⟩))
          go_ret2
          exact ⟨rfl, rfl⟩
      · subst h1
        rw [worthU_zero]
        go_enter Tryz.func78, Tryz.ntmps78
        go_wp2_with (first
          | (go_at_call 103; refine (HL.out _).mono ?_; rintro e w1 ⟨rfl, rfl⟩)
          | (go_at_call 104; refine (HQ.out _).mono ?_; rintro e w1 ⟨rfl, rfl⟩))
        go_ret2
        exact ⟨rfl, rfl⟩
      · have hb1 : q * (2 * l + 1) ≤ 31 * 255 := Int.mul_le_mul q2 (by omega) (by omega) (by omega)
        have hb2 : 1 * 3 ≤ q * (2 * l + 1) := Int.mul_le_mul q1 (by omega) (by omega) (by omega)
        have hm : max l (-l) = l := by omega
        have e0 : (l == 0) = false := by simp; omega
        by_cases hr : q % 2 = 0
        · have hr2 : Int.tmod q 2 = 0 := by rw [he, hr]
          have hW : worthU l q = min (q * (2 * l + 1) - 1) 2047 := by unfold worthU farU; rw [if_pos h1, if_pos hr]; omega
          rw [hW]
          clear hW he
          go_enter Tryz.func78, Tryz.ntmps78
          go_wp2_with (first
            | (go_at_call 103; refine (HL.out _).mono ?_; rintro e w1 ⟨rfl, rfl⟩)
            | (go_at_call 104; refine (HQ.out _).mono ?_; rintro e w1 ⟨rfl, rfl⟩))
          go_ret2
          exact ⟨rfl, rfl⟩
        · have hr2 : Int.tmod q 2 = 1 := by rw [he]; omega
          have hW : worthU l q = min (q * (2 * l + 1)) 2047 := by unfold worthU farU; rw [if_pos h1, if_neg hr]; omega
          rw [hW]
          clear hW he
          go_enter Tryz.func78, Tryz.ntmps78
          go_wp2_with (first
            | (go_at_call 103; refine (HL.out _).mono ?_; rintro e w1 ⟨rfl, rfl⟩)
            | (go_at_call 104; refine (HQ.out _).mono ?_; rintro e w1 ⟨rfl, rfl⟩))
          go_ret2
          exact ⟨rfl, rfl⟩

theorem r10dc_any (c : Int) (w : World) : Calls Tryz.prog 79 #[.int .i64 c] w fun e w' => e = .returned (.tuple #[.int .i64 (dcU c).1, .int .i64 (dcU c).2]) ∧ w = w' := by
  by_cases h0 : c < 0
  · have hv : dcU c = (0, 3) := by unfold dcU; rw [if_pos (.inl h0)]
    rw [hv]
    clear hv
    go_enter Tryz.func79, Tryz.ntmps79
    go_wp2
    go_ret2
    exact ⟨rfl, rfl⟩
  by_cases h1 : 255 < c
  · have hv : dcU c = (0, 3) := by unfold dcU; rw [if_pos (.inr h1)]
    rw [hv]
    clear hv
    go_enter Tryz.func79, Tryz.ntmps79
    go_wp2
    go_ret2
    exact ⟨rfl, rfl⟩
  by_cases h2 : c = 0
  · subst h2
    go_enter Tryz.func79, Tryz.ntmps79
    go_wp2
    go_ret2
    exact ⟨rfl, rfl⟩
  by_cases h3 : c = 128
  · subst h3
    go_enter Tryz.func79, Tryz.ntmps79
    go_wp2
    go_ret2
    exact ⟨rfl, rfl⟩
  by_cases h4 : c = 255
  · subst h4
    go_enter Tryz.func79, Tryz.ntmps79
    go_wp2
    go_ret2
    exact ⟨rfl, rfl⟩
  have hv : dcU c = (8 * c, 0) := by unfold dcU; rw [if_neg (by omega), if_neg (by omega), if_neg h4]
  have e1 : (c == 0) = false := by simpa using h2
  have e2 : (c == 128) = false := by simpa using h3
  have e3 : (c == 255) = false := by simpa using h4
  rw [hv]
  clear hv
  go_enter Tryz.func79, Tryz.ntmps79
  go_wp2
  go_ret2
  exact ⟨rfl, rfl⟩

end Go.Proofs.YtbcfiafgolcbpaaGreatDoor

/- The reference's Inter and Intra. -/
namespace Go.Proofs.YtbcfiafgolcbpaaGreatDoor
open Go.RowKit Go.Shelf
set_option linter.unusedVariables false

theorem valueU_bad {l q : Int} (h : okLU l = false ∨ okQU q = false) : valueU l q = (0, 3) := by
  unfold valueU
  rcases h with h | h <;> rw [h] <;> simp
/-- so many values -/
abbrev preU (xs : List Int) (q : Int) (k : Nat) : List Int := (xs.take k).map fun l => worthU l q
theorem preU_snoc {xs : List Int} (q : Int) {k : Nat} (hk : k < xs.length) : intV (preU xs q k) ++ [.int .i64 (worthU (xs[k]?.getD 0) q)] = intV (preU xs q (k + 1)) := by
  unfold preU
  rw [List.take_succ_eq_append_getElem hk, List.getElem?_eq_getElem hk, List.map_append]
  unfold intV
  rw [List.map_append]
  rfl
theorem ret_snd {k : IntKind} {v : Value} {a b : Int} (h : a = b) : Ending.returned (.tuple #[v, .int k a]) = .returned (.tuple #[v, .int k b]) := by rw [h]
set_option maxRecDepth 100000 in
set_option maxHeartbeats 1000000 in
theorem r10inter_any {n₀ : Nat} {w : World} {av : Option Addr} {len cap : Nat} {xs : List Int} (hR : RowV n₀ w av len cap (intV xs)) (hn : n₀ ≤ w.heap.size) (hlen : len ≤ 1000000) (q : Int) :
    Calls Tryz.prog 49 #[.slice av len cap, .int .i64 q] w fun e w' => ∃ v, e = .returned (.tuple #[v, .int .i64 (interU xs q).1]) ∧ w'.ownsRow w.heap.size 3 1 v (interU xs q).2.length (intV (interU xs q).2) ∧ Below w.heap.size w w' := by
  have hl : xs.length = len := by have := hR.1; simpa using this
  have HR := Lib.hid hR
  clear hR
  by_cases h64 : len = 64
  · subst h64
    obtain ⟨i2, hi2', hz20, hz21, hz22⟩ := info_parts Tryz.info3y
    have HV := Lib.hid (fun l W => r10value_any l q W)
    obtain ⟨R, hRes⟩ : ∃ R, interU xs q = R := ⟨_, rfl⟩
    rw [hRes]
    have HRes := Lib.hid hRes
    clear hRes
    go_enter Tryz.func49, Tryz.ntmps49
    go_wp2_with fail
    go_loopw [6, 7] (fun v i wr => ∃ k : Nat, i = .int .i64 k ∧ k ≤ 64 ∧ (∀ j, j < k → okLU (xs[j]?.getD 0) = true ∧ okQU q = true) ∧ wr.ownsRow w.heap.size 3 1 v k (intV (preU xs q k)) ∧ Below w.heap.size w wr) (fun _ i _ => 64 - (intOf i).toNat)
    case atStart => exact ⟨0, rfl, by omega, fun j hj => by omega, World.ownsRow_nil _ _ _ _, Below.refl _ _⟩
    case round =>
      obtain ⟨k, rfl, hk, hno, ho, hb⟩ := hrel
      have HNo := Lib.hid hno
      have HO := Lib.hid ho
      have HB := Lib.hid hb
      have hs := hb.size
      clear hno ho hb
      by_cases hk2 : k < 64
      · obtain ⟨b, off, rfl, hbl, hc⟩ := HR.out.cells (by omega)
        have x1 := (HB.out.cell (p := ⟨b, off + k, none⟩) (by simp; omega)).trans (hc k (.int .i64 (xs[k]?.getD 0)) (by simp [show k < xs.length by omega]))
        have z1 : (k : Int) < 64 := by omega
        have HVx := Lib.hid (fun W => HV.out (xs[k]?.getD 0) W)
        have HSn := Lib.hid (@preU_snoc xs q k (by omega))
        have hA := @not_allU xs k (by omega)
        have HSt : Hid (okLU (xs[k]?.getD 0) = true → okQU q = true → ∀ j, j < k + 1 → okLU (xs[j]?.getD 0) = true ∧ okQU q = true) := by
          show okLU (xs[k]?.getD 0) = true → okQU q = true → ∀ j, j < k + 1 → okLU (xs[j]?.getD 0) = true ∧ okQU q = true
          intro h h2 j hj
          by_cases e : j = k
          · rw [e]; exact ⟨h, h2⟩
          · exact HNo.out j (by omega)
        clear hc
        generalize xs[k]?.getD 0 = x at *
        by_cases hbad : okLU x = false ∨ okQU q = false
        · have HBad : Hid (R = (3, [])) := by
            show R = (3, [])
            rw [← HRes.out, interU_bad hl]
            rcases hbad with h | h
            · exact .inl (hA h)
            · exact .inr h
          rw [valueU_bad hbad] at HVx
          clear hA HSt hbad
          go_wp2_with (go_at_call 78; refine (HVx.out _).mono ?_; rintro e w1 ⟨rfl, rfl⟩)
          go_ret2
          exact ⟨_, ret_snd (by rw [HBad.out]), by rw [HBad.out]; exact World.ownsRow_nil _ _ _ _, HB.out⟩
        · have g1 : okLU x = true := by cases e : okLU x <;> simp_all
          have g2 : okQU q = true := by cases e : okQU q <;> simp_all
          have HS2 := Lib.hid (HSt.out g1 g2)
          rw [valueU_ok g1 g2] at HVx
          clear hA HSt hbad g1 g2
          generalize worthU x q = y at *
          go_wp2_with (first
            | (go_at_call 78; refine (HVx.out _).mono ?_; rintro e w1 ⟨rfl, rfl⟩)
            | (at_builtin; go_loud (refine wpList_append_v rfl _ _ 38 3 i2 (.int .i64 0) 8 rfl Tryz.underlying38y hi2' hz20 hz21 hz22 rfl w.heap.size _ k _ rfl (HO.out.alloc _) (some ⟨wr.heap.size, 0, none⟩) 1 1 [.int .i64 y] rfl (src_one _ _ _) (fun e => nomatch e) (by simp [Value.oneCell']) (by omega) (by omega) (by simp; omega) ?_); intro v1 w1 hap; have HA := Lib.hid hap; clear hap))
          go_roundw
          case rel =>
            refine ⟨k + 1, by go_num, by omega, HS2.out, ?_, ?_⟩
            · rw [← HSn.out]
              exact HA.out.1
            · exact (HB.out.alloc (by omega) _).grown HA.out.2.1 (by simp; omega) (fun j e => (HO.out.lt j e).1)
          case measure => simp [intOf]; omega
      · obtain rfl : k = 64 := by omega
        have HFin : Hid (R = (0, preU xs q 64) ∧ (preU xs q 64).length = 64) := by
          refine ⟨?_, by simp [preU]; omega⟩
          rw [← HRes.out, interU_ok hl ((allU_iff xs).2 (fun j hj => (HNo.out j (by omega)).1)) (HNo.out 0 (by omega)).2]
          unfold preU
          rw [List.take_of_length_le (by omega)]
        go_wp2
        go_ret2
        exact ⟨_, ret_snd (by rw [HFin.out.1]), by rw [HFin.out.1]; simp only; rw [HFin.out.2]; exact HO.out, HB.out⟩
  · rw [interU_len q (by omega)]
    have e1 : ((len : Int) != 64) = true := by simp; omega
    go_enter Tryz.func49, Tryz.ntmps49
    go_wp2
    go_ret2
    exact ⟨_, rfl, World.ownsRow_nil _ _ _ _, Below.refl _ _⟩

theorem interU_len64 {xs : List Int} {q : Int} (h : (interU xs q).1 = 0) : (interU xs q).2.length = 64 := by
  rcases interU_cases xs q with e | e | ⟨h1, _, _, e⟩
  · rw [e] at h; exact absurd h (by decide)
  · rw [e] at h; exact absurd h (by decide)
  · rw [e]; simpa using h1
theorem interU_nil {xs : List Int} {q : Int} (h : (interU xs q).1 ≠ 0) : (interU xs q).2 = [] := by
  rcases interU_cases xs q with e | e | ⟨h1, _, _, e⟩
  · rw [e]
  · rw [e]
  · rw [e] at h; exact absurd rfl h
theorem intraU_err' {xs : List Int} {q c : Int} (h : (interU xs q).1 ≠ 0) : intraU xs q c = ((interU xs q).1, []) := by unfold intraU; rw [if_pos h]
theorem intraU_dc' {xs : List Int} {q c : Int} (h : (interU xs q).1 = 0) (h2 : (dcU c).2 ≠ 0) : intraU xs q c = ((dcU c).2, []) := by unfold intraU; rw [if_neg (by omega), if_pos h2]
theorem intraU_ok' {xs : List Int} {q c : Int} (h : (interU xs q).1 = 0) (h2 : (dcU c).2 = 0) : intraU xs q c = (0, (interU xs q).2.set 0 (dcU c).1) := by unfold intraU; rw [if_neg (by omega), if_neg (by omega)]
set_option maxHeartbeats 1000000 in
theorem r10intra_any {n₀ : Nat} {w : World} {av : Option Addr} {len cap : Nat} {xs : List Int} (hR : RowV n₀ w av len cap (intV xs)) (hn : n₀ ≤ w.heap.size) (hlen : len ≤ 1000000) (q c : Int) :
    Calls Tryz.prog 50 #[.slice av len cap, .int .i64 q, .int .i64 c] w fun e w' => ∃ v, e = .returned (.tuple #[v, .int .i64 (intraU xs q c).1]) ∧ w'.ownsRow w.heap.size 3 1 v (intraU xs q c).2.length (intV (intraU xs q c).2) ∧ Below w.heap.size w w' := by
  have HC := Lib.hid (r10inter_any hR hn hlen q)
  have HD := Lib.hid (fun W => r10dc_any c W)
  clear hR
  by_cases h : (interU xs q).1 = 0
  · have h64 := interU_len64 h
    by_cases hd : (dcU c).2 = 0
    · rw [intraU_ok' h hd]
      rw [h] at HC
      rw [hd] at HD
      clear h hd
      simp only [List.length_set]
      generalize (interU xs q).2 = ys at *
      rw [h64] at HC ⊢
      generalize (dcU c).1 = d at *
      go_enter Tryz.func50, Tryz.ntmps50
      go_wp2_with (first
        | (go_at_call 49; refine HC.out.mono ?_; rintro e w' ⟨v, rfl, ho, hb⟩; obtain ⟨g, cap2, rfl, hg, c2, f2, ho2⟩ := own_put ho (k := 0) (by omega) d; have HO2 := Lib.hid ho2; clear ho ho2)
        | (go_at_call 79; refine (HD.out _).mono ?_; rintro e w' ⟨rfl, rfl⟩))
      go_ret2
      exact ⟨_, rfl, HO2.out, hb.setCell (p := ⟨g, 0, none⟩) hg _⟩
    · rw [intraU_dc' h hd]
      rw [h] at HC
      have hne : ((dcU c).2 != 0) = true := by simpa using hd
      clear h hd
      generalize (interU xs q).2 = ys at *
      generalize (dcU c).2 = E at *
      generalize (dcU c).1 = d at *
      go_enter Tryz.func50, Tryz.ntmps50
      go_wp2_with (first
        | (go_at_call 49; refine HC.out.mono ?_; rintro e w' ⟨v, rfl, ho, hb⟩)
        | (go_at_call 79; refine (HD.out _).mono ?_; rintro e w' ⟨rfl, rfl⟩))
      go_ret2
      exact ⟨_, rfl, World.ownsRow_nil _ _ _ _, hb⟩
  · rw [intraU_err' h]
    have hne : ((interU xs q).1 != 0) = true := by simpa using h
    clear h
    generalize (interU xs q).1 = E at *
    generalize (interU xs q).2 = ys at *
    go_enter Tryz.func50, Tryz.ntmps50
    go_wp2_with (go_at_call 49; refine HC.out.mono ?_; rintro e w' ⟨v, rfl, ho, hb⟩)
    go_ret2
    exact ⟨_, rfl, World.ownsRow_nil _ _ _ _, hb⟩

end Go.Proofs.YtbcfiafgolcbpaaGreatDoor
