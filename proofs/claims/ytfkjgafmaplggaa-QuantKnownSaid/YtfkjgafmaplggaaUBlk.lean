/- quant.check, quant.values, quant.Inter, quant.Intra: what the levels of a block are worth. -/
import Derived.Test.YtfkjgafmaplggaaUGet
import Derived.Test.YtfkjgafmaplggaaNums
namespace Go.Proofs.Ytfkjgafmaplggaa
open Go.RowKit Go.Shelf
set_option linter.unusedVariables false

set_option maxRecDepth 100000 in
set_option maxHeartbeats 1000000 in
theorem checkU_any {n₀ : Nat} {w : World} {av : Option Addr} {len cap : Nat} {xs : List Int} (hR : RowV n₀ w av len cap (intV xs)) (hn : n₀ ≤ w.heap.size) (hlen : len ≤ 1000000) (q : Int) :
    Calls Try.prog 35 #[.slice av len cap, .int .i64 q] w fun e w' => e = .returned (.int .i64 (interU xs q).1) ∧ w = w' := by
  have hl : xs.length = len := by have := hR.1; simpa using this
  have HL := Lib.hid (fun x W => isLevelU_any x W)
  have HQ := Lib.hid (fun W => isQuantU_any q W)
  have HR := Lib.hid hR
  clear hR
  by_cases h64 : len = 64
  · subst h64
    obtain ⟨R, hRes⟩ : ∃ R, (interU xs q).1 = R := ⟨_, rfl⟩
    rw [hRes]
    have HRes := Lib.hid hRes
    clear hRes
    go_enter Try.func35, Try.ntmps35
    go_wp2_with fail
    go_loop [12] (fun i => ∃ k : Nat, i = .int .i64 k ∧ k ≤ 64 ∧ ∀ j, j < k → okLU (xs[j]?.getD 0) = true) (fun i => 64 - (intOf i).toNat)
    case atStart => exact ⟨0, rfl, by omega, fun j hj => by omega⟩
    case round =>
      obtain ⟨k, rfl, hk, hno⟩ := hrel
      have HNo := Lib.hid hno
      clear hno
      by_cases hk2 : k < 64
      · obtain ⟨b, off, rfl, hb, hc⟩ := HR.out.cells (by omega)
        have x1 := hc k (.int .i64 (xs[k]?.getD 0)) (by simp [show k < xs.length by omega])
        have hA := @not_allU xs k (by omega)
        have z1 : (k : Int) < 64 := by omega
        have HLx := Lib.hid (fun W => HL.out (xs[k]?.getD 0) W)
        have HSt : Hid (okLU (xs[k]?.getD 0) = true → ∀ j, j < k + 1 → okLU (xs[j]?.getD 0) = true) := by
          show okLU (xs[k]?.getD 0) = true → ∀ j, j < k + 1 → okLU (xs[j]?.getD 0) = true
          intro h j hj
          by_cases e : j = k
          · rw [e]; exact h
          · exact HNo.out j (by omega)
        clear hc
        generalize xs[k]?.getD 0 = x at *
        cases hin : okLU x with
        | true =>
          rw [hin] at HLx
          have HS2 := Lib.hid (HSt.out hin)
          clear hA HSt hin
          go_wp2_with (go_at_call 29; refine (HLx.out _).mono ?_; rintro e w' ⟨rfl, rfl⟩)
          go_round
          case rel => exact ⟨k + 1, by go_num, by omega, HS2.out⟩
          case measure => simp [intOf]; omega
        | false =>
          rw [hin] at HLx
          have HA : Hid (R = 3) := by show R = 3; rw [← HRes.out, interU_bad hl (.inl (hA hin))]
          clear hA HSt hin
          go_wp2_with (go_at_call 29; refine (HLx.out _).mono ?_; rintro e w' ⟨rfl, rfl⟩)
          go_ret
          exact ⟨ret_int HA.out.symm, rfl⟩
      · obtain rfl : k = 64 := by omega
        have HA : Hid (xs.all okLU = true) := (allU_iff xs).2 (fun j hj => HNo.out j (by omega))
        cases hq : okQU q with
        | false =>
          rw [hq] at HQ
          have HA2 : Hid (R = 3) := by show R = 3; rw [← HRes.out, interU_bad hl (.inr hq)]
          clear hq
          go_wp2_with (go_at_call 30; refine (HQ.out _).mono ?_; rintro e w' ⟨rfl, rfl⟩)
          go_ret
          exact ⟨ret_int HA2.out.symm, rfl⟩
        | true =>
          rw [hq] at HQ
          have HA2 : Hid (R = 0) := by show R = 0; rw [← HRes.out, interU_ok hl HA.out hq]
          clear hq
          go_wp2_with (go_at_call 30; refine (HQ.out _).mono ?_; rintro e w' ⟨rfl, rfl⟩)
          go_ret
          exact ⟨ret_int HA2.out.symm, rfl⟩
  · rw [interU_len q (by omega)]
    have e1 : ((len : Int) != 64) = true := by simp; omega
    go_enter Try.func35, Try.ntmps35
    go_wp2
    go_ret
    exact ⟨rfl, rfl⟩

set_option maxRecDepth 100000 in
set_option maxHeartbeats 1000000 in
theorem valuesU_any {n₀ : Nat} {w : World} {av : Option Addr} {cap : Nat} {xs : List Int} (hR : RowV n₀ w av 64 cap (intV xs)) (hn : n₀ ≤ w.heap.size) (q : Int) (hA : xs.all okLU = true) (hq : okQU q = true) :
    Calls Try.prog 36 #[.slice av 64 cap, .int .i64 q] w fun e w' => ∃ g, e = .returned (.slice (some ⟨g, 0, none⟩) 64 64) ∧ w.heap.size ≤ g ∧ NumsAt w' g 3 (xs.map fun l => worthU l q) ∧ Below w.heap.size w w' := by
  have hl : xs.length = 64 := by have := hR.1; simpa using this
  have HR := Lib.hid hR
  have HV := Lib.hid (fun l hl W => worth_any l q hl hq W)
  have HA := Lib.hid ((allU_iff xs).1 hA)
  have hmk := made64
  have HB0 := Lib.hid (ints64_new w 3 zeros64)
  have HN0 := Lib.hid (numsAt_new w 3 zeros64)
  have HE := Lib.hid (fillU_all q hl)
  have HSt := Lib.hid (fun k hk => @fillU_step xs q k hl hk)
  have HFl := Lib.hid (fun k hk => @fillU_length xs q k hl hk)
  have HZ := Lib.hid (show NumsAt (w.alloc (.cells (numsA zeros64) 3)) w.heap.size 3 (fillU xs q 0) by rw [fillU_zero]; exact HN0.out)
  clear hR hA hq HN0
  go_enter Try.func36, Try.ntmps36
  go_wp2_with fail
  generalize w.alloc (.cells (numsA zeros64) 3 (0, 0)) = w1 at *
  clear hmk
  go_loopw [13] (fun i wr => ∃ k : Nat, i = .int .i64 k ∧ k ≤ 64 ∧ NumsAt wr w.heap.size 3 (fillU xs q k) ∧ Below w.heap.size w wr) (fun i _ => 64 - (intOf i).toNat)
  case atStart => exact ⟨0, rfl, by omega, HZ.out, HB0.out⟩
  case round =>
    obtain ⟨k, rfl, hk, hN, hB⟩ := hrel
    have HN := Lib.hid hN
    have HB := Lib.hid hB
    clear hN hB
    by_cases hk2 : k < 64
    · obtain ⟨b, off, rfl, hb, hc⟩ := HR.out.cells (by omega)
      have x1 := (HB.out.cell (p := ⟨b, off + k, none⟩) (by simp; omega)).trans (hc k (.int .i64 (xs[k]?.getD 0)) (by simp [show k < xs.length by omega]))
      have z1 : (k : Int) < 64 := by omega
      have HVx := Lib.hid (HV.out (xs[k]?.getD 0) (HA.out k (by omega)))
      have HS2 := Lib.hid (HSt.out k hk2)
      have HF2 := Lib.hid (HFl.out k hk)
      have hgw := HN.out.lt
      clear hc
      generalize xs[k]?.getD 0 = x at *
      generalize worthU x q = y at *
      generalize fillU xs q k = F at *
      go_wp2_with (go_at_call 31; refine (HVx.out _).mono ?_; rintro e w2 ⟨rfl, b2⟩; have HB2 := Lib.hid (HB.out.trans (b2.mono HB.out.size)); have HN2 := Lib.hid (HN.out.below b2 hgw); clear b2; have c2 := HN2.out.cell (k := k) (by rw [HF2.out]; omega); have f2 := HN2.out.frozen k)
      go_roundw
      case rel => exact ⟨k + 1, by go_num, by omega, by rw [← HS2.out]; exact HN2.out.set k y, HB2.out.setCell (p := ⟨w.heap.size, k, none⟩) (Nat.le_refl _) (.int .i64 y)⟩
      case measure => simp [intOf]; omega
    · obtain rfl : k = 64 := by omega
      go_wp2_with fail
      go_ret
      exact ⟨_, rfl, Nat.le_refl _, by rw [← HE.out]; exact HN.out, HB.out⟩

set_option maxHeartbeats 1000000 in
theorem interU_any {n₀ : Nat} {w : World} {av : Option Addr} {len cap : Nat} {xs : List Int} (hR : RowV n₀ w av len cap (intV xs)) (hn : n₀ ≤ w.heap.size) (hlen : len ≤ 1000000) (q : Int) :
    Calls Try.prog 18 #[.slice av len cap, .int .i64 q] w fun e w' => ∃ v, e = .returned (.tuple #[v, .int .i64 (interU xs q).1]) ∧ OwnI w' w.heap.size v (interU xs q).2 ∧ Below w.heap.size w w' := by
  have HC := Lib.hid (checkU_any hR hn hlen q)
  have hl : xs.length = len := by have := hR.1; simpa using this
  rcases interU_cases xs q with h | h | ⟨h64, hA, hq, h⟩
  · rw [h] at HC ⊢
    clear h hR
    go_enter Try.func18, Try.ntmps18
    go_wp2_with (go_at_call 35; refine HC.out.mono ?_; rintro e w' ⟨rfl, rfl⟩)
    go_ret2
    exact ⟨_, rfl, ownI_nil _ _, Below.refl _ _⟩
  · rw [h] at HC ⊢
    clear h hR
    go_enter Try.func18, Try.ntmps18
    go_wp2_with (go_at_call 35; refine HC.out.mono ?_; rintro e w' ⟨rfl, rfl⟩)
    go_ret2
    exact ⟨_, rfl, ownI_nil _ _, Below.refl _ _⟩
  · obtain rfl : len = 64 := by omega
    have HV := Lib.hid (valuesU_any hR hn q hA hq)
    rw [h] at HC ⊢
    have h2 : (xs.map fun l => worthU l q).length = 64 := by simpa using h64
    clear h hR hA hq h64 hl
    generalize (xs.map fun l => worthU l q) = ys at *
    go_enter Try.func18, Try.ntmps18
    go_wp2_with (first
      | (go_at_call 35; refine HC.out.mono ?_; rintro e w' ⟨rfl, rfl⟩)
      | (go_at_call 36; refine HV.out.mono ?_; rintro e w' ⟨g, rfl, hg, hN, hb⟩))
    go_ret2
    exact ⟨_, rfl, ⟨3, by rw [h2]; exact hN.own h2 hg⟩, hb⟩

theorem intraU_err {xs : List Int} {q c : Int} (h : (interU xs q).1 ≠ 0) : intraU xs q c = ((interU xs q).1, []) := by unfold intraU; rw [if_pos h]
theorem intraU_dc {xs : List Int} {q c : Int} (h : (interU xs q).1 = 0) (h2 : (dcU c).2 ≠ 0) : intraU xs q c = ((dcU c).2, []) := by unfold intraU; rw [if_neg (by omega), if_pos h2]
theorem intraU_ok {xs : List Int} {q c : Int} (h : (interU xs q).1 = 0) (h2 : (dcU c).2 = 0) : intraU xs q c = (0, (interU xs q).2.set 0 (dcU c).1) := by unfold intraU; rw [if_neg (by omega), if_neg (by omega)]
set_option maxHeartbeats 1000000 in
theorem intraU_any {n₀ : Nat} {w : World} {av : Option Addr} {len cap : Nat} {xs : List Int} (hR : RowV n₀ w av len cap (intV xs)) (hn : n₀ ≤ w.heap.size) (hlen : len ≤ 1000000) (q c : Int) :
    Calls Try.prog 20 #[.slice av len cap, .int .i64 q, .int .i64 c] w fun e w' => ∃ v, e = .returned (.tuple #[v, .int .i64 (intraU xs q c).1]) ∧ OwnI w' w.heap.size v (intraU xs q c).2 ∧ Below w.heap.size w w' := by
  have HC := Lib.hid (checkU_any hR hn hlen q)
  have HD := Lib.hid (fun W => dcU_any c W)
  have hl : xs.length = len := by have := hR.1; simpa using this
  rcases interU_cases xs q with h | h | ⟨h64, hA, hq, h⟩
  · rw [intraU_err (by rw [h]; decide)]
    rw [h] at HC ⊢
    clear h hR
    go_enter Try.func20, Try.ntmps20
    go_wp2_with (go_at_call 35; refine HC.out.mono ?_; rintro e w' ⟨rfl, rfl⟩)
    go_ret2
    exact ⟨_, rfl, ownI_nil _ _, Below.refl _ _⟩
  · rw [intraU_err (by rw [h]; decide)]
    rw [h] at HC ⊢
    clear h hR
    go_enter Try.func20, Try.ntmps20
    go_wp2_with (go_at_call 35; refine HC.out.mono ?_; rintro e w' ⟨rfl, rfl⟩)
    go_ret2
    exact ⟨_, rfl, ownI_nil _ _, Below.refl _ _⟩
  · obtain rfl : len = 64 := by omega
    have HV := Lib.hid (valuesU_any hR hn q hA hq)
    by_cases hd : (dcU c).2 = 0
    · rw [intraU_ok (by rw [h]) hd]
      rw [h] at HC ⊢
      rw [hd] at HD
      have h2 : (xs.map fun l => worthU l q).length = 64 := by simpa using h64
      clear h hR hA hq h64 hl hd
      simp only
      generalize (xs.map fun l => worthU l q) = ys at *
      generalize (dcU c).1 = d at *
      have hys : (ys.set 0 d).length = 64 := by simpa using h2
      go_enter Try.func20, Try.ntmps20
      go_wp2_with (first
        | (go_at_call 35; refine HC.out.mono ?_; rintro e w' ⟨rfl, rfl⟩)
        | (go_at_call 12; refine (HD.out _).mono ?_; rintro e w' ⟨rfl, rfl⟩)
        | (go_at_call 36; refine HV.out.mono ?_; rintro e w' ⟨g, rfl, hg, hN, hb⟩; have HN := Lib.hid hN; have c2 := hN.cell (k := 0) (by rw [h2]; omega); have f2 := hN.frozen 0; clear hN))
      go_ret2
      exact ⟨_, rfl, ⟨3, by rw [hys]; exact (HN.out.set 0 d).own hys hg⟩, hb.setCell (p := ⟨g, 0, none⟩) hg _⟩
    · rw [intraU_dc (by rw [h]) hd]
      rw [h] at HC
      have hne : ((dcU c).2 != 0) = true := by simpa using hd
      clear h hR hA hq h64 hl hd HV
      generalize (dcU c).2 = E at *
      generalize (dcU c).1 = d at *
      go_enter Try.func20, Try.ntmps20
      go_wp2_with (first
        | (go_at_call 35; refine HC.out.mono ?_; rintro e w' ⟨rfl, rfl⟩)
        | (go_at_call 12; refine (HD.out _).mono ?_; rintro e w' ⟨rfl, rfl⟩))
      go_ret2
      exact ⟨_, rfl, ownI_nil _ _, Below.refl _ _⟩

end Go.Proofs.Ytfkjgafmaplggaa
