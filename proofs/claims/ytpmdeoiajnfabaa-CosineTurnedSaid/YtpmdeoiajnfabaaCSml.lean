/- cosine's isPlace, rounded, check, Weight, Line. -/
import Derived.Test.YtpmdeoiajnfabaaCLine
namespace Go.Proofs.Ytpmdeoiajnfabaa
open Go.RowKit Go.Shelf
set_option linter.unusedVariables false

theorem isPlace_any (x : Int) (w : World) : Calls Try.prog 30 #[.int .i64 x] w fun e w' => e = .returned (.bool (okPC x)) ∧ w = w' := by
  by_cases h1 : 0 ≤ x
  · have hr : okPC x = decide (x < 8) := by simp [okPC, h1]
    rw [hr]
    clear hr
    by_cases h2 : x < 8
    · go_enter Try.func30, Try.ntmps30
      go_wp2
      go_ret
      exact ⟨by simp [h2], rfl⟩
    · go_enter Try.func30, Try.ntmps30
      go_wp2
      go_ret
      exact ⟨by simp [h2], rfl⟩
  · have hr : okPC x = false := by simp [okPC, h1]
    rw [hr]
    clear hr
    go_enter Try.func30, Try.ntmps30
    go_wp2
    go_ret
    exact ⟨rfl, rfl⟩
theorem rounded_any (s : Int) (h1 : -549755813888 ≤ s) (h2 : s ≤ 549755813888) (w : World) : Calls Try.prog 32 #[.int .i64 s] w fun e w' => e = .returned (.int .i64 (rndC s)) ∧ w = w' := by
  unfold rndC
  go_enter Try.func32, Try.ntmps32
  go_wp2
  go_ret
  exact ⟨rfl, rfl⟩

set_option maxRecDepth 100000 in
set_option maxHeartbeats 1000000 in
theorem check11_any {n₀ : Nat} {w : World} {av : Option Addr} {len cap : Nat} {xs : List Int} (hR : RowV n₀ w av len cap (intV xs)) (hn : n₀ ≤ w.heap.size) (hlen : len ≤ 1000000) (m : Nat) (lo hi : Int) :
    Calls Try.prog 25 #[.slice av len cap, .int .i64 m, .int .i64 lo, .int .i64 hi] w fun e w' => e = .returned (.int .i64 (checkR xs m lo hi)) ∧ w = w' := by
  have hl : xs.length = len := by have := hR.1; simpa using this
  have HR := Lib.hid hR
  clear hR
  by_cases hm : len = m
  · have e1 : ((len : Int) != (m : Int)) = false := by simp [hm]
    obtain ⟨R, hRes⟩ : ∃ R, checkR xs m lo hi = R := ⟨_, rfl⟩
    rw [hRes]
    have HRes := Lib.hid hRes
    clear hRes
    go_enter Try.func25, Try.ntmps25
    go_wp2_with fail
    go_loop [17] (fun i => ∃ k : Nat, i = .int .i64 k ∧ k ≤ len ∧ ∀ j, j < k → okNC lo hi (nthC xs j) = true) (fun i => len - (intOf i).toNat)
    case atStart => exact ⟨0, rfl, by omega, fun j hj => by omega⟩
    case round =>
      obtain ⟨k, rfl, hk, hno⟩ := hrel
      have HNo := Lib.hid hno
      clear hno
      by_cases hk2 : k < len
      · obtain ⟨b, off, rfl, hb, hc⟩ := HR.out.cells (by omega)
        have x1 := hc k (.int .i64 (xs[k]?.getD 0)) (by simp [show k < xs.length by omega])
        have hA := @not_allC xs lo hi k (by omega)
        have z1 : (k : Int) < len := by omega
        have HSt : Hid (okNC lo hi (nthC xs k) = true → ∀ j, j < k + 1 → okNC lo hi (nthC xs j) = true) := by
          show okNC lo hi (nthC xs k) = true → ∀ j, j < k + 1 → okNC lo hi (nthC xs j) = true
          intro h j hj
          by_cases e : j = k
          · rw [e]; exact h
          · exact HNo.out j (by omega)
        clear hc
        change w.cell? _ = some (.int .i64 (nthC xs k)) at x1
        generalize nthC xs k = x at *
        by_cases h1 : x < lo
        · have HA : Hid (R = 3) := by show R = 3; rw [← HRes.out, checkR_bad (by omega) (hA (by simp [okNC]; omega))]
          clear hA HSt
          go_wp2_with fail
          go_ret
          exact ⟨ret_int HA.out.symm, rfl⟩
        · by_cases h2 : hi < x
          · have HA : Hid (R = 3) := by show R = 3; rw [← HRes.out, checkR_bad (by omega) (hA (by simp [okNC]; omega))]
            clear hA HSt
            go_wp2_with fail
            go_ret
            exact ⟨ret_int HA.out.symm, rfl⟩
          · have HS2 := Lib.hid (HSt.out (by simp [okNC]; omega))
            clear hA HSt
            go_wp2_with fail
            go_round
            case rel => exact ⟨k + 1, by go_num, by omega, HS2.out⟩
            case measure => simp [intOf]; omega
      · obtain rfl : k = len := by omega
        have HA : Hid (R = 0) := by show R = 0; rw [← HRes.out, checkR_ok (by omega) ((allC_iff xs lo hi).2 (fun j hj => HNo.out j (by omega)))]
        go_wp2_with fail
        go_ret
        exact ⟨ret_int HA.out.symm, rfl⟩
  · rw [checkR_len (by omega)]
    have e1 : ((len : Int) != (m : Int)) = true := by simp; omega
    go_enter Try.func25, Try.ntmps25
    go_wp2
    go_ret
    exact ⟨rfl, rfl⟩

theorem a8_under : Try.prog.underlying 44 = some (.array 8 3) := by kernel_rfl
theorem wt_index1 {u : Nat} (hu : u < 8) (W : World) : (Instr.index 46 (.agg (numsA wtL)) (.int .i64 u)).run Try.prog W = .ok (.agg (numsA ((List.range 8).map fun x => wt u x))) W := by
  rcases (by omega : u = 0 ∨ u = 1 ∨ u = 2 ∨ u = 3 ∨ u = 4 ∨ u = 5 ∨ u = 6 ∨ u = 7) with rfl | rfl | rfl | rfl | rfl | rfl | rfl | rfl <;> kernel_rfl
theorem wt_index2 (u : Nat) {x : Nat} (hx : x < 8) (W : World) : (Instr.index 44 (.agg (numsA ((List.range 8).map fun x => wt u x))) (.int .i64 x)).run Try.prog W = .ok (.int .i64 (wt u x)) W :=
  run_indexC 8 _ a8_under _ x _ hx (by simp [hx]) W
set_option maxHeartbeats 1000000 in
theorem weight_any (u x : Int) (w : World) : Calls Try.prog 18 #[.int .i64 u, .int .i64 x] w fun e w' => e = .returned (.tuple #[.int .i64 (weightR u x).1, .int .i64 (weightR u x).2]) ∧ Below w.heap.size w w' := by
  have HU := Lib.hid (fun W => isPlace_any u W)
  have HX := Lib.hid (fun W => isPlace_any x W)
  cases hu : okPC u with
  | false =>
    have hr : weightR u x = (0, 3) := by unfold weightR; rw [hu]; rfl
    rw [hr]
    rw [hu] at HU
    clear hr hu
    go_enter Try.func18, Try.ntmps18
    go_wp2_with fail
    refine (HU.out _).mono ?_
    rintro e w1 ⟨rfl, rfl⟩
    go_wp2_with fail
    go_ret2
    exact ⟨rfl, Below.refl _ _⟩
  | true =>
    rw [hu] at HU
    cases hx : okPC x with
    | false =>
      have hr : weightR u x = (0, 3) := by unfold weightR; rw [hu, hx]; rfl
      rw [hr]
      rw [hx] at HX
      clear hr hu hx
      go_enter Try.func18, Try.ntmps18
      go_wp2_with fail
      refine (HU.out _).mono ?_
      rintro e w1 ⟨rfl, rfl⟩
      go_wp2_with fail
      refine (HX.out _).mono ?_
      rintro e w1 ⟨rfl, rfl⟩
      go_wp2_with fail
      go_ret2
      exact ⟨rfl, Below.refl _ _⟩
    | true =>
      have hr : weightR u x = (wt u.toNat x.toNat, 0) := by unfold weightR; rw [hu, hx]; rfl
      rw [hr]
      rw [hx] at HX
      rw [okPC_iff] at hu hx
      obtain ⟨un, rfl⟩ : ∃ un : Nat, u = un := ⟨u.toNat, by omega⟩
      obtain ⟨xn, rfl⟩ : ∃ xn : Nat, x = xn := ⟨x.toNat, by omega⟩
      simp only [Int.toNat_natCast]
      have ix1 := fun W => @wt_index1 un (by omega) W
      have ix2 := fun W => @wt_index2 un xn (by omega) W
      have HM := Lib.hid (fun W => makeWeights_any W)
      clear hr hu hx
      generalize wt un xn = z at *
      generalize numsA ((List.range 8).map fun x => wt un x) = row at *
      generalize numsA wtL = all at *
      go_enter Try.func18, Try.ntmps18
      go_wp2_with fail
      refine (HU.out _).mono ?_
      rintro e w1 ⟨rfl, rfl⟩
      go_wp2_with fail
      refine (HX.out _).mono ?_
      rintro e w1 ⟨rfl, rfl⟩
      go_wp2_with fail
      refine (HM.out _).mono ?_
      rintro e w1 ⟨rfl, b1⟩
      have B1 := Lib.hid b1
      clear b1
      go_wp2_with fail
      go_ret2
      exact ⟨rfl, B1.out⟩

end Go.Proofs.Ytpmdeoiajnfabaa
