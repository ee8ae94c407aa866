/- The reference's c, weight, Weight, Line (praxinoscoperef11). The reference's Line (praxinoscoperef11). The reference's Inverse (praxinoscoperef11). -/
import Derived.Test.YtbcfiafgolcbpaaGreatDoorCInv
import Derived.Test.YtbcfiafgolcbpaaGreatDoorQTail
/- The reference's c, weight, Weight, Line (praxinoscoperef11). -/
namespace Go.Proofs.YtbcfiafgolcbpaaGreatDoor
open Go.RowKit Go.Shelf
set_option linter.unusedVariables false

set_option maxHeartbeats 1000000 in
theorem rcLo_any (k : Nat) (hk : k ≤ 8) (w : World) : Calls Tryz.prog 105 #[.int .i64 k] w fun e w' => e = .returned (.int .i64 (cK k)) ∧ Below w.heap.size w w' := by
  have h1 : ¬ (16 : Int) < k := by omega
  have h2 : ¬ (8 : Int) < k := by omega
  have x1 := q9_at hk
  generalize cK k = x at *
  go_enter Tryz.func105, Tryz.ntmps105
  go_wp2_with fail
  go_ret
  exact ⟨rfl, (Below.refl _ w).alloc (Nat.le_refl _) _⟩
set_option maxHeartbeats 1000000 in
theorem rcMid_any (k : Nat) (h0 : 9 ≤ k) (hk : k ≤ 16) (w : World) : Calls Tryz.prog 105 #[.int .i64 k] w fun e w' => e = .returned (.int .i64 (cK k)) ∧ Below w.heap.size w w' := by
  rcases (by omega : k = 9 ∨ k = 10 ∨ k = 11 ∨ k = 12 ∨ k = 13 ∨ k = 14 ∨ k = 15 ∨ k = 16) with rfl | rfl | rfl | rfl | rfl | rfl | rfl | rfl
  all_goals
    go_enter Tryz.func105, Tryz.ntmps105
    go_wp2_with fail
    go_ret
    exact ⟨rfl, (Below.refl _ w).alloc (Nat.le_refl _) _⟩
set_option maxHeartbeats 1000000 in
theorem rc_any (k : Nat) (hk : k < 32) (w : World) : Calls Tryz.prog 105 #[.int .i64 k] w fun e w' => e = .returned (.int .i64 (cK k)) ∧ Below w.heap.size w w' := by
  by_cases h1 : k ≤ 8
  · exact rcLo_any k h1 w
  · by_cases h2 : k ≤ 16
    · exact rcMid_any k (by omega) h2 w
    · have HC : Hid (∀ W, Calls Tryz.prog 105 #[.int .i64 (32 - (k : Int))] W fun e w' => e = .returned (.int .i64 (cK k)) ∧ Below W.heap.size W w') := by
        show ∀ W, _
        intro W
        rw [show (32 : Int) - (k : Int) = ((32 - k : Nat) : Int) by omega, ← cK_back ⟨k, hk⟩ (by show 17 ≤ k; omega)]
        by_cases h3 : 32 - k ≤ 8
        · exact rcLo_any _ h3 W
        · exact rcMid_any _ (by omega) (by omega) W
      have h3 : (16 : Int) < k := by omega
      have h4 : (k : Int) < 32 := by omega
      clear h1 h2
      generalize cK k = x at *
      go_enter Tryz.func105, Tryz.ntmps105
      go_wp2_with fail
      refine (HC.out _).mono ?_
      rintro e w1 ⟨rfl, b1⟩
      have B1 := Lib.hid b1
      clear b1
      go_wp2_with fail
      go_ret
      exact ⟨rfl, ((Below.refl _ w).alloc (Nat.le_refl _) _).trans (B1.out.mono (by simp))⟩

set_option maxHeartbeats 1000000 in
theorem rweight_any {u x : Nat} (hu : u < 8) (hx : x < 8) (w : World) : Calls Tryz.prog 80 #[.int .i64 u, .int .i64 x] w fun e w' => e = .returned (.int .i64 (wt u x)) ∧ Below w.heap.size w w' := by
  by_cases h0 : u = 0
  · subst h0
    rw [show wt 0 x = 1448 from wt_zero ⟨x, hx⟩]
    go_enter Tryz.func80, Tryz.ntmps80
    go_wp2_with fail
    go_ret
    exact ⟨rfl, Below.refl _ _⟩
  · have e1 : ((u : Int) == 0) = false := by simp; omega
    have z3 : (0 : Int) ≤ u := by omega
    have z2 : (u : Int) < 8 := by omega
    have z1 : (x : Int) < 8 := by omega
    have p0 : (0 : Int) ≤ (2 * (x : Int) + 1) * u := Int.mul_nonneg (by omega) z3
    have p1 : (2 * (x : Int) + 1) * u ≤ 15 * 7 := Int.mul_le_mul (by omega) (by omega) z3 (by omega)
    have HCx : Hid (∀ W, Calls Tryz.prog 105 #[.int .i64 (Int.tmod ((2 * (x : Int) + 1) * u) 32)] W fun e w' => e = .returned (.int .i64 (wt u x)) ∧ Below W.heap.size W w') := by
      show ∀ W, _
      intro W
      rw [Int.tmod_eq_emod_of_nonneg p0, show (2 * (x : Int) + 1) * u % 32 = (((2 * x + 1) * u % 32 : Nat) : Int) by push_cast; rfl, show wt u x = cK ((2 * x + 1) * u % 32) from wt_cK ⟨u, hu⟩ ⟨x, hx⟩ (by show 1 ≤ u; omega)]
      exact rc_any _ (Nat.mod_lt _ (by omega)) W
    clear hu hx h0
    generalize wt u x = y at *
    go_enter Tryz.func80, Tryz.ntmps80
    go_wp2_with fail
    refine (HCx.out _).mono ?_
    rintro e w1 ⟨rfl, b1⟩
    have B1 := Lib.hid b1
    clear b1
    go_wp2_with fail
    go_ret
    exact ⟨rfl, B1.out⟩

end Go.Proofs.YtbcfiafgolcbpaaGreatDoor

/- The reference's Line (praxinoscoperef11). -/
namespace Go.Proofs.YtbcfiafgolcbpaaGreatDoor
open Go.RowKit Go.Shelf Go.Sort
set_option linter.unusedVariables false

theorem ret_sndC {k : IntKind} {v : Value} {a b : Int} (h : a = b) : Ending.returned (.tuple #[v, .int k a]) = .returned (.tuple #[v, .int k b]) := by rw [h]
theorem ofC_snoc (k : Nat) (f : Nat → Int) : intV (ofC k f) ++ [.int .i64 (f k)] = intV (ofC (k + 1) f) := by
  unfold ofC intV
  rw [List.range_succ, List.map_append, List.map_append]
  rfl

end Go.Proofs.YtbcfiafgolcbpaaGreatDoor

/- The reference's Inverse (praxinoscoperef11). -/
namespace Go.Proofs.YtbcfiafgolcbpaaGreatDoor
open Go.RowKit Go.Shelf Go.Sort
set_option linter.unusedVariables false

theorem a64C_zero : (Tryz.prog.info? 106).map (·.zero) = some (some (.agg (numsA zeros64))) := by kernel_rfl
/-- so many weights, one behind the other -/
def wtP (k : Nat) : List Int := ofC 64 fun j => if j < k then wt (j / 8) (j % 8) else 0
theorem wtP_length (k : Nat) : (wtP k).length = 64 := ofC_length _ _
theorem wtP_zero : wtP 0 = zeros64 := by decide +kernel
theorem wtP_all : wtP 64 = wtL := by decide +kernel
theorem wtP_step {k : Nat} (hk : k < 64) : (wtP k).set k (wt (k / 8) (k % 8)) = wtP (k + 1) := by
  unfold wtP
  rw [ofC_set hk]
  apply ofC_congr
  intro j hj
  by_cases h : j = k
  · rw [if_pos h, if_pos (by omega), h]
  · rw [if_neg h]
    by_cases h2 : j < k
    · rw [if_pos h2, if_pos (by omega)]
    · rw [if_neg h2, if_neg (by omega)]
/-- one product of a sum -/
def termC (b : List Int) (i k : Nat) : Int := wt (i % 8) (k % 8) * wt (i / 8) (k / 8) * nthC b i
/-- the sums, of so many products, and of one more at so many places -/
def outP (b : List Int) (i k : Nat) : List Int := ofC 64 fun j => (smC i fun t => termC b t j) + if j < k then termC b i j else 0
theorem outP_length (b : List Int) (i k : Nat) : (outP b i k).length = 64 := ofC_length _ _
theorem outP_at (b : List Int) (i : Nat) {k : Nat} (hk : k < 64) : nthC (outP b i k) k = smC i fun t => termC b t k := by
  unfold outP
  rw [ofC_get hk, if_neg (by omega)]
  omega
theorem outP_step (b : List Int) (i : Nat) {k : Nat} (hk : k < 64) : (outP b i k).set k ((smC i fun t => termC b t k) + termC b i k) = outP b i (k + 1) := by
  unfold outP
  rw [ofC_set hk]
  apply ofC_congr
  intro j hj
  by_cases h : j = k
  · rw [if_pos h, if_pos (by omega), h]
  · rw [if_neg h]
    by_cases h2 : j < k
    · rw [if_pos h2, if_pos (by omega)]
    · rw [if_neg h2, if_neg (by omega)]
theorem outP_next (b : List Int) (i : Nat) : outP b i 64 = outP b (i + 1) 0 := by
  unfold outP
  apply ofC_congr
  intro j hj
  rw [if_pos hj, if_neg (by omega), smC_succ]
  omega
theorem outP_skip (b : List Int) (i : Nat) (h : nthC b i = 0) : outP b i 0 = outP b (i + 1) 0 := by
  unfold outP
  apply ofC_congr
  intro j hj
  rw [if_neg (by omega), if_neg (by omega), smC_succ]
  unfold termC
  rw [h]
  omega
theorem outP_zero (b : List Int) : outP b 0 0 = zeros64 := by
  unfold outP
  simp only [smC_zero]
  rfl
theorem outP_all (b : List Int) : outP b 64 0 = ofC 64 (invS b) := by
  unfold outP
  apply ofC_congr
  intro j hj
  rw [if_neg (by omega)]
  unfold invS termC
  omega

theorem wrapC {x : Int} (h0 : -9223372036854775808 ≤ x) (h1 : x < 9223372036854775808) : IntKind.i64.wrap x = x := by rw [IntKind.wrap_i64]; omega
theorem ixA_C {i k : Nat} (hi : i < 64) (hk : k < 64) : IntKind.i64.wrap (IntKind.i64.wrap ((i : Int).tmod 8 * 8) + (k : Int).tmod 8) = ((i % 8 * 8 + k % 8 : Nat) : Int) := by
  rw [Int.tmod_eq_emod_of_nonneg (by omega), Int.tmod_eq_emod_of_nonneg (by omega), wrapC (x := (i : Int) % 8 * 8) (by omega) (by omega), wrapC (by omega) (by omega)]
  omega
theorem ixB_C {i k : Nat} (hi : i < 64) (hk : k < 64) : IntKind.i64.wrap (IntKind.i64.wrap (IntKind.i64.wrap ((i : Int) / 8) * 8) + IntKind.i64.wrap ((k : Int) / 8)) = ((i / 8 * 8 + k / 8 : Nat) : Int) := by
  rw [wrapC (x := (i : Int) / 8) (by omega) (by omega), wrapC (x := (k : Int) / 8) (by omega) (by omega), wrapC (x := (i : Int) / 8 * 8) (by omega) (by omega), wrapC (by omega) (by omega)]
  omega
/-- between two rounds -/
structure RfW (w0 : World) (gO : Nat) (cur : List Int) (W : World) : Prop where
  below : Below w0.heap.size w0 W
  wts : NumsAt W w0.heap.size 106 wtL
  out : NumsAt W gO 3 cur
  lo : w0.heap.size < gO
theorem RfW.set {w0 W : World} {gO : Nat} {cur : List Int} (h : RfW w0 gO cur W) (k : Nat) (x : Int) : RfW w0 gO (cur.set k x) (W.setCell ⟨gO, k, none⟩ (.int .i64 x)) :=
  ⟨h.below.setCell (p := ⟨gO, k, none⟩) (by have := h.lo; simp; omega) _, h.wts.other (by have := h.lo; simp; omega) _, h.out.set k x, h.lo⟩
theorem RfW.drewN {w0 W : World} {gO : Nat} {cur : List Int} (h : RfW w0 gO cur W) (n : Nat) : RfW w0 gO cur (W.drewN n) := ⟨⟨h.below.os, h.below.tape, h.below.output, h.below.size, h.below.block⟩, h.wts, h.out, h.lo⟩

set_option maxRecDepth 100000 in
set_option maxHeartbeats 4000000 in
theorem r11inv_any {n₀ : Nat} {w : World} {av : Option Addr} {len cap : Nat} {xs : List Int} (hR : RowV n₀ w av len cap (intV xs)) (hn : n₀ ≤ w.heap.size) (hlen : len ≤ 1000000) :
    Calls Tryz.prog 51 #[.slice av len cap] w fun e w' => ∃ v, e = .returned (.tuple #[v, .int .i64 (invR xs).1]) ∧ w'.ownsRow w.heap.size 3 1 v (invR xs).2.length (intV (invR xs).2) ∧ Below w.heap.size w w' := by
  have hl : xs.length = len := by have := hR.1; simpa using this
  have HR := Lib.hid hR
  clear hR
  by_cases h64 : len = 64
  · subst h64
    have HW := Lib.hid (fun u x hu hx W => @rweight_any u x hu hx W)
    obtain ⟨R, hRes⟩ : ∃ R, invR xs = R := ⟨_, rfl⟩
    rw [hRes]
    have HBad : Hid (∀ j, j < 64 → okNC (-2048) 2047 (nthC xs j) = false → R = (3, [])) := by
      show ∀ j, _ → _ → _
      intro j hj hb
      have := checkR_bad (m := 64) hl (not_allC (by omega) hb)
      rw [← hRes, invR_bad (by rw [this]; decide), this]
    have HGood : Hid ((∀ j, j < 64 → okNC (-2048) 2047 (nthC xs j) = true) → R = (0, invL xs)) := by
      show _ → _
      intro h
      rw [← hRes, invR_ok (checkR_ok hl ((allC_iff xs _ _).2 (fun j hj => h j (by omega))))]
    clear hRes
    have hmk := made64
    go_enter Tryz.func51, Tryz.ntmps51
    go_wp2_with fail
    go_loop [4] (fun i => ∃ k : Nat, i = .int .i64 k ∧ k ≤ 64 ∧ ∀ j, j < k → okNC (-2048) 2047 (nthC xs j) = true) (fun i => 64 - (intOf i).toNat)
    case atStart => exact ⟨0, rfl, by omega, fun j hj => by omega⟩
    case round =>
      obtain ⟨k, rfl, hk, hno⟩ := hrel
      have HNo := Lib.hid hno
      clear hno
      by_cases hk2 : k < 64
      · obtain ⟨b, off, rfl, hb, hc⟩ := HR.out.cells (by omega)
        have x1 := hc k (.int .i64 (xs[k]?.getD 0)) (by simp [show k < xs.length by omega])
        change w.cell? _ = some (.int .i64 (nthC xs k)) at x1
        have hA := HBad.out k hk2
        have z1 : (k : Int) < 64 := by omega
        have HSt : Hid (okNC (-2048) 2047 (nthC xs k) = true → ∀ j, j < k + 1 → okNC (-2048) 2047 (nthC xs j) = true) := by
          show okNC (-2048) 2047 (nthC xs k) = true → ∀ j, j < k + 1 → okNC (-2048) 2047 (nthC xs j) = true
          intro h j hj
          by_cases e : j = k
          · rw [e]; exact h
          · exact HNo.out j (by omega)
        clear hc
        generalize nthC xs k = x at *
        by_cases h1 : x < -2048
        · have HA := Lib.hid (hA (by simp [okNC]; omega))
          clear hA HSt hmk
          go_wp2_with fail
          go_ret2
          exact ⟨_, ret_sndC (by rw [HA.out]), by rw [HA.out]; exact World.ownsRow_nil _ _ _ _, Below.refl _ _⟩
        · by_cases h2 : 2047 < x
          · have HA := Lib.hid (hA (by simp [okNC]; omega))
            clear hA HSt hmk
            go_wp2_with fail
            go_ret2
            exact ⟨_, ret_sndC (by rw [HA.out]), by rw [HA.out]; exact World.ownsRow_nil _ _ _ _, Below.refl _ _⟩
          · have HS2 := Lib.hid (HSt.out (by simp [okNC]; omega))
            clear hA HSt hmk
            go_wp2_with fail
            go_round
            case rel => exact ⟨k + 1, by go_num, by omega, HS2.out⟩
            case measure => simp [intOf]; omega
      · obtain rfl : k = 64 := by omega
        have HFin := Lib.hid (HGood.out HNo.out)
        have hin : ∀ j, -2048 ≤ nthC xs j ∧ nthC xs j ≤ 2048 := fun j => checkR_in (m := 64) (lo := -2048) (hi := 2047) ((allC_iff xs _ _).2 (fun j hj => HNo.out j (by omega))) (M := 2048) (by omega) (by omega) (by omega) j
        have HIn := Lib.hid hin
        clear hin HBad HGood HNo
        go_wp2_with (with_reducible refine wpList_allocZ rfl 106 (numsA zeros64) rfl a64C_zero ?_)
        have HN0 := Lib.hid (numsAt_new w 106 zeros64)
        have HB0 := Lib.hid ((Below.refl _ w).alloc (Nat.le_refl _) (.cells (numsA zeros64) 106))
        have HZ0 := Lib.hid (show w.heap.size < (w.alloc (.cells (numsA zeros64) 106)).heap.size by simp)
        generalize w.alloc (.cells (numsA zeros64) 106) = w1 at *
        go_loopw [6] (fun i wr => ∃ k : Nat, i = .int .i64 k ∧ k ≤ 64 ∧ NumsAt wr w.heap.size 106 (wtP k) ∧ Below w.heap.size w wr) (fun i _ => 64 - (intOf i).toNat)
        case atStart => exact ⟨0, rfl, by omega, by rw [wtP_zero]; exact HN0.out, HB0.out⟩
        case round =>
          obtain ⟨k, rfl, hk3, hN, hB⟩ := hrel
          have HN := Lib.hid hN
          have HB := Lib.hid hB
          clear hN hB
          by_cases hk4 : k < 64
          · have z1 : (k : Int) < 64 := by omega
            have z0 : (0 : Int) ≤ k := by omega
            have HWk : Hid (∀ W, Calls Tryz.prog 80 #[.int .i64 ((k : Int) / 8), .int .i64 ((k : Int) % 8)] W fun e w' => e = .returned (.int .i64 (wt (k / 8) (k % 8))) ∧ Below W.heap.size W w') := by
              show ∀ W, _
              intro W
              rw [show (k : Int) / 8 = ((k / 8 : Nat) : Int) by omega, show (k : Int) % 8 = ((k % 8 : Nat) : Int) by omega]
              exact HW.out _ _ (by omega) (by omega) W
            have HSt := Lib.hid (wtP_step hk4)
            have hwl := HN.out.lt
            clear hmk
            generalize wt (k / 8) (k % 8) = y at *
            go_wp2_with fail
            refine (HWk.out _).mono ?_
            rintro e w3 ⟨rfl, b3⟩
            have HN3 := Lib.hid (HN.out.below b3 hwl)
            have HB3 := Lib.hid (HB.out.trans (b3.mono HB.out.size))
            clear b3
            have c3 := HN3.out.cell (k := k) (by rw [wtP_length]; omega)
            have f3 := HN3.out.frozen k
            go_wp2_with fail
            go_roundw
            case rel => exact ⟨k + 1, by go_num, by omega, by rw [← HSt.out]; exact HN3.out.set k y, HB3.out.setCell (p := ⟨w.heap.size, k, none⟩) (by simp) _⟩
            case measure => simp [intOf]; omega
          · obtain rfl : k = 64 := by omega
            rw [wtP_all] at HN
            have hN4 := numsAt_new wr 3 zeros64
            have hlt := HN.out.lt
            have HRf : Hid (RfW w wr.heap.size zeros64 (wr.alloc (.cells (numsA zeros64) 3))) := Lib.hid ⟨HB.out.alloc HB.out.size _, HN.out.alloc _, hN4, by omega⟩
            clear hN4
            go_wp2_with fail
            generalize wr.alloc (.cells (numsA zeros64) 3 (0, 0)) = w4 at *
            generalize wr.heap.size = gO at *
            clear hmk
            go_loopw [8] (fun i ws => ∃ k : Nat, i = .int .i64 k ∧ k ≤ 64 ∧ RfW w gO (outP xs k 0) ws) (fun i _ => 64 - (intOf i).toNat)
            case atStart => exact ⟨0, rfl, by omega, by rw [outP_zero]; exact HRf.out⟩
            case round =>
              obtain ⟨i, rfl, hi, hW⟩ := hrel
              have HS := Lib.hid hW
              clear hW
              by_cases hi2 : i < 64
              · obtain ⟨b, off, rfl, hb, hc⟩ := HR.out.cells (by omega)
                have hx1 := hc i (.int .i64 (xs[i]?.getD 0)) (by simp [show i < xs.length by omega])
                change w.cell? _ = some (.int .i64 (nthC xs i)) at hx1
                have HX1 := Lib.hid (fun W' (h : Below w.heap.size w W') => (h.cell (p := ⟨b, off + i, none⟩) (by simp; omega)).trans hx1)
                have x2 := HX1.out wr HS.out.below
                clear hc hx1
                have z1 : (i : Int) < 64 := by omega
                have z0 : (0 : Int) ≤ i := by omega
                by_cases hz : nthC xs i = 0
                · have HSk := Lib.hid (outP_skip xs i hz)
                  rw [hz] at x2
                  go_wp2_with fail
                  go_roundw
                  case rel => exact ⟨i + 1, by go_num, by omega, by rw [← HSk.out]; exact HS.out⟩
                  case measure => simp [intOf]; omega
                · have hne : (nthC xs i != 0) = true := by simpa using hz
                  go_wp2_with fail
                  go_loopw [9] (fun i2 ws => ∃ k : Nat, i2 = .int .i64 k ∧ k ≤ 64 ∧ RfW w gO (outP xs i k) ws) (fun i _ => 64 - (intOf i).toNat)
                  case atStart => exact ⟨0, rfl, by omega, HS.out⟩
                  case round =>
                    obtain ⟨k, rfl, hk5, hW⟩ := hrel
                    have HS2 := Lib.hid hW
                    clear hW x2
                    by_cases hk6 : k < 64
                    · have x3 := HX1.out wr HS2.out.below
                      have q1 : (k : Int) < 64 := by omega
                      have q0 : (0 : Int) ≤ k := by omega
                      have c1 := HS2.out.out.cell (k := k) (by rw [outP_length]; omega)
                      have f1 := HS2.out.out.frozen k
                      rw [show (outP xs i k)[k]?.getD 0 = nthC (outP xs i k) k from rfl, outP_at xs i hk6] at c1
                      have c2 := HS2.out.wts.cell (k := i % 8 * 8 + k % 8) (by show _ < 64; omega)
                      have c3 := HS2.out.wts.cell (k := i / 8 * 8 + k / 8) (by show _ < 64; omega)
                      rw [wtL_get] at c2 c3
                      have E1 := ixA_C hi2 hk6
                      have E2 := ixB_C hi2 hk6
                      have l1 : i % 8 * 8 + k % 8 < 64 := by omega
                      have l2 : i / 8 * 8 + k / 8 < 64 := by omega
                      generalize i % 8 * 8 + k % 8 = A1 at *
                      generalize i / 8 * 8 + k / 8 = A2 at *
                      have l3 : (0 : Int) ≤ (A1 : Int) := by omega
                      have l4 : (A1 : Int) < 64 := by omega
                      have l5 : (0 : Int) ≤ (A2 : Int) := by omega
                      have l6 : (A2 : Int) < 64 := by omega
                      have HSt := Lib.hid (outP_step xs i hk6)
                      obtain ⟨s1, s2⟩ := invP_in (n := i) (by omega) HIn.out hk6
                      obtain ⟨t1, t2⟩ := mul_in (A := 2048) (M := 2048) (wt_in (u := i % 8) (x := k % 8) (by omega) (by omega)) (wt_in (u := i / 8) (x := k / 8) (by omega) (by omega)) (by omega) (by omega)
                      obtain ⟨t3, t4⟩ := mul_in (A := 2048 * 2048) (M := 2048) ⟨t1, t2⟩ (HIn.out i) (by omega) (by omega)
                      change -549755813888 ≤ smC i (fun t => termC xs t k) at s1
                      change smC i (fun t => termC xs t k) ≤ 549755813888 at s2
                      unfold termC at HSt
                      have HSt2 : Hid ((outP xs i k).set k ((smC i fun t => termC xs t k) + wt (i % 8) (k % 8) * wt (i / 8) (k / 8) * nthC xs i) = outP xs i (k + 1)) := HSt
                      clear HSt
                      generalize (smC i fun t => termC xs t k) = s at *
                      generalize wt (i % 8) (k % 8) = a1 at *
                      generalize wt (i / 8) (k / 8) = a2 at *
                      generalize nthC xs i = y at *
                      have e1 : IntKind.i64.wrap (a1 * a2) = a1 * a2 := by exact wrapC (by omega) (by omega)
                      have e2 : IntKind.i64.wrap (a1 * a2 * y) = a1 * a2 * y := by exact wrapC (by omega) (by omega)
                      have e3 : IntKind.i64.wrap (s + a1 * a2 * y) = s + a1 * a2 * y := by exact wrapC (by omega) (by omega)
                      go_wp2_with fail
                      refine wp_region_quiet_tail (C := fun w' => ∃ n, w' = wr.drewN n) 30 (by kernel_rfl) (by kernel_rfl) ⟨1, rfl⟩ ?_
                      simp only [List.take_succ_cons, List.take_zero, List.drop_succ_cons, List.drop_zero]
                      iterate 30 quiet_step (fail)
                      refine wpQuiet_nil ?_
                      rintro _ ⟨nq, rfl⟩
                      have HS3 := Lib.hid (HS2.out.drewN nq)
                      go_wp2_with fail
                      go_roundw
                      case rel =>
                        repeat apply Exists.intro
                        exact ⟨⟨k + 1, by go_num, by omega, by rw [← HSt2.out]; exact HS3.out.set k _⟩, rfl⟩
                      case measure => simp [intOf]; omega
                    · obtain rfl : k = 64 := by omega
                      have HNx := Lib.hid (outP_next xs i)
                      go_wp2_with fail
                      go_roundw
                      case rel => exact ⟨i + 1, by go_num, by omega, by rw [← HNx.out]; exact HS2.out⟩
                      case measure => simp [intOf]; omega
              · obtain rfl : i = 64 := by omega
                rw [outP_all] at HS
                have HRa := Lib.hid (rndL_all xs)
                have hSl := ofC_length 64 (invS xs)
                have HSn : Hid (∀ k, k < 64 → -549755813888 ≤ nthC (ofC 64 (invS xs)) k ∧ nthC (ofC 64 (invS xs)) k ≤ 549755813888) := by
                  show ∀ k, _ → _
                  intro k hk
                  rw [ofC_get hk]
                  exact invP_in (n := 64) (by omega) HIn.out hk
                generalize ofC 64 (invS xs) = S at *
                go_wp2_with fail
                go_loopw [10] (fun i2 ws => ∃ k : Nat, i2 = .int .i64 k ∧ k ≤ 64 ∧ RfW w gO (rndL S k) ws) (fun i _ => 64 - (intOf i).toNat)
                case atStart => exact ⟨0, rfl, by omega, by rw [rndL_zero hSl]; exact HS.out⟩
                case round =>
                  obtain ⟨k, rfl, hk5, hW⟩ := hrel
                  have HS2 := Lib.hid hW
                  clear hW
                  by_cases hk6 : k < 64
                  · have q1 : (k : Int) < 64 := by omega
                    have c1 := HS2.out.out.cell (k := k) (by rw [rndL_length]; omega)
                    have f1 := HS2.out.out.frozen k
                    have hat : nthC (rndL S k) k = nthC S k := by unfold rndL; rw [ofC_get hk6, if_neg (by omega)]
                    rw [show (rndL S k)[k]?.getD 0 = nthC (rndL S k) k from rfl, hat] at c1
                    obtain ⟨s1, s2⟩ := HSn.out k hk6
                    have HSt : Hid ((rndL S k).set k ((nthC S k + 8388608) / 16777216) = rndL S (k + 1)) := Lib.hid (rndL_step S hk6)
                    clear hat
                    generalize nthC S k = y at *
                    go_wp2_with fail
                    go_roundw
                    case rel => exact ⟨k + 1, by go_num, by omega, by rw [← HSt.out]; exact HS2.out.set k _⟩
                    case measure => simp [intOf]; omega
                  · obtain rfl : k = 64 := by omega
                    rw [HRa.out] at HS2
                    go_wp2_with fail
                    go_ret2
                    have hlo := HS2.out.lo
                    exact ⟨_, ret_sndC (by rw [HFin.out]), by rw [HFin.out]; simp only [invL_length]; exact HS2.out.out.ownC (invL_length _) (by omega) (by omega), HS2.out.below⟩
  · rw [invR_bad (by rw [checkR_len (by omega)]; decide), checkR_len (by omega)]
    have e1 : ((len : Int) != 64) = true := by simp; omega
    go_enter Tryz.func51, Tryz.ntmps51
    go_wp2
    go_ret2
    exact ⟨_, rfl, World.ownsRow_nil _ _ _ _, Below.refl _ _⟩

end Go.Proofs.YtbcfiafgolcbpaaGreatDoor
