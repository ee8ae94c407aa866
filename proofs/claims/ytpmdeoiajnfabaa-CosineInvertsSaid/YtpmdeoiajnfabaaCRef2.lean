/- The reference's Line (praxinoscoperef11). -/
import Derived.Test.YtpmdeoiajnfabaaCRef
namespace Go.Proofs.Ytpmdeoiajnfabaa
open Go.RowKit Go.Shelf Go.Sort
set_option linter.unusedVariables false

theorem ret_sndC {k : IntKind} {v : Value} {a b : Int} (h : a = b) : Ending.returned (.tuple #[v, .int k a]) = .returned (.tuple #[v, .int k b]) := by rw [h]
theorem ofC_snoc (k : Nat) (f : Nat → Int) : intV (ofC k f) ++ [.int .i64 (f k)] = intV (ofC (k + 1) f) := by
  unfold ofC intV
  rw [List.range_succ, List.map_append, List.map_append]
  rfl

set_option maxRecDepth 100000 in
set_option maxHeartbeats 2000000 in
theorem r11line_any {n₀ : Nat} {w : World} {av : Option Addr} {len cap : Nat} {xs : List Int} (hR : RowV n₀ w av len cap (intV xs)) (hn : n₀ ≤ w.heap.size) (hlen : len ≤ 1000000) :
    Calls Try.prog 17 #[.slice av len cap] w fun e w' => ∃ v, e = .returned (.tuple #[v, .int .i64 (lineR xs).1]) ∧ w'.ownsRow w.heap.size 3 1 v (lineR xs).2.length (intV (lineR xs).2) ∧ Below w.heap.size w w' := by
  have hl : xs.length = len := by have := hR.1; simpa using this
  have HR := Lib.hid hR
  clear hR
  by_cases h8 : len = 8
  · subst h8
    obtain ⟨i2, hi2', hz20, hz21, hz22⟩ := info_parts Try.info3y
    have HW := Lib.hid (fun u x hu hx W => @rweight_any u x hu hx W)
    obtain ⟨R, hRes⟩ : ∃ R, lineR xs = R := ⟨_, rfl⟩
    rw [hRes]
    have HRes := Lib.hid hRes
    have HBad : Hid (∀ j, j < 8 → okNC (-1099511627776) 1099511627776 (nthC xs j) = false → R = (3, [])) := by
      show ∀ j, _ → _ → _
      intro j hj hb
      have := checkR_bad (m := 8) hl (not_allC (by omega) hb)
      rw [← hRes, lineR_bad (by rw [this]; decide), this]
    have HGood : Hid ((∀ j, j < 8 → okNC (-1099511627776) 1099511627776 (nthC xs j) = true) → R = (0, lineS xs)) := by
      show _ → _
      intro h
      rw [← hRes, lineR_ok (checkR_ok hl ((allC_iff xs _ _).2 (fun j hj => h j (by omega))))]
    have HSt : Hid (∀ u x, u < 8 → x < 8 → (∀ j, j < u + 1 → okNC (-1099511627776) 1099511627776 (nthC xs j) = true) → (-2251799813685248 ≤ wt u x * nthC xs u ∧ wt u x * nthC xs u ≤ 2251799813685248) ∧ -18014398509481984 ≤ (smC u fun v => wt v x * nthC xs v) ∧ (smC u fun v => wt v x * nthC xs v) ≤ 18014398509481984) := by
      show ∀ u x, _ → _ → _ → _
      intro u x hu hx h
      have hj : ∀ j, j < u + 1 → -1099511627776 ≤ nthC xs j ∧ nthC xs j ≤ 1099511627776 := fun j hj => (okNC_iff _ _ _).1 (h j hj)
      refine ⟨mul_in (wt_in hu hx) (hj u (by omega)) (by omega) (by omega), ?_⟩
      have h1 := smC_le (n := u) (f := fun v => wt v x * nthC xs v) (M := 2048 * 1099511627776) (fun v hv => mul_in (wt_in (by omega) hx) (hj v (by omega)) (by omega) (by omega))
      have h2 : (u : Int) * (2048 * 1099511627776) ≤ 8 * (2048 * 1099511627776) := Int.mul_le_mul_of_nonneg_right (by omega) (by omega)
      omega
    clear hRes
    go_enter Try.func17, Try.ntmps17
    go_wp2_with fail
    go_loopw [4, 5] (fun v i wr => ∃ x : Nat, i = .int .i64 x ∧ x ≤ 8 ∧ (0 < x → ∀ j, j < 8 → okNC (-1099511627776) 1099511627776 (nthC xs j) = true) ∧ wr.ownsRow w.heap.size 3 1 v x (intV (ofC x fun x => smC 8 fun u => wt u x * nthC xs u)) ∧ Below w.heap.size w wr) (fun _ i _ => 8 - (intOf i).toNat)
    case atStart => exact ⟨0, rfl, by omega, fun h => absurd h (by omega), World.ownsRow_nil _ _ _ _, Below.refl _ _⟩
    case round =>
      obtain ⟨x, rfl, hx, hok, ho, hb⟩ := hrel
      have HO := Lib.hid ho
      have HB := Lib.hid hb
      have HOk := Lib.hid hok
      have hs := hb.size
      clear ho hb hok
      by_cases hx2 : x < 8
      · have z1 : (x : Int) < 8 := by omega
        go_wp2_with fail
        go_loopw [6, 7] (fun s i ws => ∃ u : Nat, i = .int .i64 u ∧ u ≤ 8 ∧ s = .int .i64 (smC u fun v => wt v x * nthC xs v) ∧ (∀ j, j < u → okNC (-1099511627776) 1099511627776 (nthC xs j) = true) ∧ Below wr.heap.size wr ws) (fun _ i _ => 8 - (intOf i).toNat)
        case atStart => exact ⟨0, rfl, by omega, rfl, fun j hj => by omega, Below.refl _ _⟩
        case round =>
          obtain ⟨u, rfl, hu, rfl, hno, hbw⟩ := hrel
          have HNo := Lib.hid hno
          have HBw := Lib.hid hbw
          have HB2 := Lib.hid (HB.out.trans (hbw.mono hs))
          have hsw := hbw.size
          clear hno hbw
          by_cases hu2 : u < 8
          · obtain ⟨b, off, rfl, hbl, hc⟩ := HR.out.cells (by omega)
            have x1 := (HB2.out.cell (p := ⟨b, off + u, none⟩) (by simp; omega)).trans (hc u (.int .i64 (xs[u]?.getD 0)) (by simp [show u < xs.length by omega]))
            change wr.cell? _ = some (.int .i64 (nthC xs u)) at x1
            have z2 : (u : Int) < 8 := by omega
            have hA := HBad.out u hu2
            have HSt1 : Hid (okNC (-1099511627776) 1099511627776 (nthC xs u) = true → ∀ j, j < u + 1 → okNC (-1099511627776) 1099511627776 (nthC xs j) = true) := by
              show okNC (-1099511627776) 1099511627776 (nthC xs u) = true → ∀ j, j < u + 1 → okNC (-1099511627776) 1099511627776 (nthC xs j) = true
              intro h j hj
              by_cases e : j = u
              · rw [e]; exact h
              · exact HNo.out j (by omega)
            have HStu := Lib.hid (HSt.out u x hu2 hx2)
            have HSu := Lib.hid (smC_succ u (fun v => wt v x * nthC xs v))
            have HWu := Lib.hid (fun W => HW.out u x hu2 hx2 W)
            clear hc
            by_cases h1 : nthC xs u < -1099511627776
            · have HA := Lib.hid (hA (by simp [okNC]; omega))
              clear hA HSt1 HStu HSu HWu
              generalize nthC xs u = y at *
              go_wp2_with fail
              go_ret2
              exact ⟨_, ret_sndC (by rw [HA.out]), by rw [HA.out]; exact World.ownsRow_nil _ _ _ _, HB2.out⟩
            · by_cases h2 : 1099511627776 < nthC xs u
              · have HA := Lib.hid (hA (by simp [okNC]; omega))
                clear hA HSt1 HStu HSu HWu
                generalize nthC xs u = y at *
                go_wp2_with fail
                go_ret2
                exact ⟨_, ret_sndC (by rw [HA.out]), by rw [HA.out]; exact World.ownsRow_nil _ _ _ _, HB2.out⟩
              · have HN2 := Lib.hid (HSt1.out (by simp [okNC]; omega))
                obtain ⟨⟨p1, p2⟩, s1, s2⟩ := HStu.out HN2.out
                clear hA HSt1 HStu
                replace HSu := Lib.hid (HSu.out.trans rfl : (smC (u + 1) fun v => wt v x * nthC xs v) = (smC u fun v => wt v x * nthC xs v) + wt u x * nthC xs u)
                generalize (smC u fun v => wt v x * nthC xs v) = s at *
                generalize nthC xs u = y at *
                generalize wt u x = a at *
                have e1 : IntKind.i64.wrap (a * y) = a * y := by rw [IntKind.wrap_i64]; omega
                have e2 : IntKind.i64.wrap (s + a * y) = s + a * y := by rw [IntKind.wrap_i64]; omega
                have k0 := cell_regrown x1
                have C1 : ∀ d os, Calls Try.prog 27 #[.int .i64 u, .int .i64 x] (grow (redrawn wr d) os) fun e w'' => e = .returned (.int .i64 a) ∧ ∃ p : Regrown, w'' = grow (redrawn wr p.d) p.os := fun d os => Calls.regrown_of (HWu.out _)
                go_wp2_with fail
                refine wp_region_quiet_below (by kernel_rfl) (by kernel_rfl) ?_
                iterate 11 quiet_step ((go_at_call 27; exact C1 _ _))
                refine wpQuiet_nil ?_
                rintro _ ⟨⟨dq, osq⟩, rfl⟩
                have HB4 := Lib.hid (HBw.out.trans ((below_regrown wr dq osq).mono HBw.out.size))
                generalize grow (redrawn wr dq) osq = w4 at *
                go_wp2_with fail
                go_roundw
                case rel => exact ⟨u + 1, by go_num, by omega, by rw [HSu.out], HN2.out, HB4.out⟩
                case measure => simp [intOf]; omega
          · obtain rfl : u = 8 := by omega
            have HSn := Lib.hid (ofC_snoc x (fun x => smC 8 fun u => wt u x * nthC xs u))
            have HO2 := Lib.hid (ownsRow_belowN HO.out HBw.out)
            replace HSn := Lib.hid (HSn.out : intV (ofC x fun x => smC 8 fun u => wt u x * nthC xs u) ++ [.int .i64 (smC 8 fun u => wt u x * nthC xs u)] = intV (ofC (x + 1) fun x => smC 8 fun u => wt u x * nthC xs u))
            generalize (smC 8 fun v => wt v x * nthC xs v) = y at *
            go_wp2_with (at_builtin; go_loud (refine wpList_append_v rfl _ _ 22 3 i2 (.int .i64 0) 8 rfl Try.underlying22y hi2' hz20 hz21 hz22 rfl w.heap.size _ x _ rfl (HO2.out.alloc _) (some ⟨wr.heap.size, 0, none⟩) 1 1 [.int .i64 y] rfl (src_one _ _ _) (fun e => nomatch e) (by simp [Value.oneCell']) (by omega) (by omega) (by simp; omega) ?_); intro v1 w1 hap; have HA := Lib.hid hap; clear hap)
            go_roundw
            case rel =>
              refine ⟨x + 1, by go_num, by omega, fun _ => HNo.out, ?_, ?_⟩
              · rw [← HSn.out]
                exact HA.out.1
              · exact (HB2.out.alloc (by omega) _).grown HA.out.2.1 (by simp; omega) (fun j e => (HO2.out.lt j e).1)
            case measure => simp [intOf]; omega
      · obtain rfl : x = 8 := by omega
        have HFin := Lib.hid (HGood.out (HOk.out (by omega)))
        go_wp2
        go_ret2
        exact ⟨_, ret_sndC (by rw [HFin.out]), by rw [HFin.out]; simp only [lineS_length]; exact HO.out, HB.out⟩
  · rw [lineR_bad (by rw [checkR_len (by omega)]; decide), checkR_len (by omega)]
    have e1 : ((len : Int) != 8) = true := by simp; omega
    go_enter Try.func17, Try.ntmps17
    go_wp2
    go_ret2
    exact ⟨_, rfl, World.ownsRow_nil _ _ _ _, Below.refl _ _⟩

end Go.Proofs.Ytpmdeoiajnfabaa
