/- loop: what its functions must answer, as a record; the laws' helpers some, even, filters, awake (praxinoscopelaw15). -/
import Derived.Test.YtdpnmddjhlkbjaaLRef2
namespace Go.Proofs.Ytdpnmddjhlkbjaa
open Go.RowKit Go.Shelf Go.Sort
set_option linter.unusedVariables false

/-- what loop's functions must answer -/
structure LoopI : Prop where
  soften : ∀ {n₀ : Nat} {w : World} {av : Option Addr} {len cap : Nat} {xs : List Int}, RowV n₀ w av len cap (intV xs) → n₀ ≤ w.heap.size → len ≤ 1000000 → I64s xs →
    Calls Try.prog 13 #[.slice av len cap] w fun e w' => ∃ v, e = .returned (.tuple #[v, .int .i64 (sfE xs)]) ∧ w'.ownsRow w.heap.size 3 1 v (sfL xs).length (intV (sfL xs)) ∧ Below w.heap.size w w'
  filter : ∀ {n₀ : Nat} {w : World} {sv : Value} {zs : List UInt8}, Byt n₀ w sv zs → n₀ ≤ w.heap.size → Capped sv →
    Calls Try.prog 11 #[sv] w fun e w' => ∃ v, e = .returned (.tuple #[v, .int .i64 (fbE zs.length)]) ∧ w'.ownsRow w.heap.size 5 1 v (fbL zs).length (u8s (fbL zs)) ∧ Below w.heap.size w w'

/-- noughts, and so many samples at places -/
def someS (L : List UInt8) : Nat → List UInt8
  | 0 => zeroB64
  | n + 1 => (someS L n).set ((L[2 * n]?.getD 0).toNat % 64) (L[2 * n + 1]?.getD 0)
theorem someS_length (L : List UInt8) (n : Nat) : (someS L n).length = 64 := by
  induction n with
  | zero => rfl
  | succ n ih => simp [someS, ih]
set_option maxRecDepth 100000 in
set_option maxHeartbeats 2000000 in
theorem some15_any {n₀ : Nat} {w : World} {av : Option Addr} {cap : Nat} {L : List UInt8} (n : Nat) (hL : L.length = 2 * n) (hn : n ≤ 16) (hB : Byt n₀ w (.slice av L.length cap) L) (hn₀ : n₀ ≤ w.heap.size) :
    Calls Try.prog 25 #[.slice av L.length cap] w fun e w' => e = .returned (.slice (some ⟨w.heap.size, 0, none⟩) 64 64) ∧ BytR w' w.heap.size (someS L n) ∧ Below w.heap.size w w' := by
  obtain ⟨a', cap', e0, -, hc⟩ := hB
  cases e0
  have HX : Hid (∀ w', Below w.heap.size w w' → ∀ j, j < L.length → ∃ b off, av = some ⟨b, off, none⟩ ∧ w'.cell? ⟨b, off + j, none⟩ = some (.int .u8 (L[j]?.getD 0).toNat)) := fun w' hb j hj => by
    rcases hc with e | ⟨b, off, rfl, hbl, hc⟩
    · rw [e] at hj; cases hj
    · exact ⟨b, off, rfl, (hb.cell (p := ⟨b, off + j, none⟩) (by simp; omega)).trans (hc j hj)⟩
  have hmk := made64b w
  have HN := Lib.hid (bytR_new w zeroB64)
  have HB1 := Lib.hid ((Below.refl _ w).alloc (Nat.le_refl _) (.cells (u8s zeroB64).toArray 5 (0, 0)))
  generalize w.alloc (.cells (u8s zeroB64).toArray 5 (0, 0)) = w2 at *
  have HLl := Lib.hid (someS_length L)
  generalize hlen : L.length = len at *
  have HLn : Hid (len = 2 * n) := hL
  clear hc hL hlen
  go_enter Try.func25, Try.ntmps25
  go_wp2_with fail
  clear hmk
  go_loopw [4] (fun i wr => ∃ k : Nat, i = .int .i64 ((2 * k : Nat) : Int) ∧ k ≤ n ∧ BytR wr w.heap.size (someS L k) ∧ Below w.heap.size w wr) (fun i _ => 2 * n - (intOf i).toNat)
  case atStart => exact ⟨0, rfl, by omega, HN.out, HB1.out⟩
  case round =>
    obtain ⟨k, rfl, hk, hN, hB⟩ := hrel
    have HO := Lib.hid hN
    have HB := Lib.hid hB
    clear hN hB
    by_cases hk2 : k < n
    · have hLn := HLn.out
      obtain ⟨b, off, rfl, x0⟩ := HX.out wr HB.out (2 * k) (by omega)
      obtain ⟨b', off', e, x1⟩ := HX.out wr HB.out (2 * k + 1) (by omega)
      cases e
      have HSt := Lib.hid (show (someS L k).set ((L[2 * k]?.getD 0).toNat % 64) (L[2 * k + 1]?.getD 0) = someS L (k + 1) from rfl)
      obtain ⟨q0, hq0⟩ : ∃ q0, q0 = 2 * k := ⟨_, rfl⟩
      obtain ⟨q1, hq1⟩ : ∃ q1, q1 = 2 * k + 1 := ⟨_, rfl⟩
      rw [← hq1] at x1 HSt
      rw [← hq0] at x0 HSt
      generalize L[q0]?.getD 0 = z0 at *
      generalize L[q1]?.getD 0 = z1 at *
      rw [← hq0]
      have hz0 := z0.toNat_lt
      obtain ⟨m, hm⟩ : ∃ m, m = z0.toNat % 64 := ⟨_, rfl⟩
      rw [← hm] at HSt
      have i0 : (q0 : Int) < (len : Int) := by omega
      have i1 : (q1 : Int) < (len : Int) := by omega
      have i2 : (m : Int) < 64 := by omega
      have i3 : (q0 : Int) < 100 := by omega
      have i4 : (0 : Int) ≤ q0 := by omega
      have e1 : IntKind.i64.wrap ((q0 : Int) + 1) = (q1 : Int) := by rw [IntKind.wrap_i64]; omega
      have e2 : Int.tmod ((z0.toNat : Nat) : Int) 64 = (m : Int) := by rw [Int.tmod_eq_emod_of_nonneg (by omega)]; omega
      have e3 : IntKind.u8.wrap (m : Int) = (m : Int) := by rw [IntKind.wrap_u8]; omega
      have c1 := HO.out.cell (k := m) (by rw [HLl.out]; omega)
      have f1 := HO.out.frozen m
      have HQ : Hid (q0 = 2 * k) := hq0
      clear hm hz0 hq0 hq1 hLn
      go_wp2_with fail
      refine wp_region_quiet_tail (C := fun w' => ∃ n, w' = wr.drewN n) 12 (by kernel_rfl) (by kernel_rfl) ⟨1, rfl⟩ ?_
      simp only [List.take_succ_cons, List.take_zero, List.drop_succ_cons, List.drop_zero]
      iterate 12 quiet_step (fail)
      refine wpQuiet_nil ?_
      rintro _ ⟨nq, rfl⟩
      have HO3 : Hid (BytR (wr.drewN nq) w.heap.size (someS L k)) := HO.out
      have HB3 := Lib.hid (HB.out.trans (below_drewN _ _ nq))
      go_wp2_with fail
      go_roundw
      case rel => exact ⟨k + 1, congrArg (Value.int .i64) (by have := HQ.out; omega), by omega, by rw [← HSt.out]; exact HO3.out.set _ _, HB3.out.setCell (p := ⟨w.heap.size, m, none⟩) (Nat.le_refl _) _⟩
      case measure => have := HQ.out; simp [intOf]; omega
    · obtain rfl : k = n := by omega
      have q1 : ¬ (2 * (k : Int) + 1 < (len : Int)) := by have := HLn.out; omega
      go_wp2_with fail
      go_ret
      exact ⟨rfl, HO.out, HB.out⟩

/-- so many samples alike -/
def evenP (x : UInt8) (k : Nat) : List UInt8 := (List.range 64).map fun j => if j < k then x else 0
theorem evenP_length (x : UInt8) (k : Nat) : (evenP x k).length = 64 := by simp [evenP]
theorem evenP_zero (x : UInt8) : evenP x 0 = zeroB64 := rfl
theorem evenP_step (x : UInt8) {k : Nat} (hk : k < 64) : (evenP x k).set k x = evenP x (k + 1) := listB_ext (n := 64) (by simp [evenP]) (evenP_length _ _) (fun j hj => by
  unfold evenP
  rw [List.getElem?_set]
  by_cases h : k = j
  · rw [if_pos h, if_pos (by simp; omega)]
    simp [hj, show j < k + 1 by omega]
  · rw [if_neg h]
    by_cases h2 : j < k
    · simp [hj, h2, show j < k + 1 by omega]
    · simp [hj, h2, show ¬ j < k + 1 by omega])
set_option maxRecDepth 100000 in
set_option maxHeartbeats 2000000 in
theorem even15_any (x : UInt8) (w : World) : Calls Try.prog 24 #[.int .u8 x.toNat] w fun e w' => e = .returned (.slice (some ⟨w.heap.size, 0, none⟩) 64 64) ∧ BytR w' w.heap.size (evenP x 64) ∧ Below w.heap.size w w' := by
  have hmk := made64b w
  have HN := Lib.hid (bytR_new w zeroB64)
  have HB1 := Lib.hid ((Below.refl _ w).alloc (Nat.le_refl _) (.cells (u8s zeroB64).toArray 5 (0, 0)))
  generalize w.alloc (.cells (u8s zeroB64).toArray 5 (0, 0)) = w2 at *
  go_enter Try.func24, Try.ntmps24
  go_wp2_with fail
  clear hmk
  go_loopw [4] (fun i wr => ∃ k : Nat, i = .int .i64 (k : Int) ∧ k ≤ 64 ∧ BytR wr w.heap.size (evenP x k) ∧ Below w.heap.size w wr) (fun i _ => 64 - (intOf i).toNat)
  case atStart => exact ⟨0, rfl, by omega, HN.out, HB1.out⟩
  case round =>
    obtain ⟨k, rfl, hk, hN, hB⟩ := hrel
    have HO := Lib.hid hN
    have HB := Lib.hid hB
    clear hN hB
    by_cases hk2 : k < 64
    · have i0 : (k : Int) < 64 := by omega
      have c1 := HO.out.cell (k := k) (by rw [evenP_length]; omega)
      have f1 := HO.out.frozen k
      have HSt := Lib.hid (evenP_step x hk2)
      go_wp2_with fail
      go_roundw
      case rel => exact ⟨k + 1, by go_num, by omega, by rw [← HSt.out]; exact HO.out.set _ _, HB.out.setCell (p := ⟨w.heap.size, k, none⟩) (Nat.le_refl _) _⟩
      case measure => simp [intOf]; omega
    · obtain rfl : k = 64 := by omega
      go_wp2_with fail
      go_ret
      exact ⟨rfl, HO.out, HB.out⟩

set_option maxRecDepth 100000 in
set_option maxHeartbeats 2000000 in
theorem filters15_any (I : LoopI) {n₀ n₁ : Nat} {w : World} {u v : Value} {zs ws : List UInt8} (hB : Byt n₀ w u zs) (hn : n₀ ≤ w.heap.size) (hk : Capped u) (hW : Byt n₁ w v ws) (hn₁ : n₁ ≤ w.heap.size) (h64 : zs.length = 64) (hf : fbL zs = ws) :
    Calls Try.prog 23 #[u, v] w fun e w' => e = .returned (.bool true) ∧ Below w.heap.size w w' := by
  have HF := Lib.hid (I.filter hB hn hk)
  rw [hf, show fbE zs.length = 0 from if_pos h64] at HF
  have hwl : ws.length = 64 := by rw [← hf, fbL_length, if_pos h64]
  rw [hwl] at HF
  have HW := Lib.hid (fun w' (hb : Below w.heap.size w w') => hW.below (hb.mono hn₁))
  clear hf hB hk hW
  go_enter Try.func23, Try.ntmps23
  go_wp2_with fail
  refine HF.out.mono ?_
  rintro e w1 ⟨r, rfl, ho, hb⟩
  have HB1 := Lib.hid hb
  have HS := Lib.hid (same_any (byt_own (by rw [hwl]; exact ho) (by omega) (Nat.le_refl _)) (HW.out w1 hb))
  simp only [decide_true] at HS
  clear ho hb HF
  go_wp2_with fail
  refine HS.out.mono ?_
  rintro e w2 ⟨rfl, rfl⟩
  go_wp2
  go_ret
  exact ⟨rfl, HB1.out⟩

end Go.Proofs.Ytdpnmddjhlkbjaa
