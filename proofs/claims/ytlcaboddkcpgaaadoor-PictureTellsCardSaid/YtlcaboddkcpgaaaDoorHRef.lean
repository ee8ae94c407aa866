/- picture: the reference's Digits, Spare, Check, Format, Put (praxinoscoperef17). -/
import Derived.Test.YtlcaboddkcpgaaaDoorHPlain
import Derived.Test.YtlcaboddkcpgaaaDoorROne
import Derived.Lib.QuietBelow
namespace Go.Proofs.YtlcaboddkcpgaaaDoor
open Go.RowKit Go.Shelf Go.Sort
set_option linter.unusedVariables false

theorem binS_snoc17 (q k : Nat) : binS q (k + 1) = binS (q / 2) k ++ (⟨#[UInt8.ofNat (48 + q % 2)]⟩ : ByteArray) := by
  apply ByteArray.ext
  apply Array.toList_inj.1
  have h : (binS q (k + 1)).data.toList = (binS (q / 2) k).data.toList ++ [UInt8.ofNat (48 + q % 2)] := by
    simp only [binS, binL, List.range_succ, List.map_append, List.map_cons, List.map_nil]
    congr 1
    · apply List.map_congr_left
      intro i hi
      have hi := List.mem_range.1 hi
      unfold cbit
      rw [Nat.div_div_eq_div_mul, show 2 * 2 ^ (k - 1 - i) = 2 ^ (k + 1 - 1 - i) by rw [Nat.mul_comm, ← Nat.pow_succ]; congr 1; omega]
    · unfold cbit
      rw [show k + 1 - 1 - k = 0 by omega]
      simp
  rw [h]
  simp

set_option maxRecDepth 100000 in
set_option maxHeartbeats 1000000 in
theorem digits17_any (n m : Nat) (hn : n ≤ 1000000) (hm : m ≤ 30) (w : World) :
    Calls Tryd.prog 31 #[.int .i64 (n : Nat), .int .i64 (m : Nat)] w fun e w' => e = .returned (.string (binS n m)) ∧ Below w.heap.size w w' := by
  go_enter Tryd.func31, Tryd.ntmps31
  go_wp2
  go_loopw [5, 6] (fun s i wr => ∃ k : Nat, k ≤ m ∧ s = .string (binS (n / 2 ^ (m - k)) k) ∧ i = .int .i64 ((m : Int) - 1 - k) ∧ Below w.heap.size w wr) (fun _ i _ => (intOf i + 1).toNat)
  case atStart => exact ⟨0, Nat.zero_le _, rfl, by go_num, Below.refl _ _⟩
  case round =>
    obtain ⟨k, hk, rfl, rfl, hB⟩ := hrel
    have HB := Lib.hid hB
    have hbs := hB.size
    clear hB
    by_cases hk2 : k < m
    · have HS : Hid (binS (n / 2 ^ (m - (k + 1))) (k + 1) = binS (n / 2 ^ (m - k)) k ++ (⟨#[UInt8.ofNat (48 + n / 2 ^ (m - 1 - k) % 2)]⟩ : ByteArray)) := by
        show _ = _
        rw [binS_snoc17, Nat.div_div_eq_div_mul, ← Nat.pow_succ, show (m - (k + 1)).succ = m - k by omega, show m - (k + 1) = m - 1 - k by omega]
      have hsz := binS_size (n / 2 ^ (m - k)) k
      generalize binS (n / 2 ^ (m - k)) k = s at *
      obtain ⟨i, hi⟩ : ∃ i : Nat, (m : Int) - 1 - k = (i : Int) := ⟨m - 1 - k, by omega⟩
      have hi2 : m - 1 - k = i := by omega
      have hi3 : i ≤ 30 := by omega
      have HI := Lib.hid (show (i : Int) - 1 = (m : Int) - 1 - ((k + 1 : Nat) : Int) by omega)
      rw [hi2] at HS
      rw [hi]
      have hq : ((n : Int) / 2 ^ i) = ((n / 2 ^ i : Nat) : Int) := by rw [Int.natCast_ediv]; simp
      obtain hv | hv : n / 2 ^ i % 2 = 0 ∨ n / 2 ^ i % 2 = 1 := by omega
      · rw [hv] at HS
        have hv2 : ((n : Int) / 2 ^ i).tmod 2 = 0 := by rw [hq, Int.tmod_eq_emod_of_nonneg (Int.natCast_nonneg _)]; omega
        have c1 : (convert 22 9 (.slice (some ⟨wr.heap.size, 0, none⟩) 1 1)).run Tryd.prog (wr.alloc (.cells #[.int .u8 48] 5 (0, 0))) = .ok (.string ⟨#[48]⟩) (wr.alloc (.cells #[.int .u8 48] 5 (0, 0))) := conv_one wr 48
        clear hv hq
        go_wp2_with fail
        go_roundw
        case rel => exact ⟨k + 1, by omega, by rw [HS.out]; rfl, by rw [← HI.out], HB.out.alloc hbs _⟩
        case measure => simp [intOf]
      · rw [hv] at HS
        have hv2 : ((n : Int) / 2 ^ i).tmod 2 = 1 := by rw [hq, Int.tmod_eq_emod_of_nonneg (Int.natCast_nonneg _)]; omega
        have c1 : (convert 22 9 (.slice (some ⟨wr.heap.size, 0, none⟩) 1 1)).run Tryd.prog (wr.alloc (.cells #[.int .u8 49] 5 (0, 0))) = .ok (.string ⟨#[49]⟩) (wr.alloc (.cells #[.int .u8 49] 5 (0, 0))) := conv_one wr 49
        clear hv hq
        go_wp2_with fail
        go_roundw
        case rel => exact ⟨k + 1, by omega, by rw [HS.out]; rfl, by rw [← HI.out], HB.out.alloc hbs _⟩
        case measure => simp [intOf]
    · obtain rfl : k = m := by omega
      rw [show n / 2 ^ (k - k) = n by simp]
      rw [show (k : Int) - 1 - k = -1 by omega]
      go_wp2_with fail
      go_ret
      exact ⟨rfl, HB.out⟩

/-- so many spare bytes, ahead of the end -/
def spT (xs : List UInt8) (k : Nat) : ByteArray := ⟨((xs.take k).flatMap fun x => 49 :: binL x.toNat 8).toArray⟩
theorem spT_step {xs : List UInt8} {k : Nat} (hk : k < xs.length) : spT xs (k + 1) = spT xs k ++ (⟨#[49]⟩ : ByteArray) ++ binS (xs[k]?.getD 0).toNat 8 := by
  apply ByteArray.ext
  apply Array.toList_inj.1
  have h : xs.take (k + 1) = xs.take k ++ [xs[k]?.getD 0] := by rw [List.take_add_one, List.getElem?_eq_getElem hk]; rfl
  simp [spT, h, binS]
theorem spT_all (xs : List UInt8) : spT xs xs.length ++ (⟨#[48]⟩ : ByteArray) = spS xs := by
  apply ByteArray.ext
  apply Array.toList_inj.1
  have h : ∀ ys : List UInt8, spL ys = (ys.flatMap fun x => 49 :: binL x.toNat 8) ++ [48] := by
    intro ys
    induction ys with
    | nil => rfl
    | cons y ys ih => simp [spL, ih]
  simp [spT, spS, h]
theorem spT_size (xs : List UInt8) : ∀ k, k ≤ xs.length → (spT xs k).size = 9 * k
  | 0, _ => rfl
  | k + 1, h => by
    rw [spT_step (by omega), ByteArray.size_append, ByteArray.size_append, spT_size xs k (by omega), binS_size]
    show 9 * k + 1 + 8 = _
    omega

set_option maxRecDepth 100000 in
set_option maxHeartbeats 1000000 in
theorem spare17_any {n₀ : Nat} {w : World} {sv : Value} {xs : List UInt8} (hB : Byt n₀ w sv xs) (hn : n₀ ≤ w.heap.size) (hl : xs.length ≤ 1000000) :
    Calls Tryd.prog 32 #[sv] w fun e w' => e = .returned (.string (spS xs)) ∧ Below w.heap.size w w' := by
  obtain ⟨av, cap, rfl, hlen, hcell⟩ := hB
  have HX : Hid (∀ W', Below w.heap.size w W' → ∀ k, k < xs.length → ∃ b off, av = some ⟨b, off, none⟩ ∧ W'.cell? ⟨b, off + k, none⟩ = some (.int .u8 (xs[k]?.getD 0).toNat)) := fun W' hb k hk => by
    rcases hcell with e | ⟨b, off, rfl, hbl, hc⟩
    · rw [e] at hk; cases hk
    · exact ⟨b, off, rfl, (hb.cell (p := ⟨b, off + k, none⟩) (by simp; omega)).trans (hc k hk)⟩
  have HD := Lib.hid (fun (z : UInt8) W => digits17_any z.toNat 8 (by have := z.toNat_lt; omega) (by omega) W)
  have HSz := Lib.hid (spT_size xs)
  clear hcell
  go_enter Tryd.func32, Tryd.ntmps32
  go_wp2_with fail
  go_loopw [3, 4] (fun s i wr => ∃ k : Nat, k ≤ xs.length ∧ s = .string (spT xs k) ∧ i = .int .i64 (k : Int) ∧ Below w.heap.size w wr) (fun _ i _ => xs.length - (intOf i).toNat)
  case atStart => exact ⟨0, Nat.zero_le _, rfl, rfl, Below.refl _ _⟩
  case round =>
    obtain ⟨k, hk, rfl, rfl, hB⟩ := hrel
    have HB := Lib.hid hB
    have hbs := hB.size
    clear hB
    by_cases hk2 : k < xs.length
    · obtain ⟨b, off, rfl, x1⟩ := HX.out wr HB.out k hk2
      have HSt := Lib.hid (spT_step hk2)
      have hsz := HSz.out k hk
      generalize xs[k]?.getD 0 = z at *
      have HDz := Lib.hid (HD.out z wr)
      have hbz := binS_size z.toNat 8
      have hz := z.toNat_lt
      generalize spT xs k = s at *
      generalize binS z.toNat 8 = u at *
      go_wp2_with fail
      refine HDz.out.mono ?_
      rintro e w2 ⟨rfl, hb⟩
      have HB2 := Lib.hid (HB.out.trans (hb.mono hbs))
      clear hb
      go_wp2_with fail
      go_roundw
      case rel => exact ⟨k + 1, by omega, by rw [HSt.out], by go_num, HB2.out⟩
      case measure => simp [intOf]; omega
    · obtain rfl : k = xs.length := by omega
      have HA := Lib.hid (spT_all xs)
      have hsz := HSz.out _ (Nat.le_refl _)
      generalize spT xs xs.length = s at *
      go_wp2_with fail
      go_ret
      exact ⟨congrArg (fun s => Ending.returned (.string s)) HA.out, HB.out⟩

/-- a header by value -/
abbrev headV (t y : Int) (sv : Value) : Value := .agg #[.int .i64 t, .int .i64 y, sv]

set_option maxRecDepth 100000 in
set_option maxHeartbeats 1000000 in
theorem check17_any (t y : Int) {n₀ : Nat} {w : World} {sv : Value} {xs : List UInt8} (hB : Byt n₀ w sv xs) :
    Calls Tryd.prog 13 #[headV t y sv] w fun e w' => e = .returned (.int .i64 (ckH t y xs.length)) ∧ Below w.heap.size w w' := by
  obtain ⟨av, cap, rfl, hlen, hcell⟩ := hB
  clear hcell
  have hb : ∀ o, Below w.heap.size w (w.alloc o) := fun o => (Below.refl _ w).alloc (Nat.le_refl _) o
  have HB := Lib.hid hb
  clear hb
  by_cases h1 : t < 0
  · rw [show ckH t y xs.length = 2 from if_neg (by omega)]
    go_enter Tryd.func13, Tryd.ntmps13
    go_wp2
    go_ret
    exact ⟨rfl, HB.out _⟩
  · by_cases h2 : 31 < t
    · rw [show ckH t y xs.length = 2 from if_neg (by omega)]
      go_enter Tryd.func13, Tryd.ntmps13
      go_wp2
      go_ret
      exact ⟨rfl, HB.out _⟩
    · by_cases h3 : y < 0
      · rw [show ckH t y xs.length = 2 from if_neg (by omega)]
        go_enter Tryd.func13, Tryd.ntmps13
        go_wp2
        go_ret
        exact ⟨rfl, HB.out _⟩
      · by_cases h4 : 63 < y
        · rw [show ckH t y xs.length = 2 from if_neg (by omega)]
          go_enter Tryd.func13, Tryd.ntmps13
          go_wp2
          go_ret
          exact ⟨rfl, HB.out _⟩
        · by_cases h5 : 32 < xs.length
          · rw [show ckH t y xs.length = 2 from if_neg (by omega)]
            have h5' : (32 : Int) < (xs.length : Int) := by omega
            go_enter Tryd.func13, Tryd.ntmps13
            go_wp2
            go_ret
            exact ⟨rfl, HB.out _⟩
          · rw [show ckH t y xs.length = 0 from if_pos (by omega)]
            have h5' : ¬ (32 : Int) < (xs.length : Int) := by omega
            go_enter Tryd.func13, Tryd.ntmps13
            go_wp2
            go_ret
            exact ⟨rfl, HB.out _⟩

theorem i64_and63 (y : Int) (h : -9223372036854775808 ≤ y ∧ y ≤ 9223372036854775807) : bits .and .i64 y 63 = y % 64 := by
  have h1 : (BitVec.ofInt 64 63).toNat = 2 ^ 6 - 1 := by decide
  have key : (BitVec.ofInt 64 y &&& BitVec.ofInt 64 63).toNat = (y % ((2 ^ 64 : Nat) : Int)).toNat % 2 ^ 6 := by
    rw [BitVec.toNat_and, BitVec.toNat_ofInt, h1, Nat.and_two_pow_sub_one_eq_mod]
  show IntKind.i64.wrap ((BitVec.ofInt 64 y &&& BitVec.ofInt 64 63).toNat : Nat) = y % 64
  rw [key, IntKind.wrap_i64]
  omega
set_option maxRecDepth 100000 in
theorem format17_any (t y : Int) (hy : -9223372036854775808 ≤ y ∧ y ≤ 9223372036854775807) (sv : Value) (w : World) :
    Calls Tryd.prog 15 #[headV t y sv] w fun e w' => e = .returned (.int .i64 (fmH y)) ∧ Below w.heap.size w w' := by
  have ha := i64_and63 y hy
  have h1 : 0 ≤ y % 64 ∧ y % 64 < 64 := by omega
  have h2 : (y % 64).tdiv 4 = y % 64 / 4 := Int.tdiv_eq_ediv_of_nonneg (by omega)
  have h3 : (y % 64 / 4).tmod 2 = y % 64 / 4 % 2 := Int.tmod_eq_emod_of_nonneg (by omega)
  unfold fmH
  go_enter Tryd.func15, Tryd.ntmps15
  go_wp2
  go_ret
  exact ⟨rfl, (Below.refl _ w).alloc (Nat.le_refl _) _⟩

set_option maxRecDepth 100000 in
set_option maxHeartbeats 2000000 in
theorem put17_any (t y : Int) {n₀ : Nat} {w : World} {sv : Value} {xs : List UInt8} (hB : Byt n₀ w sv xs) (hn : n₀ ≤ w.heap.size) :
    Calls Tryd.prog 11 #[headV t y sv] w fun e w' => e = .returned (.tuple #[.string (txH t y xs), .int .i64 (ckH t y xs.length)]) ∧ Below w.heap.size w w' := by
  have hb0 : ∀ o, Below w.heap.size w (w.alloc o) := fun o => (Below.refl _ w).alloc (Nat.le_refl _) o
  have HC := Lib.hid (fun W' (hb : Below w.heap.size w W') => check17_any t y ((Byt.below (hb.mono hn) hB)))
  by_cases h0 : ckH t y xs.length = 0
  · obtain ⟨h1, h2, h3, h4, h5⟩ := (ckH_iff t y xs.length).1 h0
    obtain ⟨tn, rfl⟩ : ∃ n : Nat, t = n := ⟨t.toNat, by omega⟩
    obtain ⟨yn, rfl⟩ : ∃ n : Nat, y = n := ⟨y.toNat, by omega⟩
    rw [txH_ok h0, h0, Int.toNat_natCast, Int.toNat_natCast]
    rw [h0] at HC
    have HD1 := Lib.hid (digits17_any tn 5 (by omega) (by omega))
    have HD2 := Lib.hid (digits17_any yn 6 (by omega) (by omega))
    have HS := Lib.hid (fun W' (hb : Below w.heap.size w W') => spare17_any (Byt.below (hb.mono hn) hB) (by have := hb.size; omega) (by omega))
    have z1 := binS_size tn 5
    have z2 := binS_size yn 6
    have z3 := spS_size xs
    rw [show binS tn 5 ++ (binS yn 6 ++ spS xs) = binS tn 5 ++ binS yn 6 ++ spS xs from (ByteArray.append_assoc).symm]
    generalize binS tn 5 = s1 at *
    generalize binS yn 6 = s2 at *
    generalize spS xs = s3 at *
    have z4 : (s1 ++ s2).size = 11 := by rw [ByteArray.size_append, z1, z2]
    obtain ⟨s12, h12⟩ : ∃ s, s1 ++ s2 = s := ⟨_, rfl⟩
    rw [h12] at z4 ⊢
    have z5 : ¬ 9223372036854775807 < 11 + (9 * xs.length + 1) := by omega
    have HB0 := Lib.hid hb0
    have hx : ∀ o, (w.alloc o).heap[w.heap.size]? = some o := fun o => World.alloc_heap_new _ _
    have HX := Lib.hid hx
    clear hB hb0 hx h0 h1 h3
    go_enter Tryd.func11, Tryd.ntmps11
    go_wp2_with fail
    refine (HC.out _ (HB0.out _)).mono ?_
    rintro e w2 ⟨rfl, hb2⟩
    obtain ⟨w1, hw1⟩ : ∃ w1, w.alloc (.cells #[.int .i64 tn, .int .i64 yn, sv] 24 (0, 0)) = w1 := ⟨_, rfl⟩
    have hB1 : Below w.heap.size w w1 := by rw [← hw1]; exact HB0.out _
    have hx1 : w1.heap[w.heap.size]? = some (.cells #[.int .i64 tn, .int .i64 yn, sv] 24 (0, 0)) := by rw [← hw1]; exact HX.out _
    rw [hw1] at hb2
    have hB2 : Below w.heap.size w w2 := hB1.trans (hb2.mono hB1.size)
    have hx2 := (hb2.block _ (Array.getElem?_eq_some_iff.1 hx1).1).trans hx1
    clear hb2 hw1 hx1 hB1
    have C1 : ∀ d os, Calls Tryd.prog 31 #[.int .i64 tn, .int .i64 5] (Sort.grow (redrawn w2 d) os) fun e w'' => e = .returned (.string s1) ∧ ∃ p : Regrown, w'' = Sort.grow (redrawn w2 p.d) p.os := fun d os => Calls.regrown_of (HD1.out _)
    have C2 : ∀ d os, Calls Tryd.prog 31 #[.int .i64 yn, .int .i64 6] (Sort.grow (redrawn w2 d) os) fun e w'' => e = .returned (.string s2) ∧ ∃ p : Regrown, w'' = Sort.grow (redrawn w2 p.d) p.os := fun d os => Calls.regrown_of (HD2.out _)
    have C3 : ∀ d os, Calls Tryd.prog 32 #[sv] (Sort.grow (redrawn w2 d) os) fun e w'' => e = .returned (.string s3) ∧ ∃ p : Regrown, w'' = Sort.grow (redrawn w2 p.d) p.os := fun d os => Calls.regrown_of (HS.out _ (hB2.trans ((below_regrown w2 d os).mono hB2.size)))
    have k0 : ∀ d os, (Sort.grow (redrawn w2 d) os).cell? ⟨w.heap.size, 0, none⟩ = some (.int .i64 tn) := fun d os => cell_regrown (by simp [World.cell?, hx2]) d os
    have k1 : ∀ d os, (Sort.grow (redrawn w2 d) os).cell? ⟨w.heap.size, 1, none⟩ = some (.int .i64 yn) := fun d os => cell_regrown (by simp [World.cell?, hx2]) d os
    have k2 : ∀ d os, (Sort.grow (redrawn w2 d) os).cell? ⟨w.heap.size, 2, none⟩ = some sv := fun d os => cell_regrown (by simp [World.cell?, hx2]) d os
    go_wp2_with fail
    refine wp_region_quiet_below (by kernel_rfl) (by kernel_rfl) ?_
    iterate 13 quiet_step (first | (go_at_call 31; first | with_reducible exact C1 _ _ | with_reducible exact C2 _ _) | (go_at_call 32; exact C3 _ _))
    refine wpQuiet_nil ?_
    rintro _ ⟨⟨dq, osq⟩, rfl⟩
    have hB4 := hB2.trans ((below_regrown w2 dq osq).mono hB2.size)
    go_wp2_with fail
    go_ret2
    exact ⟨rfl, hB4⟩
  · rw [txH_bad h0, ckH_two h0]
    rw [ckH_two h0] at HC
    have HB0 := Lib.hid hb0
    clear hB hb0 h0
    go_enter Tryd.func11, Tryd.ntmps11
    go_wp2_with fail
    refine (HC.out _ (HB0.out _)).mono ?_
    rintro e w2 ⟨rfl, hb2⟩
    have hB := (HB0.out _).trans (hb2.mono (by simp))
    clear hb2
    go_wp2_with fail
    go_ret2
    exact ⟨rfl, hB⟩

end Go.Proofs.YtlcaboddkcpgaaaDoor
