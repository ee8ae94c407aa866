/- coeff: texts of bits (spell, textAt), HasPrefix, isPair, escaped, Escape, End. -/
import Derived.Test.YtejcgkplcbapfaaDoorERef4
namespace Go.Proofs.YtejcgkplcbapfaaDoor
open Go.RowKit Go.Shelf Go.Sort
set_option linter.unusedVariables false

theorem or_pow (m n : Nat) (h : n < 2 ^ m) (hm : m ≤ 30) : bits .or .i64 (IntKind.i64.wrap (2 ^ m)) (n : Int) = ((2 ^ m + n : Nat) : Int) := by
  have hp : 2 ^ m ≤ 2 ^ 30 := Nat.pow_le_pow_right (by omega) hm
  have hp2 : (2 : Nat) ^ 30 = 1073741824 := by decide
  have hw : IntKind.i64.wrap ((2 : Int) ^ m) = ((2 ^ m : Nat) : Int) := by
    rw [IntKind.wrap_i64, show (2 : Int) ^ m = ((2 ^ m : Nat) : Int) by rw [Int.natCast_pow]; rfl]
    omega
  rw [hw]
  show IntKind.i64.wrap ((BitVec.ofInt 64 ((2 ^ m : Nat) : Int) ||| BitVec.ofInt 64 (n : Int)).toNat : Int) = _
  rw [BitVec.toNat_or, ofInt_nat64 _ (by omega), ofInt_nat64 _ (by omega)]
  have := Nat.two_pow_add_eq_or_of_lt h 1
  rw [Nat.mul_one] at this
  rw [← this, IntKind.wrap_i64]
  omega
theorem binS_high (m n : Nat) : binS (2 ^ m + n) m = binS n m := by
  unfold binS binL
  congr 2
  apply List.map_congr_left
  intro i hi
  have him : i < m := by simpa using hi
  unfold cbit
  have e : 2 ^ m = 2 ^ (m - 1 - i) * (2 * 2 ^ i) := by
    rw [← Nat.pow_succ', ← Nat.pow_add]
    congr 1
    omega
  rw [e, Nat.mul_add_div (Nat.two_pow_pos _)]
  congr 2
  omega
theorem tail_append (a b : ByteArray) (h : a.size = 1) (m : Nat) (hb : b.size = m) : (a ++ b).extract 1 (m + 1) = b := by
  apply ByteArray.ext
  apply Array.toList_inj.1
  have ha : a.data.toList.length = 1 := by simpa using h
  have hbl : b.data.toList.length = m := by simpa using hb
  simp only [ByteArray.data_extract, Array.toList_extract, ByteArray.data_append, Array.toList_append, List.extract]
  rw [List.drop_append, ha, List.drop_of_length_le (by omega)]
  simp only [Nat.sub_self, List.drop_zero, List.nil_append, Nat.add_sub_cancel]
  rw [List.take_of_length_le (by omega)]
theorem binS_tail (m n : Nat) : (binS (2 ^ m + n) (m + 1)).extract 1 (m + 1) = binS n m := by
  rw [binS_cons, binS_high]
  exact tail_append _ _ rfl m (binS_size n m)
theorem binS_snoc (x b k : Nat) (hb : b < 2) : binS (2 * x + b) (k + 1) = binS x k ++ (⟨#[UInt8.ofNat (48 + b)]⟩ : ByteArray) := by
  apply ByteArray.ext
  apply Array.toList_inj.1
  have h : (binS (2 * x + b) (k + 1)).data.toList = (binS x k).data.toList ++ [UInt8.ofNat (48 + b)] := by
    simp only [binS, binL, List.range_succ, List.map_append, List.map_cons, List.map_nil]
    congr 1
    · apply List.map_congr_left
      intro i hi
      have hik : i < k := by simpa using hi
      unfold cbit
      rw [show k + 1 - 1 - i = (k - 1 - i) + 1 by omega, Nat.pow_succ', ← Nat.div_div_eq_div_mul, show (2 * x + b) / 2 = x by omega]
    · unfold cbit
      rw [show k + 1 - 1 - k = 0 by omega, Nat.pow_zero, Nat.div_one, show (2 * x + b) % 2 = b by omega]
  rw [h]
  simp
theorem binS_num (zs : List UInt8) (a k : Nat) : binS (num zs a k) k = seenB zs a k := by
  induction k with
  | zero => rfl
  | succ k ih =>
    rw [show num zs a (k + 1) = 2 * num zs a k + bt zs (a + k) from rfl, binS_snoc _ _ _ (by have := bt_le zs (a + k); omega), ih, seenB_succ]

theorem wrap_i64_eq (x : Int) : IntKind.i64.wrap x = wrap64 x := by
  first | rfl | (rw [IntKind.wrap_i64]; rfl) | (unfold wrap64; rw [IntKind.wrap_i64])
set_option maxRecDepth 100000 in
set_option maxHeartbeats 1000000 in
theorem espell_any (n m : Nat) (h : n < 2 ^ m) (hm : m ≤ 30) (w : World) (hT : Tab2 w) :
    Calls Tryd.prog 38 #[.int .i64 (n : Nat), .int .i64 (m : Nat)] w fun e w' => e = .returned (.string (binS n m)) ∧ Below w.heap.size w w' := by
  have ho : bits .or .i64 (wrap64 (2 ^ m)) (n : Int) = ((2 ^ m + n : Nat) : Int) := by
    rw [show wrap64 ((2 : Int) ^ m) = IntKind.i64.wrap (2 ^ m) from (wrap_i64_eq _).symm]
    exact or_pow m n h hm
  have hp : 2 ^ (m + 1) = 2 ^ m + 2 ^ m := by rw [Nat.pow_succ]; omega
  have hF := Lib.hid (fmtInt_two (2 ^ m + n) m (by omega) (by omega) (by omega) w hT)
  have hsz := binS_size (2 ^ m + n) (m + 1)
  have HX := Lib.hid (binS_tail m n)
  clear h hp
  generalize binS (2 ^ m + n) (m + 1) = s at *
  generalize 2 ^ m + n = x at *
  go_enter Tryd.func38, Tryd.ntmps38
  go_wp2_with fail
  refine hF.out.mono ?_
  rintro e w' ⟨rfl, hb⟩
  go_wp2
  go_ret
  exact ⟨by rw [HX.out]; rfl, hb⟩

theorem slHas_any (s t : ByteArray) (w : World) :
    Calls Tryd.prog 44 #[.string s, .string t] w fun e w' => e = .returned (.bool (begins s t)) ∧ w = w' := by
  by_cases h : t.size ≤ s.size
  · go_enter Tryd.func44, Tryd.ntmps44
    go_wp2
    go_ret
    refine ⟨ret_bool ?_, rfl⟩
    rw [begins_le h]
    rw [Bool.eq_iff_iff, decide_eq_true_eq]
    exact str_eq_iff _ _
  · go_enter Tryd.func44, Tryd.ntmps44
    go_wp2
    go_ret
    exact ⟨ret_bool (begins_lt h).symm, rfl⟩
theorem hasPrefix_any (s t : ByteArray) (w : World) :
    Calls Tryd.prog 28 #[.string s, .string t] w fun e w' => e = .returned (.bool (begins s t)) ∧ w = w' := by
  have H := Lib.hid (slHas_any s t w)
  generalize begins s t = b at *
  go_enter Tryd.func28, Tryd.ntmps28
  go_wp2_with (go_at_call 44; refine H.out.mono ?_; rintro e w' ⟨rfl, rfl⟩)
  go_ret
  exact ⟨rfl, rfl⟩
theorem eend_any (w : World) : Calls Tryd.prog 20 #[] w fun e w' => e = .returned (.string end8) ∧ w = w' := by
  go_enter Tryd.func20, Tryd.ntmps20
  go_wp2
  go_ret
  exact ⟨rfl, rfl⟩

/-- how many bits Get looks at -/
def lookN (zs : List UInt8) (a : Nat) : Nat := min 20 (8 * zs.length - a)
set_option maxHeartbeats 1000000 in
theorem textAt_any {n₁ : Nat} {w : World} {sv : Value} {zs : List UInt8} (hB : Byt n₁ w sv zs) (hl : zs.length ≤ 1099511627776) (A : Nat) (hA : (A : Int) ≤ 9223372036854775807) (hT : Tab2 w) :
    Calls Tryd.prog 27 #[sv, .int .i64 (A : Nat)] w fun e w' => e = .returned (.string (seenB zs A (lookN zs A))) ∧ Below w.heap.size w w' := by
  obtain ⟨m, hm⟩ : ∃ m, m = lookN zs A := ⟨_, rfl⟩
  rw [← hm]
  have hm20 : m ≤ 20 := by rw [hm]; unfold lookN; omega
  have hR : Hid (Calls Tryd.prog 43 #[sv, .int .i64 (A : Int), .int .i64 (m : Int)] w fun e w' => e = .returned (.tuple #[.int .i64 (num zs A m : Nat), .int .i64 0]) ∧ w = w') := by
    have h := read_two hB (A : Int) (m : Int) hA
    have e1 : readN zs (A : Int) (m : Int) = (num zs A m : Nat) := by
      by_cases h0 : m = 0
      · subst h0
        unfold readN
        repeat' split
        all_goals first | rfl | omega
      · unfold readN lookN at *
        rw [if_neg (by omega), if_neg (by omega), Int.toNat_natCast, Int.toNat_natCast]
    have e2 : readE zs (A : Int) (m : Int) = 0 := by
      unfold readE lookN at *
      rw [if_neg (by omega), if_neg (by omega)]
    rw [e1, e2] at h
    exact h
  have HS := Lib.hid (espell_any (num zs A m) m (num_lt zs A m) (by omega) w hT)
  rw [binS_num] at HS
  have hN := num_lt zs A m
  have hN2 : num zs A m < 1048576 := Nat.lt_of_lt_of_le hN (by have : 2 ^ m ≤ 2 ^ 20 := Nat.pow_le_pow_right (by omega) hm20; simpa using this)
  obtain ⟨a, cap, rfl, hl', _⟩ := hB
  have HC := Lib.hid (count_any a zs.length cap w (by omega))
  have hmin : max 0 (min 20 (((zs.length : Int) * 8) - (A : Int))) = (m : Int) := by rw [hm]; unfold lookN; omega
  generalize seenB zs A m = s at *
  generalize num zs A m = x at *
  clear hm hN
  go_enter Tryd.func27, Tryd.ntmps27
  go_wp2_with fail
  refine HC.out.mono ?_
  rintro e w' ⟨rfl, rfl⟩
  go_wp2_with fail
  refine hR.out.mono ?_
  rintro e w' ⟨rfl, rfl⟩
  go_wp2_with (go_at_call 38; refine HS.out.mono ?_; rintro e w' ⟨rfl, hb⟩)
  go_ret
  exact ⟨rfl, hb⟩

set_option maxHeartbeats 1000000 in
theorem eisPair_any (r l : Int) (w : World) : Calls Tryd.prog 34 #[pairV r l] w fun e w' => e = .returned (.bool (isP r l)) ∧ w' = w.alloc (.cells #[.int .i64 r, .int .i64 l] 26 (0, 0)) := by
  by_cases h1 : 0 ≤ r
  · by_cases h2 : r ≤ 63
    · by_cases h5 : l = 0
      · subst h5
        rw [isP_no (by omega)]
        go_enter Tryd.func34, Tryd.ntmps34
        go_wp2
        go_ret
        exact ⟨rfl, rfl⟩
      · have t5 : (l != 0) = true := by simp [h5]
        by_cases h3 : -127 ≤ l
        · by_cases h4 : l ≤ 127
          · rw [isP_yes h1 h2 h3 h4 h5]
            clear h5
            go_enter Tryd.func34, Tryd.ntmps34
            go_wp2
            go_ret
            exact ⟨rfl, rfl⟩
          · rw [isP_no (by omega)]
            clear h5
            go_enter Tryd.func34, Tryd.ntmps34
            go_wp2
            go_ret
            exact ⟨rfl, rfl⟩
        · rw [isP_no (by omega)]
          clear h5
          go_enter Tryd.func34, Tryd.ntmps34
          go_wp2
          go_ret
          exact ⟨rfl, rfl⟩
    · rw [isP_no (by omega)]
      go_enter Tryd.func34, Tryd.ntmps34
      go_wp2
      go_ret
      exact ⟨rfl, rfl⟩
  · rw [isP_no (by omega)]
    go_enter Tryd.func34, Tryd.ntmps34
    go_wp2
    go_ret
    exact ⟨rfl, rfl⟩

end Go.Proofs.YtejcgkplcbapfaaDoor
