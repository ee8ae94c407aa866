/- coeff: texts of bits (spell, textAt), HasPrefix, isPair, escaped, Escape, End. coeff: escaped, Escape. -/
import Derived.Test.YtbcfiafgolcbpaaGreatDoorERef3
/- coeff: texts of bits (spell, textAt), HasPrefix, isPair, escaped, Escape, End. -/
namespace Go.Proofs.YtbcfiafgolcbpaaGreatDoor
open Go.RowKit Go.Shelf Go.Sort
set_option linter.unusedVariables false

theorem or_pow (m n : Nat) (h : n < 2 ^ m) (hm : m ≤ 30) : bits .or .i64 (IntKind.i64.wrap (2 ^ m)) (n : Int) = ((2 ^ m + n : Nat) : Int) := by
  have hp : 2 ^ m ≤ 2 ^ 30 := Nat.pow_le_pow_right (by omega) hm
  have hp2 : (2 : Nat) ^ 30 = 1073741824 := by decide
  have hw : IntKind.i64.wrap ((2 : Int) ^ m) = ((2 ^ m : Nat) : Int) := by
    rw [IntKind.wrap_i64, show (2 : Int) ^ m = ((2 ^ m : Nat) : Int) by rw [Int.natCast_pow]; rfl]
    omega
  rw [hw]
  show IntKind.i64.wrap ((BitVec.ofInt 64 ((2 ^ m : Nat) : Int) ||| BitVec.ofInt 64 (n : Int)).toNat : Int) = _
  rw [BitVec.toNat_or, ofInt_nat64 _ (by omega), ofInt_nat64 _ (by omega)]
  have := Nat.two_pow_add_eq_or_of_lt h 1
  rw [Nat.mul_one] at this
  rw [← this, IntKind.wrap_i64]
  omega
theorem binS_high (m n : Nat) : binS (2 ^ m + n) m = binS n m := by
  unfold binS binL
  congr 2
  apply List.map_congr_left
  intro i hi
  have him : i < m := by simpa using hi
  unfold cbit
  have e : 2 ^ m = 2 ^ (m - 1 - i) * (2 * 2 ^ i) := by
    rw [← Nat.pow_succ', ← Nat.pow_add]
    congr 1
    omega
  rw [e, Nat.mul_add_div (Nat.two_pow_pos _)]
  congr 2
  omega
theorem tail_append (a b : ByteArray) (h : a.size = 1) (m : Nat) (hb : b.size = m) : (a ++ b).extract 1 (m + 1) = b := by
  apply ByteArray.ext
  apply Array.toList_inj.1
  have ha : a.data.toList.length = 1 := by simpa using h
  have hbl : b.data.toList.length = m := by simpa using hb
  simp only [ByteArray.data_extract, Array.toList_extract, ByteArray.data_append, Array.toList_append, List.extract]
  rw [List.drop_append, ha, List.drop_of_length_le (by omega)]
  simp only [Nat.sub_self, List.drop_zero, List.nil_append, Nat.add_sub_cancel]
  rw [List.take_of_length_le (by omega)]
theorem binS_tail (m n : Nat) : (binS (2 ^ m + n) (m + 1)).extract 1 (m + 1) = binS n m := by
  rw [binS_cons, binS_high]
  exact tail_append _ _ rfl m (binS_size n m)
theorem binS_snoc (x b k : Nat) (hb : b < 2) : binS (2 * x + b) (k + 1) = binS x k ++ (⟨#[UInt8.ofNat (48 + b)]⟩ : ByteArray) := by
  apply ByteArray.ext
  apply Array.toList_inj.1
  have h : (binS (2 * x + b) (k + 1)).data.toList = (binS x k).data.toList ++ [UInt8.ofNat (48 + b)] := by
    simp only [binS, binL, List.range_succ, List.map_append, List.map_cons, List.map_nil]
    congr 1
    · apply List.map_congr_left
      intro i hi
      have hik : i < k := by simpa using hi
      unfold cbit
      rw [show k + 1 - 1 - i = (k - 1 - i) + 1 by omega, Nat.pow_succ', ← Nat.div_div_eq_div_mul, show (2 * x + b) / 2 = x by omega]
    · unfold cbit
      rw [show k + 1 - 1 - k = 0 by omega, Nat.pow_zero, Nat.div_one, show (2 * x + b) % 2 = b by omega]
  rw [h]
  simp
theorem binS_num (zs : List UInt8) (a k : Nat) : binS (num zs a k) k = seenB zs a k := by
  induction k with
  | zero => rfl
  | succ k ih =>
    rw [show num zs a (k + 1) = 2 * num zs a k + bt zs (a + k) from rfl, binS_snoc _ _ _ (by have := bt_le zs (a + k); omega), ih, seenB_succ]

theorem wrap_i64_eq (x : Int) : IntKind.i64.wrap x = wrap64 x := by
  first | rfl | (rw [IntKind.wrap_i64]; rfl) | (unfold wrap64; rw [IntKind.wrap_i64])
set_option maxRecDepth 100000 in
set_option maxHeartbeats 1000000 in
theorem espell_any (n m : Nat) (h : n < 2 ^ m) (hm : m ≤ 30) (w : World) (hT : Tab2 w) :
    Calls Tryz.prog 117 #[.int .i64 (n : Nat), .int .i64 (m : Nat)] w fun e w' => e = .returned (.string (binS n m)) ∧ Below w.heap.size w w' := by
  have ho : bits .or .i64 (wrap64 (2 ^ m)) (n : Int) = ((2 ^ m + n : Nat) : Int) := by
    rw [show wrap64 ((2 : Int) ^ m) = IntKind.i64.wrap (2 ^ m) from (wrap_i64_eq _).symm]
    exact or_pow m n h hm
  have hp : 2 ^ (m + 1) = 2 ^ m + 2 ^ m := by rw [Nat.pow_succ]; omega
  have hF := Lib.hid (fmtInt_two (2 ^ m + n) m (by omega) (by omega) (by omega) w hT)
  have hsz := binS_size (2 ^ m + n) (m + 1)
  have HX := Lib.hid (binS_tail m n)
  clear h hp
  generalize binS (2 ^ m + n) (m + 1) = s at *
  generalize 2 ^ m + n = x at *
  go_enter Tryz.func117, Tryz.ntmps117
  go_wp2_with fail
  refine hF.out.mono ?_
  rintro e w' ⟨rfl, hb⟩
  go_wp2
  go_ret
  exact ⟨by rw [HX.out]; rfl, hb⟩

theorem slHas_any (s t : ByteArray) (w : World) :
    Calls Tryz.prog 126 #[.string s, .string t] w fun e w' => e = .returned (.bool (begins s t)) ∧ w = w' := by
  by_cases h : t.size ≤ s.size
  · go_enter Tryz.func126, Tryz.ntmps126
    go_wp2
    go_ret
    refine ⟨ret_bool ?_, rfl⟩
    rw [begins_le h]
    rw [Bool.eq_iff_iff, decide_eq_true_eq]
    exact str_eq_iff _ _
  · go_enter Tryz.func126, Tryz.ntmps126
    go_wp2
    go_ret
    exact ⟨ret_bool (begins_lt h).symm, rfl⟩
theorem hasPrefix_any (s t : ByteArray) (w : World) :
    Calls Tryz.prog 109 #[.string s, .string t] w fun e w' => e = .returned (.bool (begins s t)) ∧ w = w' := by
  have H := Lib.hid (slHas_any s t w)
  generalize begins s t = b at *
  go_enter Tryz.func109, Tryz.ntmps109
  go_wp2_with (go_at_call 126; refine H.out.mono ?_; rintro e w' ⟨rfl, rfl⟩)
  go_ret
  exact ⟨rfl, rfl⟩
theorem eend_any (w : World) : Calls Tryz.prog 63 #[] w fun e w' => e = .returned (.string end8) ∧ w = w' := by
  go_enter Tryz.func63, Tryz.ntmps63
  go_wp2
  go_ret
  exact ⟨rfl, rfl⟩

/-- how many bits Get looks at -/
def lookN (zs : List UInt8) (a : Nat) : Nat := min 20 (8 * zs.length - a)
set_option maxHeartbeats 1000000 in
theorem textAt_any {n₁ : Nat} {w : World} {sv : Value} {zs : List UInt8} (hB : Byt n₁ w sv zs) (hl : zs.length ≤ 1099511627776) (A : Nat) (hA : (A : Int) ≤ 9223372036854775807) (hT : Tab2 w) :
    Calls Tryz.prog 108 #[sv, .int .i64 (A : Nat)] w fun e w' => e = .returned (.string (seenB zs A (lookN zs A))) ∧ Below w.heap.size w w' := by
  obtain ⟨m, hm⟩ : ∃ m, m = lookN zs A := ⟨_, rfl⟩
  rw [← hm]
  have hm20 : m ≤ 20 := by rw [hm]; unfold lookN; omega
  have hR : Hid (Calls Tryz.prog 81 #[sv, .int .i64 (A : Int), .int .i64 (m : Int)] w fun e w' => e = .returned (.tuple #[.int .i64 (num zs A m : Nat), .int .i64 0]) ∧ w = w') := by
    have h := read_two hB (A : Int) (m : Int) hA
    have e1 : readN zs (A : Int) (m : Int) = (num zs A m : Nat) := by
      by_cases h0 : m = 0
      · subst h0
        unfold readN
        repeat' split
        all_goals first | rfl | omega
      · unfold readN lookN at *
        rw [if_neg (by omega), if_neg (by omega), Int.toNat_natCast, Int.toNat_natCast]
    have e2 : readE zs (A : Int) (m : Int) = 0 := by
      unfold readE lookN at *
      rw [if_neg (by omega), if_neg (by omega)]
    rw [e1, e2] at h
    exact h
  have HS := Lib.hid (espell_any (num zs A m) m (num_lt zs A m) (by omega) w hT)
  rw [binS_num] at HS
  have hN := num_lt zs A m
  have hN2 : num zs A m < 1048576 := Nat.lt_of_lt_of_le hN (by have : 2 ^ m ≤ 2 ^ 20 := Nat.pow_le_pow_right (by omega) hm20; simpa using this)
  obtain ⟨a, cap, rfl, hl', _⟩ := hB
  have HC := Lib.hid (count_any a zs.length cap w (by omega))
  have hmin : max 0 (min 20 (((zs.length : Int) * 8) - (A : Int))) = (m : Int) := by rw [hm]; unfold lookN; omega
  generalize seenB zs A m = s at *
  generalize num zs A m = x at *
  clear hm hN
  go_enter Tryz.func108, Tryz.ntmps108
  go_wp2_with fail
  refine HC.out.mono ?_
  rintro e w' ⟨rfl, rfl⟩
  go_wp2_with fail
  refine hR.out.mono ?_
  rintro e w' ⟨rfl, rfl⟩
  go_wp2_with (go_at_call 117; refine HS.out.mono ?_; rintro e w' ⟨rfl, hb⟩)
  go_ret
  exact ⟨rfl, hb⟩

set_option maxHeartbeats 1000000 in
theorem eisPair_any (r l : Int) (w : World) : Calls Tryz.prog 90 #[pairV r l] w fun e w' => e = .returned (.bool (isP r l)) ∧ w' = w.alloc (.cells #[.int .i64 r, .int .i64 l] 66 (0, 0)) := by
  by_cases h1 : 0 ≤ r
  · by_cases h2 : r ≤ 63
    · by_cases h5 : l = 0
      · subst h5
        rw [isP_no (by omega)]
        go_enter Tryz.func90, Tryz.ntmps90
        go_wp2
        go_ret
        exact ⟨rfl, rfl⟩
      · have t5 : (l != 0) = true := by simp [h5]
        by_cases h3 : -127 ≤ l
        · by_cases h4 : l ≤ 127
          · rw [isP_yes h1 h2 h3 h4 h5]
            clear h5
            go_enter Tryz.func90, Tryz.ntmps90
            go_wp2
            go_ret
            exact ⟨rfl, rfl⟩
          · rw [isP_no (by omega)]
            clear h5
            go_enter Tryz.func90, Tryz.ntmps90
            go_wp2
            go_ret
            exact ⟨rfl, rfl⟩
        · rw [isP_no (by omega)]
          clear h5
          go_enter Tryz.func90, Tryz.ntmps90
          go_wp2
          go_ret
          exact ⟨rfl, rfl⟩
    · rw [isP_no (by omega)]
      go_enter Tryz.func90, Tryz.ntmps90
      go_wp2
      go_ret
      exact ⟨rfl, rfl⟩
  · rw [isP_no (by omega)]
    go_enter Tryz.func90, Tryz.ntmps90
    go_wp2
    go_ret
    exact ⟨rfl, rfl⟩

end Go.Proofs.YtbcfiafgolcbpaaGreatDoor

/- coeff: escaped, Escape. -/
namespace Go.Proofs.YtbcfiafgolcbpaaGreatDoor
open Go.RowKit Go.Shelf Go.Sort
set_option linter.unusedVariables false

theorem i8_fin : ∀ L : Fin 256, IntKind.i8.wrap (L.val : Int) = if 128 ≤ L.val then (L.val : Int) - 256 else L.val := by decide +kernel
/-- what escaped answers -/
abbrev threeV (g : Got) : Value := .tuple #[.agg #[.int .i64 g.run, .int .i64 g.level], .int .i64 g.many, .int .i64 g.err]

set_option maxRecDepth 100000 in
set_option maxHeartbeats 4000000 in
theorem escaped_any {n₁ : Nat} {w : World} {sv : Value} {zs : List UInt8} (hB : Byt n₁ w sv zs) (hn : n₁ ≤ w.heap.size) (hl : zs.length ≤ 1099511627776) (A : Nat) (hA : A + 6 ≤ 8 * zs.length) :
    Calls Tryz.prog 110 #[sv, .int .i64 (A : Nat)] w fun e w' => e = .returned (threeV (escG zs A)) ∧ Below w.heap.size w w' := by
  have HR1 : Hid (∀ w', Below w.heap.size w w' → Calls Tryz.prog 81 #[sv, .int .i64 ((A : Int) + 6), .int .i64 6] w' fun e w'' => e = .returned (.tuple #[.int .i64 (readN zs ((A : Int) + 6) 6), .int .i64 (readE zs ((A : Int) + 6) 6)]) ∧ w' = w'') := fun w' hb => read_two (hB.below (hb.mono hn)) _ _ (by omega)
  have HR2 : Hid (∀ w', Below w.heap.size w w' → Calls Tryz.prog 81 #[sv, .int .i64 ((A : Int) + 6 + 6), .int .i64 8] w' fun e w'' => e = .returned (.tuple #[.int .i64 (readN zs ((A : Int) + 6 + 6) 8), .int .i64 (readE zs ((A : Int) + 6 + 6) 8)]) ∧ w' = w'') := fun w' hb => read_two (hB.below (hb.mono hn)) _ _ (by omega)
  have hb0 : Below w.heap.size w (w.alloc (.cells #[.int .i64 0, .int .i64 0] 66 (0, 0))) := (Below.refl _ w).alloc (Nat.le_refl _) _
  have HB0 := Lib.hid hb0
  have hbox := World.alloc_heap_new w (.cells #[.int .i64 0, .int .i64 0] 66 (0, 0))
  have hsz : (w.alloc (.cells #[.int .i64 0, .int .i64 0] 66 (0, 0))).heap.size = w.heap.size + 1 := by simp
  clear hB hb0
  unfold escG
  by_cases hm : 8 * zs.length < A + 20
  · rw [if_pos hm]
    have e2 : readE zs ((A : Int) + 6 + 6) 8 = 5 := by unfold readE; rw [if_neg (by omega), if_pos (by omega)]
    rw [e2] at HR2
    generalize readN zs ((A : Int) + 6 + 6) 8 = x2 at *
    generalize readN zs ((A : Int) + 6) 6 = x1 at *
    generalize readE zs ((A : Int) + 6) 6 = y1 at *
    clear e2 hm
    go_enter Tryz.func110, Tryz.ntmps110
    go_wp2_with fail
    generalize w.alloc (.cells #[.int .i64 0, .int .i64 0] 66 (0, 0)) = w1 at *
    refine (HR1.out _ HB0.out).mono ?_
    rintro e w' ⟨rfl, rfl⟩
    go_wp2_with fail
    refine (HR2.out _ HB0.out).mono ?_
    rintro e w' ⟨rfl, rfl⟩
    obtain ⟨c0, c1, f0, f1⟩ := pair_cells hbox
    go_wp2
    refine bodyPost_ret (v := threeV (badG 5)) (by simp [results, Tryz.f110, go_sem, c0, c1]) rfl ⟨rfl, ?_⟩
    exact ((HB0.out).setCell (p := ⟨w.heap.size, 0, none⟩) (Nat.le_refl _) _).setCell (p := ⟨w.heap.size, 1, none⟩) (Nat.le_refl _) _
  · rw [if_neg hm]
    have e1 : readN zs ((A : Int) + 6) 6 = (num zs (A + 6) 6 : Nat) := by unfold readN; rw [if_neg (by omega), if_neg (by omega), show ((A : Int) + 6).toNat = A + 6 by omega]; rfl
    have e2 : readN zs ((A : Int) + 6 + 6) 8 = (num zs (A + 12) 8 : Nat) := by unfold readN; rw [if_neg (by omega), if_neg (by omega), show ((A : Int) + 6 + 6).toNat = A + 12 by omega]; rfl
    have e3 : readE zs ((A : Int) + 6 + 6) 8 = 0 := by unfold readE; rw [if_neg (by omega), if_neg (by omega)]
    rw [e1] at HR1
    rw [e2, e3] at HR2
    have hR := num_lt zs (A + 6) 6
    have hL := num_lt zs (A + 12) 8
    simp only [show 2 ^ 6 = 64 from rfl, show 2 ^ 8 = 256 from rfl] at hR hL
    generalize readE zs ((A : Int) + 6) 6 = y1 at *
    generalize num zs (A + 6) 6 = R at *
    generalize num zs (A + 12) 8 = L at *
    clear e1 e2 e3 hm
    have hw := i8_fin ⟨L, hL⟩
    simp only at hw
    obtain ⟨lv, hlv⟩ : ∃ lv : Int, lv = if 128 ≤ L then (L : Int) - 256 else L := ⟨_, rfl⟩
    rw [← hlv] at hw
    have hl1 : -128 ≤ lv := by rw [hlv]; split <;> omega
    have hl2 : lv ≤ 127 := by rw [hlv]; split <;> omega
    have HP := Lib.hid (fun w => eisPair_any (R : Int) lv w)
    have hE : (if L = 0 ∨ L = 128 then badG 10 else ⟨R, lvl L, false, 20, 0⟩ : Got) = if isP (R : Int) lv = true then ⟨R, lv, false, 20, 0⟩ else badG 10 := by
      by_cases h : L = 0 ∨ L = 128
      · rw [if_pos h, isP_no (by rw [hlv]; rcases h with rfl | rfl <;> simp)]
        rfl
      · rw [if_neg h, isP_yes (by omega) (by omega) (by rw [hlv]; split <;> omega) hl2 (by rw [hlv]; split <;> omega), if_pos rfl]
        have : lvl L = lv := by
          rw [hlv]
          unfold lvl
          split <;> split <;> omega
        rw [this]
    rw [hE]
    clear hE hlv
    cases hp : isP (R : Int) lv with
    | false =>
      rw [hp] at HP
      rw [if_neg (by decide)]
      clear hp
      go_enter Tryz.func110, Tryz.ntmps110
      go_wp2_with fail
      generalize w.alloc (.cells #[.int .i64 0, .int .i64 0] 66 (0, 0)) = w1 at *
      refine (HR1.out _ HB0.out).mono ?_
      rintro e w' ⟨rfl, rfl⟩
      go_wp2_with fail
      refine (HR2.out _ HB0.out).mono ?_
      rintro e w' ⟨rfl, rfl⟩
      obtain ⟨c0, c1, f0, f1⟩ := pair_cells hbox
      go_wp2_with fail
      refine (HP.out _).mono ?_
      rintro e w' ⟨rfl, rfl⟩
      have hlt0 : w.heap.size < w1.heap.size := by omega
      go_wp2
      refine bodyPost_ret (v := threeV (badG 10)) (by simp [results, Tryz.f110, go_sem, hlt0, c0, c1]) rfl ⟨rfl, ?_⟩
      exact ((((HB0.out).setCell (p := ⟨w.heap.size, 0, none⟩) (Nat.le_refl _) _).setCell (p := ⟨w.heap.size, 1, none⟩) (Nat.le_refl _) _).alloc (by simp; omega) _).alloc (by simp; omega) _
    | true =>
      rw [hp] at HP
      rw [if_pos rfl]
      clear hp
      go_enter Tryz.func110, Tryz.ntmps110
      go_wp2_with fail
      generalize w.alloc (.cells #[.int .i64 0, .int .i64 0] 66 (0, 0)) = w1 at *
      refine (HR1.out _ HB0.out).mono ?_
      rintro e w' ⟨rfl, rfl⟩
      go_wp2_with fail
      refine (HR2.out _ HB0.out).mono ?_
      rintro e w' ⟨rfl, rfl⟩
      obtain ⟨c0, c1, f0, f1⟩ := pair_cells hbox
      go_wp2_with fail
      refine (HP.out _).mono ?_
      rintro e w' ⟨rfl, rfl⟩
      have hlt0 : w.heap.size < w1.heap.size := by omega
      go_wp2
      refine bodyPost_ret (v := threeV ⟨R, lv, false, 20, 0⟩) (by simp [results, Tryz.f110, go_sem, hlt0, c0, c1]) rfl ⟨rfl, ?_⟩
      exact ((((HB0.out).setCell (p := ⟨w.heap.size, 0, none⟩) (Nat.le_refl _) _).setCell (p := ⟨w.heap.size, 1, none⟩) (Nat.le_refl _) _).alloc (by simp; omega) _).alloc (by simp; omega) _

/-! ### Escape -/
theorem u8_mod (l : Int) : IntKind.u8.wrap l = l % 256 := IntKind.wrap_u8 l

set_option maxRecDepth 100000 in
set_option maxHeartbeats 4000000 in
theorem eescape_any (r l : Int) (w : World) (hT : Tab2 w) :
    Calls Tryz.prog 92 #[pairV r l] w fun e w' => e = .returned (.tuple #[.string (escS8 r l), .int .i64 (putE8 r l)]) ∧ Below w.heap.size w w' := by
  have hb0 : Below w.heap.size w (w.alloc (.cells #[.int .i64 r, .int .i64 l] 66 (0, 0))) := (Below.refl _ w).alloc (Nat.le_refl _) _
  have HK := Lib.hid (eisPair_any r l (w.alloc (.cells #[.int .i64 r, .int .i64 l] 66 (0, 0))))
  have HB0 := Lib.hid hb0
  cases hp : isP r l with
  | false =>
    rw [hp] at HK
    rw [show escS8 r l = ⟨#[]⟩ by unfold escS8; rw [hp]; rfl, show putE8 r l = 3 by unfold putE8; rw [hp]; rfl]
    go_enter Tryz.func92, Tryz.ntmps92
    go_wp2_with (go_at_call 90; refine HK.out.mono ?_; rintro e w2 ⟨rfl, rfl⟩)
    go_ret2
    exact ⟨rfl, HB0.out.alloc (by simp) _⟩
  | true =>
    rw [hp] at HK
    rw [show escS8 r l = escS r l by unfold escS8; rw [hp]; rfl, show putE8 r l = 0 by unfold putE8; rw [hp]; rfl]
    obtain ⟨h1, h2, h3, h4, h5⟩ := isP_of hp
    obtain ⟨n, rfl⟩ := Int.eq_ofNat_of_zero_le h1
    obtain ⟨m, hm⟩ := Int.eq_ofNat_of_zero_le (Int.emod_nonneg (l + 256) (b := 256) (by omega))
    have hm2 : m < 256 := by omega
    have HE := Lib.hid (show escS (n : Int) l = esc8 ++ binS n 6 ++ binS m 8 by unfold escS; rw [hm]; rfl)
    have ht0 : IntKind.u8.wrap l = (m : Int) := by rw [u8_mod]; omega
    have ht1 : l % 256 = (m : Int) := by omega
    have ht2 : IntKind.i64.wrap (m : Int) = (m : Int) := by rw [IntKind.wrap_i64]; omega
    have HT := Lib.hid (fun w' (hb : Below w.heap.size w w') => hT.below hb)
    have HI6 : Hid (∀ w, Tab2 w → Calls Tryz.prog 117 #[.int .i64 (n : Int), .int .i64 6] w fun e w' => e = .returned (.string (binS n 6)) ∧ Below w.heap.size w w') := fun w hT => espell_any n 6 (by have : 2 ^ 6 = 64 := rfl; omega) (by omega) w hT
    have HI8 : Hid (∀ w, Tab2 w → Calls Tryz.prog 117 #[.int .i64 (m : Int), .int .i64 8] w fun e w' => e = .returned (.string (binS m 8)) ∧ Below w.heap.size w w') := fun w hT => espell_any m 8 (by have : 2 ^ 8 = 256 := rfl; omega) (by omega) w hT
    have z6 := binS_size n 6
    have z8 := binS_size m 8
    obtain ⟨z0, z1⟩ := two_cells w (.int .i64 (n : Int)) (.int .i64 l) 66
    have hsz : (w.alloc (.cells #[.int .i64 (n : Int), .int .i64 l] 66 (0, 0))).heap.size = w.heap.size + 1 := by simp
    generalize binS n 6 = s6 at *
    generalize binS m 8 = s8 at *
    clear hp hm hT
    go_enter Tryz.func92, Tryz.ntmps92
    go_wp2_with fail
    generalize w.alloc (.cells #[.int .i64 (n : Int), .int .i64 l] 66 (0, 0)) = w1 at *
    refine HK.out.mono ?_
    rintro e w2 ⟨rfl, hw2⟩
    have b2 : Below w1.heap.size w1 w2 := by rw [hw2]; exact (Below.refl _ _).alloc (Nat.le_refl _) _
    clear hw2
    have hx0 := (b2.cell (p := ⟨w.heap.size, 0, none⟩) (by simp; omega)).trans z0
    have hx1 := (b2.cell (p := ⟨w.heap.size, 1, none⟩) (by simp; omega)).trans z1
    have HB2 := Lib.hid (HB0.out.trans (b2.mono (by omega)))
    have hw2 : w.heap.size < w2.heap.size := by have := b2.size; omega
    clear b2 HK hb0 z0 z1
    have hsx : s6.size + s8.size + 6 ≤ 1000 := by omega
    have k0 := cell_regrown hx0
    have k1 := cell_regrown hx1
    have hTr : ∀ d os, Tab2 (grow (redrawn w2 d) os) := fun d os => HT.out _ (HB2.out.trans ((below_regrown w2 d os).mono (by omega)))
    have C6 : ∀ d os, Calls Tryz.prog 117 #[.int .i64 (n : Int), .int .i64 6] (grow (redrawn w2 d) os) fun e w'' => e = .returned (.string s6) ∧ ∃ p : Regrown, w'' = grow (redrawn w2 p.d) p.os := fun d os => Calls.regrown_of (HI6.out _ (hTr d os))
    have C8 : ∀ d os, Calls Tryz.prog 117 #[.int .i64 (m : Int), .int .i64 8] (grow (redrawn w2 d) os) fun e w'' => e = .returned (.string s8) ∧ ∃ p : Regrown, w'' = grow (redrawn w2 p.d) p.os := fun d os => Calls.regrown_of (HI8.out _ (hTr d os))
    clear HI6 HI8 hTr
    go_wp2
    refine wp_region_quiet_below (by kernel_rfl) (by kernel_rfl) ?_
    iterate 3 quiet_step ((go_at_call 117; exact C6 _ _))
    iterate 6 quiet_step ((go_at_call 117; exact C8 _ _))
    iterate 3 quiet_step (fail)
    refine wpQuiet_nil ?_
    rintro _ ⟨⟨dq, osq⟩, rfl⟩
    go_wp2
    go_ret2
    exact ⟨by rw [HE.out]; rfl, HB2.out.trans ((below_regrown w2 dq osq).mono (by omega))⟩

end Go.Proofs.YtbcfiafgolcbpaaGreatDoor
