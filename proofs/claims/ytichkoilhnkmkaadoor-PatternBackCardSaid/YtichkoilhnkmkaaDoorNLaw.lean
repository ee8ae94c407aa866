/- What pattern's functions must answer, as one record; the laws' helpers gets, puts, awake (praxinoscopelaw07); the walks of PatternReads, PatternTells, PatternKnown, PatternSums, PatternNoughts. -/
import Derived.Test.YtichkoilhnkmkaaDoorNRef
import Derived.Lib.Space
namespace Go.Proofs.YtichkoilhnkmkaaDoor
open Go.RowKit Go.Shelf
set_option linter.unusedVariables false

/-- what the library's table of white space holds -/
def Spc (w : World) : Prop := ∀ c, c < 256 → w.cell? ⟨0, c, none⟩ = some (.int .u8 (if Lib.isSp (UInt8.ofNat c) then 1 else 0))
theorem Spc.below {w w' : World} (h : Spc w) (hb : Below w.heap.size w w') : Spc w' := fun c hc =>
  (hb.cell (p := ⟨0, c, none⟩) (World.block_lt_of_cell? w _ (h c hc))).trans (h c hc)

/-- what pattern's functions must answer -/
structure PatternI : Prop where
  get : ∀ {n₁ : Nat} {w : World} {sv : Value} {zs : List UInt8}, Byt n₁ w sv zs → n₁ ≤ w.heap.size → zs.length ≤ 1099511627776 → Spc w → ∀ x : Int, x ≤ 9223372036854775807 →
    Calls Tryd.prog 11 #[sv, .int .i64 x] w fun e w' => e = .returned (getT codes7 nums7 zs x) ∧ Below w.heap.size w w'
  put : ∀ (n : Int) (w : World), Spc w → -9223372036854775808 ≤ n → n ≤ 9223372036854775807 → Calls Tryd.prog 14 #[.int .i64 n] w fun e w' => e = .returned (.tuple #[.string (putS codes7 nums7 n), .int .i64 (putE3 nums7 n)]) ∧ Below w.heap.size w w'
  has : ∀ (n b : Int) (w : World), -9223372036854775808 ≤ n → n ≤ 9223372036854775807 → -9223372036854775808 ≤ b → b ≤ 9223372036854775807 → Calls Tryd.prog 16 #[.int .i64 n, .int .i64 b] w fun e w' => e = .returned (.bool (hasB n b)) ∧ w = w'
  count : ∀ (n : Int) (w : World), -9223372036854775808 ≤ n → n ≤ 9223372036854775807 → Calls Tryd.prog 18 #[.int .i64 n] w fun e w' => e = .returned (.int .i64 (countN n)) ∧ w = w'

set_option maxHeartbeats 1000000 in
theorem gets7_byt (I : PatternI) {n₁ : Nat} {w : World} {sv : Value} {zs : List UInt8} (hB : Byt n₁ w sv zs) (hn : n₁ ≤ w.heap.size) (hl : zs.length ≤ 1000) (hT : Spc w) (want size err : Int)
    (h : getT codes7 nums7 zs 0 = .tuple #[.int .i64 want, .int .i64 size, .int .i64 err]) :
    Calls Tryd.prog 20 #[.int .i64 want, .int .i64 size, .int .i64 err, sv] w fun e w' => e = .returned (.bool true) ∧ Below w.heap.size w w' := by
  have HG := Lib.hid (I.get hB hn (by omega) hT 0 (by omega))
  rw [h] at HG
  clear h hB hT
  go_enter Tryd.func20, Tryd.ntmps20
  go_wp2_with (go_at_call 11; refine HG.out.mono ?_; rintro e w' ⟨rfl, hb2⟩)
  go_ret
  exact ⟨rfl, hb2⟩
theorem gets7_lit (I : PatternI) (W : World) (hT : Spc W) (zs : List UInt8) (cs : Array Value) (len cap : Nat) (hcs : cs = (zs.map fun z => Value.int .u8 z.toNat).toArray) (hlen : zs.length = len) (want size err : Int) (hl : len ≤ 1000)
    (h : getT codes7 nums7 zs 0 = .tuple #[.int .i64 want, .int .i64 size, .int .i64 err]) (t : TypeId) :
    Calls Tryd.prog 20 #[.int .i64 want, .int .i64 size, .int .i64 err, .slice (some ⟨W.heap.size, 0, none⟩) len cap] (W.alloc (.cells cs t)) fun e w' => e = .returned (.bool true) ∧ Below W.heap.size W w' := by
  subst hlen
  have hb : Below W.heap.size W (W.alloc (.cells cs t)) := (Below.refl _ _).alloc (Nat.le_refl _) _
  refine (gets7_byt I (byt_new W zs cs cap hcs (by omega) (W.heap.size + 1) (by omega) t) (by simp) (by omega) (hT.below hb) want size err h).mono ?_
  rintro e w' ⟨rfl, hb2⟩
  exact ⟨rfl, below_chain hb (Nat.le_refl _) hb2⟩
set_option maxHeartbeats 1000000 in
theorem puts7_lit (I : PatternI) (n : Int) (want : ByteArray) (err : Int) (h1 : putS codes7 nums7 n = want) (h2 : putE3 nums7 n = err) (hn : 0 ≤ n) (hn2 : n ≤ 1000) (w : World) (hT : Spc w) :
    Calls Tryd.prog 21 #[.int .i64 n, .string want, .int .i64 err] w fun e w' => e = .returned (.bool true) ∧ Below w.heap.size w w' := by
  have HG := Lib.hid (I.put n w hT (by omega) (by omega))
  rw [h1, h2] at HG
  clear h1 h2 hT
  go_enter Tryd.func21, Tryd.ntmps21
  go_wp2_with (go_at_call 14; refine HG.out.mono ?_; rintro e w' ⟨rfl, hb2⟩)
  go_ret
  exact ⟨rfl, hb2⟩
theorem has7_lit (I : PatternI) (n b : Int) (x : Bool) (h : hasB n b = x) (hn : -1000 ≤ n) (hn2 : n ≤ 1000) (hb : -1000 ≤ b) (hb2 : b ≤ 1000) (w : World) :
    Calls Tryd.prog 16 #[.int .i64 n, .int .i64 b] w fun e w' => e = .returned (.bool x) ∧ w = w' := by
  have := I.has n b w (by omega) (by omega) (by omega) (by omega)
  rw [h] at this
  exact this
theorem count7_lit (I : PatternI) (n x : Int) (h : countN n = x) (hn : -1000 ≤ n) (hn2 : n ≤ 1000) (w : World) :
    Calls Tryd.prog 18 #[.int .i64 n] w fun e w' => e = .returned (.int .i64 x) ∧ w = w' := by
  have := I.count n w (by omega) (by omega)
  rw [h] at this
  exact this

set_option maxHeartbeats 1000000 in
theorem awake7_any (I : PatternI) (w : World) (hT : Spc w) : Calls Tryd.prog 9 #[] w fun e w' => e = .returned (.bool true) ∧ Below w.heap.size w w' := by
  have HT := Lib.hid (fun w' (hb : Below w.heap.size w w') => hT.below hb)
  have HG := Lib.hid (gets7_lit I w hT [224] _ 1 1 (by rfl) rfl 60 3 0 (by omega) (by kernel_rfl) 5)
  clear hT
  go_enter Tryd.func9, Tryd.ntmps9
  go_wp2_with fail
  refine HG.out.mono ?_
  rintro e w1 ⟨rfl, b1⟩
  have B1 := Lib.hid b1
  clear b1
  go_wp2_with fail
  refine (puts7_lit I 1 _ 0 (by decide +kernel) (by decide +kernel) (by omega) (by omega) w1 (HT.out _ B1.out)).mono ?_
  rintro e w2 ⟨rfl, b2⟩
  have B2 := Lib.hid (below_chain B1.out (Nat.le_refl _) b2)
  clear b2
  go_wp2_with fail
  refine (has7_lit I 32 1 true (by decide +kernel) (by omega) (by omega) (by omega) (by omega) w2).mono ?_
  rintro e w3 ⟨rfl, rfl⟩
  go_wp2_with fail
  refine (count7_lit I 60 4 (by decide +kernel) (by omega) (by omega) w2).mono ?_
  rintro e w3 ⟨rfl, rfl⟩
  go_wp2
  go_ret
  exact ⟨rfl, B2.out⟩

set_option maxRecDepth 100000 in
set_option maxHeartbeats 2000000 in
theorem known7_any (I : PatternI) (w : World) (hT : Spc w) : Calls Tryd.prog 5 #[] w fun e w' => e = .returned (.bool true) ∧ Below w.heap.size w w' := by
  have HT := Lib.hid (fun w' (hb : Below w.heap.size w w') => hT.below hb)
  have HA := Lib.hid (awake7_any I w hT)
  clear hT
  go_enter Tryd.func5, Tryd.ntmps5
  go_wp2_with fail
  refine (gets7_lit I w (HT.out _ (Below.refl _ _)) [1, 0] _ 2 2 (by rfl) rfl 39 9 0 (by omega) (by kernel_rfl) _).mono ?_
  rintro e w2 ⟨rfl, b2⟩
  have B2 := Lib.hid b2
  clear b2
  go_wp2_with fail
  refine (gets7_lit I w2 (HT.out _ B2.out) [0, 0] _ 2 2 (by rfl) rfl 0 0 7 (by omega) (by kernel_rfl) _).mono ?_
  rintro e w3 ⟨rfl, b3⟩
  have B3 := Lib.hid (below_chain B2.out (Nat.le_refl _) b3)
  clear b3
  go_wp2_with fail
  refine (gets7_lit I w3 (HT.out _ B3.out) [1] _ 1 1 (by rfl) rfl 0 0 5 (by omega) (by kernel_rfl) _).mono ?_
  rintro e w4 ⟨rfl, b4⟩
  have B4 := Lib.hid (below_chain B3.out (Nat.le_refl _) b4)
  clear b4
  go_wp2_with fail
  refine (puts7_lit I 63 _ 0 (by decide +kernel) (by decide +kernel) (by omega) (by omega) w4 (HT.out _ B4.out)).mono ?_
  rintro e w5 ⟨rfl, b5⟩
  have B5 := Lib.hid (below_chain B4.out (Nat.le_refl _) b5)
  clear b5
  go_wp2_with fail
  refine (puts7_lit I 0 _ 18 (by decide +kernel) (by decide +kernel) (by omega) (by omega) w5 (HT.out _ B5.out)).mono ?_
  rintro e w6 ⟨rfl, b6⟩
  have B6 := Lib.hid (below_chain B5.out (Nat.le_refl _) b6)
  clear b6
  go_wp2_with fail
  refine (puts7_lit I 64 _ 18 (by decide +kernel) (by decide +kernel) (by omega) (by omega) w6 (HT.out _ B6.out)).mono ?_
  rintro e w7 ⟨rfl, b7⟩
  have B7 := Lib.hid (below_chain B6.out (Nat.le_refl _) b7)
  clear b7
  go_wp2_with fail
  refine (awake7_any I w7 (HT.out _ B7.out)).mono ?_
  rintro e w8 ⟨rfl, b8⟩
  have B8 := Lib.hid (below_chain B7.out (Nat.le_refl _) b8)
  clear b8
  go_wp2_with fail
  refine (has7_lit I 32 2 false (by decide +kernel) (by omega) (by omega) (by omega) (by omega) w8).mono ?_
  rintro e w9 ⟨rfl, rfl⟩
  go_wp2_with fail
  refine (has7_lit I 1 6 true (by decide +kernel) (by omega) (by omega) (by omega) (by omega) w8).mono ?_
  rintro e w9 ⟨rfl, rfl⟩
  go_wp2_with fail
  refine (has7_lit I 63 7 false (by decide +kernel) (by omega) (by omega) (by omega) (by omega) w8).mono ?_
  rintro e w9 ⟨rfl, rfl⟩
  go_wp2_with fail
  refine (has7_lit I 64 1 false (by decide +kernel) (by omega) (by omega) (by omega) (by omega) w8).mono ?_
  rintro e w9 ⟨rfl, rfl⟩
  go_wp2_with fail
  refine (count7_lit I 0 0 (by decide +kernel) (by omega) (by omega) w8).mono ?_
  rintro e w9 ⟨rfl, rfl⟩
  go_wp2
  go_ret
  exact ⟨rfl, B8.out⟩

set_option maxRecDepth 100000 in
set_option maxHeartbeats 2000000 in
theorem patternReads_walk (I : PatternI) {a : Option Addr} {len cap : Nat} {zs : List UInt8} {w : World} (hS : Spc w) (hR : Row8 w.heap.size w a len cap zs) (x : Int) (hx : x ≤ 9223372036854775807) :
    Calls Tryd.prog 3 #[.slice a len cap, .int .i64 x] w fun e w' => e = .returned (.bool true) ∧ Below w.heap.size w w' := by
  by_cases h : 60 < len
  · have HA := Lib.hid (awake7_any I w hS)
    clear hR hS
    go_enter Tryd.func3, Tryd.ntmps3
    go_wp2_with (go_at_call 9; refine HA.out.mono ?_; rintro e w' ⟨rfl, b3⟩)
    go_ret
    exact ⟨rfl, b3⟩
  · have HSp := Lib.hid (fun w' (hb : Below w.heap.size w w') => hS.below hb)
    clear hS
    have hl := hR.1
    subst hl
    have HSrc : Hid (Src w a zs.length (u8s zs)) := by
      have h := hR.src (n := zs.length) (Nat.le_refl _)
      rw [List.take_length] at h
      exact h
    have HB : Hid (∀ w', Below w.heap.size w w' → Byt w.heap.size w' (.slice a zs.length cap) zs) := fun w' hb => by
      have h := hR.byt (Nat.le_refl _) (k := zs.length) (Nat.le_refl _) (by omega)
      rw [List.take_length] at h
      exact h.below hb
    have HNc := Lib.hid hR.nocap
    obtain ⟨g, n, e0, hg⟩ := getT_form7 codes7 nums7 zs x
    have HGt := Lib.hid hg
    clear hR hg
    go_enter Tryd.func3, Tryd.ntmps3
    go_wp2_with fail
    refine (lent_any HSrc.out HNc.out (by omega)).mono ?_
    rintro e w1 ⟨vi, rfl, hLe, b1⟩
    have HLe := Lib.hid hLe
    have HB1 := Lib.hid b1
    have HG := Lib.hid (I.get (hLe.byt (by omega)) (Nat.le_refl _) (by omega) (HSp.out _ b1) x hx)
    rw [HGt.out] at HG
    clear hLe b1
    go_wp2_with fail
    refine HG.out.mono ?_
    rintro e w2 ⟨rfl, b2⟩
    have HB2 := Lib.hid (below_chain HB1.out (Nat.le_refl _) b2)
    have HLe2 := Lib.hid (HLe.out.bar (bar_of_below (S := fun _ => False) b2) (fun _ _ e => e))
    clear b2
    have HG2 := Lib.hid (r7get_any (HB.out w2 HB2.out) HB2.out.size (by omega) x hx)
    rw [HGt.out] at HG2
    go_wp2_with fail
    refine HG2.out.mono ?_
    rintro e w3 ⟨rfl, b3⟩
    have HB3 := Lib.hid (below_chain HB2.out (Nat.le_refl _) b3)
    have HLe3 := Lib.hid (HLe2.out.bar (bar_of_below (S := fun _ => False) b3) (fun _ _ e => e))
    clear b3
    go_wp2_with fail
    refine (kept_any HLe3.out (HB.out w3 HB3.out) (by omega)).mono ?_
    rintro e w4 ⟨rfl, b4⟩
    have HB4 := Lib.hid (below_chain HB3.out (Nat.le_refl _) b4)
    clear b4
    go_wp2_with (go_at_call 9; refine (awake7_any I w4 (HSp.out _ HB4.out)).mono ?_; rintro e w' ⟨rfl, b5⟩)
    go_ret
    exact ⟨rfl, below_chain HB4.out (Nat.le_refl _) b5⟩

theorem bool_self (b : Bool) : (b == b) = true := by cases b <;> rfl
set_option maxRecDepth 100000 in
set_option maxHeartbeats 2000000 in
theorem patternTells_walk (I : PatternI) (n b : Int) (w : World) (hS : Spc w) (hn1 : -9223372036854775808 ≤ n) (hn2 : n ≤ 9223372036854775807) (hb1 : -9223372036854775808 ≤ b) (hb2 : b ≤ 9223372036854775807) :
    Calls Tryd.prog 4 #[.int .i64 n, .int .i64 b] w fun e w' => e = .returned (.bool true) ∧ Below w.heap.size w w' := by
  have HSp := Lib.hid (fun w' (hb : Below w.heap.size w w') => hS.below hb)
  have HP := Lib.hid (fun w hS => I.put n w hS hn1 hn2)
  have HR := Lib.hid (fun w => r7put_any n w)
  have HO := Lib.hid (fun w => I.has n b w hn1 hn2 hb1 hb2)
  have HQ := Lib.hid (fun w => r7has_any n b hn1 hn2 w)
  have HC := Lib.hid (fun w => I.count n w hn1 hn2)
  have HD := Lib.hid (fun w => r7count_any n hn1 hn2 w)
  clear hn1 hn2 hb1 hb2 hS
  generalize putS codes7 nums7 n = s at *
  generalize putE3 nums7 n = f at *
  generalize hasB n b = h at *
  generalize countN n = c at *
  have hh := bool_self h
  go_enter Tryd.func4, Tryd.ntmps4
  go_wp2_with fail
  refine (HP.out w (HSp.out _ (Below.refl _ _))).mono ?_
  rintro e w1 ⟨rfl, b1⟩
  go_wp2_with fail
  refine (HR.out w1).mono ?_
  rintro e w2 ⟨rfl, b2⟩
  have B2 := Lib.hid (below_chain b1 (Nat.le_refl _) b2)
  clear b1 b2
  go_wp2_with fail
  refine (HO.out w2).mono ?_
  rintro e w3 ⟨rfl, rfl⟩
  go_wp2_with fail
  refine (HQ.out w2).mono ?_
  rintro e w3 ⟨rfl, rfl⟩
  go_wp2_with fail
  refine (HC.out w3).mono ?_
  rintro e w4 ⟨rfl, rfl⟩
  go_wp2_with fail
  refine (HD.out w3).mono ?_
  rintro e w4 ⟨rfl, rfl⟩
  go_wp2_with (go_at_call 9; refine (awake7_any I _ (HSp.out _ B2.out)).mono ?_; rintro e w' ⟨rfl, b7⟩)
  go_ret
  exact ⟨rfl, below_chain B2.out (Nat.le_refl _) b7⟩

/-! ### the sum of what the blocks stand for -/
def sumTo (n : Int) : Nat → Int
  | 0 => 0
  | k + 1 => sumTo n k + (if hasB n ((k : Int) - 1) = true then 2 ^ (6 - ((k : Int) - 1)).toNat else 0)
def manyTo (n : Int) : Nat → Int
  | 0 => 0
  | k + 1 => manyTo n k + (if hasB n ((k : Int) - 1) = true then 1 else 0)
theorem sums_fin : ∀ n : Fin 64, n.val = 0 ∨ (sumTo (n.val : Int) 10 = (n.val : Int) ∧ manyTo (n.val : Int) 10 = countN (n.val : Int)) := by decide +kernel
theorem sums_yes {n : Int} (h1 : 1 ≤ n) (h2 : n ≤ 63) : sumTo n 10 = n ∧ manyTo n 10 = countN n := by
  obtain ⟨m, rfl⟩ := Int.eq_ofNat_of_zero_le (show 0 ≤ n by omega)
  have h := sums_fin ⟨m, by omega⟩
  simp only at h
  rcases h with h | h
  · omega
  · exact h
theorem sumTo_no {n : Int} (h : n < 1 ∨ 63 < n) : ∀ k, sumTo n k = 0 ∧ manyTo n k = 0
  | 0 => ⟨rfl, rfl⟩
  | k + 1 => by
    obtain ⟨h1, h2⟩ := sumTo_no h k
    unfold sumTo manyTo
    rw [h1, h2, hasB_no (h.elim .inl fun h => .inr (.inl h))]
    exact ⟨rfl, rfl⟩
theorem count_no {n : Int} (h : n < 1 ∨ 63 < n) : countN n = 0 := by
  have : ∀ k, cntTo n k = 0 := fun k => by
    induction k with
    | zero => rfl
    | succ k ih => unfold cntTo; rw [ih, hasB_no (h.elim .inl fun h => .inr (.inl h))]; rfl
  unfold countN
  rw [this]
  rfl
theorem manyTo_le (n : Int) : ∀ k : Nat, 0 ≤ manyTo n k ∧ manyTo n k ≤ k
  | 0 => ⟨Int.le_refl _, Int.le_refl _⟩
  | k + 1 => by
    have := manyTo_le n k
    unfold manyTo
    split <;> omega
theorem hasB_in {n b : Int} (h : hasB n b = true) : 1 ≤ n ∧ n ≤ 63 ∧ 1 ≤ b ∧ b ≤ 6 := by
  unfold hasB at h
  rw [Bool.and_eq_true, decide_eq_true_eq] at h
  exact h.1
theorem pow_small (b : Int) (h1 : 1 ≤ b) (h2 : b ≤ 6) : (1 : Int) ≤ 2 ^ (6 - b).toNat ∧ (2 : Int) ^ (6 - b).toNat ≤ 32 := by
  have h : b = 1 ∨ b = 2 ∨ b = 3 ∨ b = 4 ∨ b = 5 ∨ b = 6 := by omega
  rcases h with rfl | rfl | rfl | rfl | rfl | rfl <;> decide
theorem sumTo_le (n : Int) : ∀ k : Nat, 0 ≤ sumTo n k ∧ sumTo n k ≤ 32 * k
  | 0 => ⟨Int.le_refl _, Int.le_refl _⟩
  | k + 1 => by
    have := sumTo_le n k
    unfold sumTo
    split
    · rename_i h
      obtain ⟨_, _, h3, h4⟩ := hasB_in h
      have := pow_small _ h3 h4
      omega
    · omega

set_option maxRecDepth 100000 in
set_option maxHeartbeats 4000000 in
theorem patternSums_walk (I : PatternI) (n : Int) (w : World) (hS : Spc w) (hn1 : -9223372036854775808 ≤ n) (hn2 : n ≤ 9223372036854775807) :
    Calls Tryd.prog 7 #[.int .i64 n] w fun e w' => e = .returned (.bool true) ∧ Below w.heap.size w w' := by
  have HK := Lib.hid (known7_any I w hS)
  clear hS
  go_enter Tryd.func7, Tryd.ntmps7
  go_wp2_with fail
  refine HK.out.mono ?_
  rintro e w1 ⟨rfl, b1⟩
  have B1 := Lib.hid b1
  clear b1
  go_wp2_with fail
  go_loopw [4, 5, 6] (fun s m i wr => ∃ k : Nat, k ≤ 10 ∧ i = .int .i64 ((k : Int) - 1) ∧ s = .int .i64 (sumTo n k) ∧ m = .int .i64 (manyTo n k) ∧ wr = w1) (fun _ _ i _ => (9 - intOf i).toNat)
  case atStart => exact ⟨0, by omega, rfl, rfl, rfl, rfl⟩
  case round =>
    obtain ⟨k, hk, rfl, rfl, rfl, rfl⟩ := hrel
    have hs := sumTo_le n k
    have hm := manyTo_le n k
    have HH := Lib.hid (I.has n ((k : Int) - 1) wr hn1 hn2 (by omega) (by omega))
    have HC := Lib.hid (I.count n wr hn1 hn2)
    by_cases hk2 : k < 10
    · have HS := Lib.hid (show sumTo n (k + 1) = sumTo n k + (if hasB n ((k : Int) - 1) = true then 2 ^ (6 - ((k : Int) - 1)).toNat else 0) from rfl)
      have HM := Lib.hid (show manyTo n (k + 1) = manyTo n k + (if hasB n ((k : Int) - 1) = true then 1 else 0) from rfl)
      cases hh : hasB n ((k : Int) - 1) with
      | false =>
        rw [hh] at HH HS HM
        simp only [Bool.false_eq_true, if_false, Int.add_zero] at HS HM
        go_wp2_with (go_at_call 16; refine HH.out.mono ?_; rintro e w2 ⟨rfl, rfl⟩)
        go_roundw
        case rel => exact ⟨k + 1, by omega, by go_num, by rw [HS.out], by rw [HM.out], trivial⟩
        case measure => simp [intOf]; omega
      | true =>
        obtain ⟨_, _, h3, h4⟩ := hasB_in hh
        rw [hh] at HH HS HM
        simp only [if_true] at HS HM
        obtain ⟨K, hK⟩ : ∃ K, K = k + 1 := ⟨_, rfl⟩
        rw [← hK] at HS HM
        generalize sumTo n k = s at *
        generalize manyTo n k = m at *
        have h6 : k = 2 ∨ k = 3 ∨ k = 4 ∨ k = 5 ∨ k = 6 ∨ k = 7 := by omega
        clear hh h3 h4
        rcases h6 with rfl | rfl | rfl | rfl | rfl | rfl
        all_goals
          go_wp2_with (go_at_call 16; refine HH.out.mono ?_; rintro e w2 ⟨rfl, rfl⟩)
          go_roundw
          case rel => exact ⟨K, by omega, congrArg _ (by omega), by rw [HS.out]; first | done | go_num, by rw [HM.out], trivial⟩
          case measure => simp [intOf]
    · have hkn : k = 10 := by omega
      subst hkn
      by_cases hno : n < 1 ∨ 63 < n
      · rw [count_no hno] at HC
        obtain ⟨e1, e2⟩ := sumTo_no hno 10
        rw [e1, e2]
        by_cases h1 : n < 1
        · clear hno
          go_wp2_with (go_at_call 18; refine HC.out.mono ?_; rintro e w2 ⟨rfl, rfl⟩)
          go_ret
          exact ⟨rfl, B1.out⟩
        · have h2 : 63 < n := by omega
          clear hno
          go_wp2_with (go_at_call 18; refine HC.out.mono ?_; rintro e w2 ⟨rfl, rfl⟩)
          go_ret
          exact ⟨rfl, B1.out⟩
      · obtain ⟨e1, e2⟩ := sums_yes (n := n) (by omega) (by omega)
        rw [e1, e2]
        have h1 : 1 ≤ n := by omega
        have h2 : n ≤ 63 := by omega
        generalize countN n = c at *
        clear hno hs hm e1 e2
        go_wp2_with (go_at_call 18; refine HC.out.mono ?_; rintro e w2 ⟨rfl, rfl⟩)
        go_ret
        exact ⟨rfl, B1.out⟩

/-! ### nine bits -/
def nine (n : Nat) : List UInt8 := [UInt8.ofNat (n / 2), UInt8.ofNat (n * 128 % 256)]
def nineS (n : Nat) : ByteArray := seenB (nine n) 0 (seenN (nine n) 0)
def nineB (n : Nat) : Bool := match getI codes7 (nineS n) with
  | some i => decide (2 ≤ n) && decide (i < 63)
  | none => decide (n < 2) && !(getMore codes7 (nineS n))
theorem nine_all : (List.range 512).all nineB = true := by kernel_rfl
theorem nine_got {n : Nat} (hn : n < 512) : (n < 2 ∧ getT codes7 nums7 (nine n) 0 = .tuple #[.int .i64 0, .int .i64 0, .int .i64 7]) ∨
    (2 ≤ n ∧ ∃ k : Nat, k < 63 ∧ getT codes7 nums7 (nine n) 0 = .tuple #[.int .i64 (1 + (k : Int)), .int .i64 ((codes7[k]?.getD (⟨#[]⟩ : ByteArray)).size : Nat), .int .i64 0]) := by
  have h : nineB n = true := List.all_eq_true.1 nine_all n (List.mem_range.2 hn)
  unfold nineB at h
  unfold getT
  rw [if_neg (by omega), show (0 : Int).toNat = 0 from rfl]
  show _ ∨ _
  change (_ ∧ Value.tuple #[.int .i64 (getX codes7 nums7 (nineS n)), .int .i64 (getN codes7 (nineS n)), .int .i64 (getE3 codes7 (nineS n))] = _) ∨ (_ ∧ ∃ k : Nat, _ ∧ Value.tuple #[.int .i64 (getX codes7 nums7 (nineS n)), .int .i64 (getN codes7 (nineS n)), .int .i64 (getE3 codes7 (nineS n))] = _)
  unfold getX getN getE3
  cases hI : getI codes7 (nineS n) with
  | none =>
    rw [hI] at h
    simp only [Bool.and_eq_true, decide_eq_true_eq, Bool.not_eq_true'] at h
    exact .inl ⟨h.1, by simp [h.2]⟩
  | some i =>
    rw [hI] at h
    simp only [Bool.and_eq_true, decide_eq_true_eq] at h
    exact .inr ⟨h.1, i, h.2, by simp only; rw [(nums7_at ⟨i, h.2⟩).1]⟩

set_option maxRecDepth 100000 in
set_option maxHeartbeats 4000000 in
theorem patternNoughts_walk (I : PatternI) (n : Int) (w : World) (hS : Spc w) (hn1 : -9223372036854775808 ≤ n) (hn2 : n ≤ 9223372036854775807) :
    Calls Tryd.prog 8 #[.int .i64 n] w fun e w' => e = .returned (.bool true) ∧ Below w.heap.size w w' := by
  have HSp := Lib.hid (fun w' (hb : Below w.heap.size w w') => hS.below hb)
  have HK := Lib.hid (awake7_any I w hS)
  have ha := Int.emod_nonneg n (b := 512) (by omega)
  have ha2 := Int.emod_lt_of_pos n (b := 512) (by omega)
  have HPk := Lib.hid (pick_any n 512)
  obtain ⟨m, hA⟩ := Int.eq_ofNat_of_zero_le ha
  rw [hA] at HPk
  have hm : m < 512 := by omega
  clear hS ha ha2 hA hn1 hn2
  go_enter Tryd.func8, Tryd.ntmps8
  go_wp2_with fail
  refine HK.out.mono ?_
  rintro e w1 ⟨rfl, b1⟩
  have B1 := Lib.hid b1
  clear b1
  go_wp2_with fail
  refine (HPk.out _ (by decide) (by decide)).mono ?_
  rintro e w' ⟨rfl, rfl⟩
  have hcs : (#[Value.int .u8 ((m : Int) / 2), Value.int .u8 ((m : Int) * 128 % 256)] : Array Value) = ((nine m).map fun z => Value.int .u8 z.toNat).toArray := by
    have e1 : (UInt8.ofNat (m / 2)).toNat = m / 2 := by rw [UInt8.toNat_ofNat']; omega
    have e2 : (UInt8.ofNat (m * 128 % 256)).toNat = m * 128 % 256 := by rw [UInt8.toNat_ofNat']; omega
    simp [nine, e1, e2]
  have HG := Lib.hid (fun t => I.get (byt_new w1 (nine m) _ 2 hcs (by simp [nine]) (w1.heap.size + 1) (by omega) t) (by simp) (by simp [nine]) (HSp.out _ (B1.out.alloc B1.out.size _)) 0 (by omega))
  have HBA := Lib.hid (fun t => B1.out.alloc B1.out.size (.cells #[Value.int .u8 ((m : Int) / 2), Value.int .u8 ((m : Int) * 128 % 256)] t))
  clear hcs
  obtain ⟨gx, gn, ge, hg, hcase⟩ : ∃ gx gn ge : Int, getT codes7 nums7 (nine m) 0 = .tuple #[.int .i64 gx, .int .i64 gn, .int .i64 ge] ∧
      (((m : Int) < 2 ∧ gx = 0 ∧ gn = 0 ∧ ge = 7) ∨ (2 ≤ (m : Int) ∧ 1 ≤ gx ∧ gx ≤ 63 ∧ 3 ≤ gn ∧ gn ≤ 9 ∧ ge = 0)) := by
    rcases nine_got hm with ⟨h2, hg⟩ | ⟨h2, k, hk, hg⟩
    · exact ⟨_, _, _, hg, .inl ⟨by omega, rfl, rfl, rfl⟩⟩
    · obtain ⟨_, k1, k2⟩ := codes7_at hk
      exact ⟨_, _, _, hg, .inr ⟨by omega, by omega, by omega, by omega, by omega, rfl⟩⟩
  rw [hg] at HG
  have HCs := Lib.hid hcase
  clear hg hcase
  go_wp2_with fail
  refine (HG.out _).mono ?_
  rintro e w' ⟨rfl, b7⟩
  have B7 := Lib.hid (below_chain (HBA.out _) (Nat.le_refl _) b7)
  clear b7
  rcases HCs.out with ⟨h2, rfl, rfl, rfl⟩ | ⟨h2, h3, h4, h5, h6, rfl⟩
  · go_wp2
    go_ret
    exact ⟨rfl, B7.out⟩
  · have d1 : decide (gx ≤ 63) = true := decide_eq_true h4
    have d2 : decide (gn ≤ 9) = true := decide_eq_true h6
    go_wp2
    go_ret
    exact ⟨rfl, B7.out⟩

end Go.Proofs.YtichkoilhnkmkaaDoor
