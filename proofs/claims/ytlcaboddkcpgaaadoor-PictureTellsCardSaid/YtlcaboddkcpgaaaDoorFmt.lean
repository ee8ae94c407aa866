/- strconv.FormatInt at base 2, of small positive numbers: the library's own text, walked. -/
import Derived.Test.YtlcaboddkcpgaaaDoorLit
import Derived.Test.YtlcaboddkcpgaaaDoorStand
import Derived.StillTailTactics
namespace Go.Proofs.YtlcaboddkcpgaaaDoor
open Go.RowKit Go.Shelf
set_option linter.unusedVariables false

/-- the library's table of trailing noughts holds 1 at the place of 2 -/
def Tab2 (w : World) : Prop := w.cell? ⟨2, 1, none⟩ = some (.int .u8 1)
theorem Tab2.below {w w' : World} (h : Tab2 w) (hb : Below w.heap.size w w') : Tab2 w' :=
  (hb.cell (p := ⟨2, 1, none⟩) (World.block_lt_of_cell? w _ h)).trans h

set_option maxHeartbeats 1000000 in
theorem tz64_two (w : World) (hT : Tab2 w) :
    Calls Tryd.prog 75 #[.int .u64 2] w fun e w' => e = .returned (.int .i64 1) ∧ w = w' := by
  unfold Tab2 at hT
  have e1 : bits .and .u64 2 (IntKind.u64.wrap (-2)) = 2 := by decide +kernel
  have e2 : IntKind.u64.wrap (2 * 285870213051353865) / 288230376151711744 = 1 := by decide +kernel
  go_enter Tryd.func75, Tryd.ntmps75
  go_wp2
  go_ret
  exact ⟨rfl, rfl⟩
set_option maxHeartbeats 1000000 in
theorem tz_two (w : World) (hT : Tab2 w) :
    Calls Tryd.prog 73 #[.int .u64 2] w fun e w' => e = .returned (.int .i64 1) ∧ w = w' := by
  go_enter Tryd.func73, Tryd.ntmps73
  go_wp2_with (go_at_call 75; refine (tz64_two w hT).mono ?_; rintro e w' ⟨rfl, rfl⟩)
  go_ret
  exact ⟨rfl, rfl⟩
theorem pow2_two (w : World) :
    Calls Tryd.prog 72 #[.int .i64 2] w fun e w' => e = .returned (.bool true) ∧ w = w' := by
  have e1 : bits .and .i64 2 1 = 0 := by decide +kernel
  go_enter Tryd.func72, Tryd.ntmps72
  go_wp2
  go_ret
  exact ⟨rfl, rfl⟩

theorem u64_and1 (q : Nat) (h : q < 4294967296) : bits .and .u64 (q : Int) 1 = ((q % 2 : Nat) : Int) := by
  have h1 : (BitVec.ofInt 64 1).toNat = 2 ^ 1 - 1 := by decide
  have key : (BitVec.ofInt 64 (q : Int) &&& BitVec.ofInt 64 1).toNat = q % 2 := by
    rw [BitVec.toNat_and, ofInt_nat64 q (by omega), h1, Nat.and_two_pow_sub_one_eq_mod]
  show IntKind.u64.wrap ((BitVec.ofInt 64 (q : Int) &&& BitVec.ofInt 64 1).toNat : Nat) = _
  rw [key, IntKind.wrap_u64]
  omega

/-- the array of a call of formatBits: its last t cells hold the last t bits -/
def Filled (W : World) (g x t : Nat) : Prop := ∃ cur, W.heap[g]? = some (.cells cur 108 (0, 0)) ∧ cur.size = 65 ∧ ∀ s, s < t → cur[64 - s]? = some (.int .u8 (48 + x / 2 ^ s % 2 : Nat))

theorem Filled.step {W : World} {g x t : Nat} (h : Filled W g x t) (ht : t < 64) (v : Int) (hv : v = ((48 + x / 2 ^ t % 2 : Nat) : Int)) : Filled (W.setCell ⟨g, 65 - t - 1, none⟩ (.int .u8 v)) g x (t + 1) := by
  obtain ⟨cur, hg, hcs, hc⟩ := h
  subst hv
  refine ⟨_, heap_setCell_same _ _ _ _ _ _ hg, by simpa using hcs, fun s hs => ?_⟩
  by_cases e : s = t
  · subst e
    rw [show 64 - s = 65 - s - 1 by omega]
    simp [show 65 - s - 1 < cur.size by omega]
  · have := hc s (by omega)
    have hne : 65 - t - 1 ≠ 64 - s := by omega
    simpa [Array.getElem?_set, Array.getElem?_setIfInBounds, hne] using this
theorem Filled.byt {W : World} {g x m : Nat} (h : Filled W g x (m + 1)) (hm : m ≤ 30) : Byt W.heap.size W (.slice (some ⟨g, 64 - m, none⟩) (m + 1) (m + 1)) (binL x (m + 1)) := by
  obtain ⟨cur, hg, hcs, hc⟩ := h
  refine ⟨_, m + 1, by rw [binL_len], by rw [binL_len]; omega, .inr ⟨g, 64 - m, rfl, (Array.getElem?_eq_some_iff.1 hg).1, fun j hj => ?_⟩⟩
  rw [binL_len] at hj
  have h1 := hc (m - j) (by omega)
  rw [show 64 - (m - j) = 64 - m + j by omega] at h1
  have h2 : W.cell? ⟨g, 64 - m + j, none⟩ = cur[64 - m + j]? := by simp [World.cell?, hg]
  rw [h2, h1]
  have h3 : (binL x (m + 1))[j]?.getD 0 = UInt8.ofNat (48 + cbit x (m + 1) j) := by simp [binL, hj]
  rw [h3]
  have h4 := cbit_le x (m + 1) j
  have h5 : (UInt8.ofNat (48 + cbit x (m + 1) j)).toNat = 48 + cbit x (m + 1) j := by rw [UInt8.toNat_ofNat', Nat.mod_eq_of_lt (by omega)]
  rw [h5]
  unfold cbit
  rw [show m + 1 - 1 - j = m - j by omega]
theorem slice65 (w : World) (g l n : Nat) (hl : l + n = 65) (hn : 1 ≤ n) (i : Int) (hi : i = l) : (Instr.sliceAt 108 (.pointer (some ⟨g, 0, none⟩)) (some (.int .i64 i)) none none).run Tryd.prog w = .ok (.slice (some ⟨g, l, none⟩) n n) w := by
  subst hi
  have ha : Tryd.prog.arrayLen 108 = 65 := by kernel_rfl
  have hs : (sizeOf (Tryd.prog.elem 108)).run Tryd.prog w = .ok 1 w := by kernel_rfl
  rw [run_sliceAt_array_l w 108 ⟨g, 0, none⟩ (by kernel_rfl) .i64 l (by omega) (by rw [ha]; omega), hs, ha]
  have hadd : (⟨g, 0, none⟩ : Addr).add (l * 1) = ⟨g, l, none⟩ := by unfold Addr.add; split <;> simp_all
  simp only [Result.andThen_ok, slicedAt, Int.toNat_natCast]
  rw [show 65 - l = n by omega]
  by_cases e : 65 = l
  · omega
  · rw [if_neg e, hadd]

theorem digit1 : ((⟨#[48, 49, 50, 51, 52, 53, 54, 55, 56, 57, 97, 98, 99, 100, 101, 102, 103, 104, 105, 106, 107, 108, 109, 110, 111, 112, 113, 114, 115, 116, 117, 118, 119, 120, 121, 122]⟩ : ByteArray)[1]'(by decide)).toNat = 49 := rfl

set_option maxRecDepth 100000 in
set_option maxHeartbeats 2000000 in
theorem formatBits_two (x m : Nat) (h1 : 2 ^ m ≤ x) (h2 : x < 2 ^ (m + 1)) (hm : m ≤ 30) (w : World) (hT : Tab2 w) :
    Calls Tryd.prog 68 #[.slice none 0 0, .int .u64 x, .int .i64 2, .bool false, .bool false] w fun e w' => e = .returned (.tuple #[.slice none 0 0, .string (binS x (m + 1))]) ∧ Below w.heap.size w w' := by
  have hx : x < 4294967296 := by have := Nat.pow_le_pow_right (n := 2) (by omega) (show m + 1 ≤ 32 by omega); omega
  have HT := Lib.hid hT
  clear hT
  go_enter Tryd.func68, Tryd.ntmps68
  go_wp2_with (first
    | (go_at_call 72; refine (pow2_two _).mono ?_; rintro e w' ⟨rfl, rfl⟩)
    | (go_at_call 73; refine (tz_two _ (HT.out.below ((Below.refl _ w).alloc (Nat.le_refl _) _))).mono ?_; rintro e w' ⟨rfl, rfl⟩))
  go_loopw [1, 13] (fun u i wr => ∃ t : Nat, t ≤ m ∧ u = .int .u64 (x / 2 ^ t : Nat) ∧ i = .int .i64 ((65 - t : Nat) : Int) ∧ Filled wr w.heap.size x t ∧ Below w.heap.size w wr) (fun u _ _ => (intOf u).toNat)
  case atStart =>
    refine ⟨0, Nat.zero_le _, by simp, rfl, ?_, ?_⟩
    · exact ⟨_, World.alloc_heap_new _ _, by kernel_rfl, fun s hs => by omega⟩
    · exact (Below.refl _ w).alloc (Nat.le_refl _) _
  case round =>
    obtain ⟨t, ht, rfl, rfl, hF, hB⟩ := hrel
    have HF := Lib.hid hF
    have HB := Lib.hid hB
    have hq : x / 2 ^ t < 4294967296 := Nat.lt_of_le_of_lt (Nat.div_le_self _ _) hx
    obtain ⟨cur, hg, hcs, _⟩ := hF
    clear hB
    by_cases htm : t < m
    · have hq2 : 2 ≤ x / 2 ^ t := by
        rw [Nat.le_div_iff_mul_le (Nat.two_pow_pos t)]
        calc 2 * 2 ^ t = 2 ^ (t + 1) := by rw [Nat.pow_succ]; omega
          _ ≤ 2 ^ m := Nat.pow_le_pow_right (by omega) (by omega)
          _ ≤ x := h1
      have hsucc : x / 2 ^ (t + 1) = x / 2 ^ t / 2 := by rw [Nat.pow_succ, Nat.div_div_eq_div_mul]
      have HS := Lib.hid hsucc
      have hand := u64_and1 (x / 2 ^ t) hq
      have hc : wr.cell? ⟨w.heap.size, 65 - t - 1, none⟩ = some (cur[65 - t - 1]'(by omega)) := by simp [World.cell?, hg, show 65 - t - 1 < cur.size by omega]
      have hf : wr.frozen? ⟨w.heap.size, 65 - t - 1, none⟩ = false := Lib.frozen_of_heap hg _
      clear hsucc
      generalize hqq : x / 2 ^ t = q at *
      have HQ := Lib.hid hqq
      clear hqq
      obtain hb | hb : q % 2 = 0 ∨ q % 2 = 1 := by omega
      · have HV : Hid (q % 2 = 0) := hb
        rw [hb] at hand
        clear hb
        go_wp2
        refine ⟨⟨t + 1, by omega, ?_, ?_, HF.out.step (by omega) _ ?_, HB.out.setCell (Nat.le_refl _) _⟩, ?_⟩
        · rw [HS.out]; rw [Int.natCast_ediv]; rfl
        · congr 1; omega
        · rw [HQ.out, HV.out]; rfl
        · simp [intOf]; omega
      · have HV : Hid (q % 2 = 1) := hb
        rw [hb] at hand
        clear hb
        go_wp2
        refine ⟨⟨t + 1, by omega, ?_, ?_, HF.out.step (by omega) _ ?_, HB.out.setCell (Nat.le_refl _) _⟩, ?_⟩
        · rw [HS.out]; rw [Int.natCast_ediv]; rfl
        · congr 1; omega
        · rw [HQ.out, HV.out]; rfl
        · simp [intOf]; omega
    · have htm : t = m := by omega
      subst htm
      have hq1 : x / 2 ^ t = 1 := by
        have a := (Nat.le_div_iff_mul_le (Nat.two_pow_pos t) (x := 1) (y := x)).2 (by omega)
        have b := (Nat.div_lt_iff_lt_mul (Nat.two_pow_pos t) (x := x) (y := 2)).2 (by rw [Nat.pow_succ] at h2; omega)
        omega
      have hc : wr.cell? ⟨w.heap.size, 65 - t - 1, none⟩ = some (cur[65 - t - 1]'(by omega)) := by simp [World.cell?, hg, show 65 - t - 1 < cur.size by omega]
      have hf : wr.frozen? ⟨w.heap.size, 65 - t - 1, none⟩ = false := Lib.frozen_of_heap hg _
      have HQ := Lib.hid hq1
      rw [hq1]
      have hW : Filled (wr.setCell ⟨w.heap.size, 65 - t - 1, none⟩ (.int .u8 49)) w.heap.size x (t + 1) := HF.out.step (by omega) 49 (by rw [HQ.out]; rfl)
      have HW := Lib.hid hW
      have hsl := fun W => slice65 W w.heap.size (64 - t) (t + 1) (by omega) (by omega) (((65 - t : Nat) : Int) - 1) (by omega)
      have hcv : (convert 22 9 (.slice (some ⟨w.heap.size, 64 - t, none⟩) (t + 1) (t + 1))).run Tryd.prog (wr.setCell ⟨w.heap.size, 65 - t - 1, none⟩ (.int .u8 49)) = .ok (.string (binS x (t + 1))) (wr.setCell ⟨w.heap.size, 65 - t - 1, none⟩ (.int .u8 49)) := conv_byt (hW.byt hm)
      have hd := digit1
      clear hW hq1 hg
      go_wp2
      go_ret2
      exact ⟨rfl, HB.out.setCell (Nat.le_refl _) _⟩

set_option maxHeartbeats 1000000 in
theorem ifmtInt_two (x m : Nat) (h1 : 2 ^ m ≤ x) (h2 : x < 2 ^ (m + 1)) (hm : m ≤ 30) (w : World) (hT : Tab2 w) :
    Calls Tryd.prog 64 #[.int .i64 x, .int .i64 2] w fun e w' => e = .returned (.string (binS x (m + 1))) ∧ Below w.heap.size w w' := by
  have hx : x < 4294967296 := by have := Nat.pow_le_pow_right (n := 2) (by omega) (show m + 1 ≤ 32 by omega); omega
  have HF := Lib.hid (formatBits_two x m h1 h2 hm w hT)
  clear h1 h2 hT
  go_enter Tryd.func64, Tryd.ntmps64
  go_wp2_with (go_at_call 68; refine HF.out.mono ?_; rintro e w' ⟨rfl, hb⟩)
  go_ret
  exact ⟨rfl, hb⟩
set_option maxHeartbeats 1000000 in
theorem fmtInt_two (x m : Nat) (h1 : 2 ^ m ≤ x) (h2 : x < 2 ^ (m + 1)) (hm : m ≤ 30) (w : World) (hT : Tab2 w) :
    Calls Tryd.prog 57 #[.int .i64 x, .int .i64 2] w fun e w' => e = .returned (.string (binS x (m + 1))) ∧ Below w.heap.size w w' := by
  have HF := Lib.hid (ifmtInt_two x m h1 h2 hm w hT)
  clear h1 h2 hT
  go_enter Tryd.func57, Tryd.ntmps57
  go_wp2_with (go_at_call 64; refine HF.out.mono ?_; rintro e w' ⟨rfl, hb⟩)
  go_ret
  exact ⟨rfl, hb⟩

/-! ### a number in so many bits, as the code spells it -/
theorem or_pow (m n : Nat) (h : n < 2 ^ m) (hm : m ≤ 30) : bits .or .i64 (IntKind.i64.wrap (2 ^ m)) (n : Int) = ((2 ^ m + n : Nat) : Int) := by
  have hp : 2 ^ m ≤ 2 ^ 30 := Nat.pow_le_pow_right (by omega) hm
  have hp2 : (2 : Nat) ^ 30 = 1073741824 := by decide
  have hw : IntKind.i64.wrap ((2 : Int) ^ m) = ((2 ^ m : Nat) : Int) := by
    rw [IntKind.wrap_i64, show (2 : Int) ^ m = ((2 ^ m : Nat) : Int) by rw [Int.natCast_pow]; rfl]
    omega
  rw [hw]
  show IntKind.i64.wrap ((BitVec.ofInt 64 ((2 ^ m : Nat) : Int) ||| BitVec.ofInt 64 (n : Int)).toNat : Int) = _
  rw [BitVec.toNat_or, ofInt_nat64 _ (by omega), ofInt_nat64 _ (by omega)]
  have := Nat.two_pow_add_eq_or_of_lt h 1
  rw [Nat.mul_one] at this
  rw [← this, IntKind.wrap_i64]
  omega
theorem binS_high (m n : Nat) : binS (2 ^ m + n) m = binS n m := by
  unfold binS binL
  congr 2
  apply List.map_congr_left
  intro i hi
  have him : i < m := by simpa using hi
  unfold cbit
  have e : 2 ^ m = 2 ^ (m - 1 - i) * (2 * 2 ^ i) := by
    rw [← Nat.pow_succ', ← Nat.pow_add]
    congr 1
    omega
  rw [e, Nat.mul_add_div (Nat.two_pow_pos _)]
  congr 2
  omega
theorem tail_append (a b : ByteArray) (h : a.size = 1) (m : Nat) (hb : b.size = m) : (a ++ b).extract 1 (m + 1) = b := by
  apply ByteArray.ext
  apply Array.toList_inj.1
  have ha : a.data.toList.length = 1 := by simpa using h
  have hbl : b.data.toList.length = m := by simpa using hb
  simp only [ByteArray.data_extract, Array.toList_extract, ByteArray.data_append, Array.toList_append, List.extract]
  rw [List.drop_append, ha, List.drop_of_length_le (by omega)]
  simp only [Nat.sub_self, List.drop_zero, List.nil_append, Nat.add_sub_cancel]
  rw [List.take_of_length_le (by omega)]
theorem binS_tail (m n : Nat) : (binS (2 ^ m + n) (m + 1)).extract 1 (m + 1) = binS n m := by
  rw [binS_cons, binS_high]
  exact tail_append _ _ rfl m (binS_size n m)
theorem wrap_i64_eq (x : Int) : IntKind.i64.wrap x = wrap64 x := by
  first | rfl | (rw [IntKind.wrap_i64]; rfl) | (unfold wrap64; rw [IntKind.wrap_i64])

end Go.Proofs.YtlcaboddkcpgaaaDoor
