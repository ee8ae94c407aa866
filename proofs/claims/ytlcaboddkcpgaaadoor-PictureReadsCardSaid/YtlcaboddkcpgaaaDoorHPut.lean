/- picture: Check, Format, spell, text, Put over the landed code. -/
import Derived.Test.YtlcaboddkcpgaaaDoorHLaw
import Derived.Test.YtlcaboddkcpgaaaDoorBuilder
import Derived.Test.YtlcaboddkcpgaaaDoorFmt
namespace Go.Proofs.YtlcaboddkcpgaaaDoor
open Go.RowKit Go.Shelf Go.Sort
set_option linter.unusedVariables false

def timeB (n : Int) : Bool := decide (0 ≤ n ∧ n ≤ 31)
def typeB (n : Int) : Bool := decide (0 ≤ n ∧ n ≤ 63)
theorem hisTime_any (n : Int) (w : World) : Calls Tryd.prog 33 #[.int .i64 n] w fun e w' => e = .returned (.bool (timeB n)) ∧ w = w' := by
  by_cases h1 : 0 ≤ n
  · by_cases h2 : n ≤ 31
    · have e : timeB n = true := decide_eq_true ⟨h1, h2⟩
      rw [e]
      go_enter Tryd.func33, Tryd.ntmps33
      go_wp2_with fail
      go_ret
      exact ⟨rfl, rfl⟩
    · have e : timeB n = false := decide_eq_false (by omega)
      rw [e]
      go_enter Tryd.func33, Tryd.ntmps33
      go_wp2_with fail
      go_ret
      exact ⟨rfl, rfl⟩
  · have e : timeB n = false := decide_eq_false (by omega)
    rw [e]
    go_enter Tryd.func33, Tryd.ntmps33
    go_wp2_with fail
    go_ret
    exact ⟨rfl, rfl⟩
theorem hisType_any (n : Int) (w : World) : Calls Tryd.prog 34 #[.int .i64 n] w fun e w' => e = .returned (.bool (typeB n)) ∧ w = w' := by
  by_cases h1 : 0 ≤ n
  · by_cases h2 : n ≤ 63
    · have e : typeB n = true := decide_eq_true ⟨h1, h2⟩
      rw [e]
      go_enter Tryd.func34, Tryd.ntmps34
      go_wp2_with fail
      go_ret
      exact ⟨rfl, rfl⟩
    · have e : typeB n = false := decide_eq_false (by omega)
      rw [e]
      go_enter Tryd.func34, Tryd.ntmps34
      go_wp2_with fail
      go_ret
      exact ⟨rfl, rfl⟩
  · have e : typeB n = false := decide_eq_false (by omega)
    rw [e]
    go_enter Tryd.func34, Tryd.ntmps34
    go_wp2_with fail
    go_ret
    exact ⟨rfl, rfl⟩

set_option maxRecDepth 100000 in
set_option maxHeartbeats 1000000 in
theorem hcheck_any (t y : Int) (a : Option Addr) (len cap : Nat) (w : World) (hl : len ≤ 1000000) :
    Calls Tryd.prog 12 #[headV t y (.slice a len cap)] w fun e w' => e = .returned (.int .i64 (ckH t y len)) ∧ Below w.heap.size w w' := by
  have HT := Lib.hid (hisTime_any t)
  have HY := Lib.hid (hisType_any y)
  have hb : Below w.heap.size w (w.alloc (.cells #[.int .i64 t, .int .i64 y, .slice a len cap] 24 (0, 0))) := (Below.refl _ w).alloc (Nat.le_refl _) _
  have hx := World.alloc_heap_new w (.cells #[.int .i64 t, .int .i64 y, .slice a len cap] 24 (0, 0))
  obtain ⟨c0, c1, c2⟩ := three_cells hx
  have HB := Lib.hid hb
  clear hb hx
  cases h1 : timeB t with
  | false =>
    have e : ckH t y len = 2 := ckH_two (fun h => by
      obtain ⟨a1, a2, -⟩ := (ckH_iff _ _ _).1 h
      have : timeB t = true := decide_eq_true ⟨a1, a2⟩
      rw [h1] at this
      cases this)
    rw [e]
    rw [h1] at HT
    clear h1 e
    go_enter Tryd.func12, Tryd.ntmps12
    go_wp2_with (first | (go_at_call 33; refine (HT.out _).mono ?_; rintro e w' ⟨rfl, rfl⟩) | (go_at_call 34; refine (HY.out _).mono ?_; rintro e w' ⟨rfl, rfl⟩))
    go_ret
    exact ⟨rfl, HB.out⟩
  | true =>
    rw [h1] at HT
    have ht := of_decide_eq_true h1
    clear h1
    cases h2 : typeB y with
    | false =>
      have e : ckH t y len = 2 := ckH_two (fun h => by
        obtain ⟨-, -, a1, a2, -⟩ := (ckH_iff _ _ _).1 h
        have : typeB y = true := decide_eq_true ⟨a1, a2⟩
        rw [h2] at this
        cases this)
      rw [e]
      rw [h2] at HY
      clear h2 e ht
      go_enter Tryd.func12, Tryd.ntmps12
      go_wp2_with (first | (go_at_call 33; refine (HT.out _).mono ?_; rintro e w' ⟨rfl, rfl⟩) | (go_at_call 34; refine (HY.out _).mono ?_; rintro e w' ⟨rfl, rfl⟩))
      go_ret
      exact ⟨rfl, HB.out⟩
    | true =>
      rw [h2] at HY
      have hy := of_decide_eq_true h2
      clear h2
      by_cases h3 : len ≤ 32
      · have e : ckH t y len = 0 := (ckH_iff _ _ _).2 ⟨ht.1, ht.2, hy.1, hy.2, h3⟩
        rw [e]
        have q : ¬ (32 : Int) < (len : Int) := by omega
        clear e ht hy h3
        go_enter Tryd.func12, Tryd.ntmps12
        go_wp2_with (first | (go_at_call 33; refine (HT.out _).mono ?_; rintro e w' ⟨rfl, rfl⟩) | (go_at_call 34; refine (HY.out _).mono ?_; rintro e w' ⟨rfl, rfl⟩))
        go_ret
        exact ⟨rfl, HB.out⟩
      · have e : ckH t y len = 2 := ckH_two (fun h => by
          obtain ⟨-, -, -, -, a1⟩ := (ckH_iff _ _ _).1 h
          omega)
        rw [e]
        have q : (32 : Int) < (len : Int) := by omega
        clear e ht hy h3
        go_enter Tryd.func12, Tryd.ntmps12
        go_wp2_with (first | (go_at_call 33; refine (HT.out _).mono ?_; rintro e w' ⟨rfl, rfl⟩) | (go_at_call 34; refine (HY.out _).mono ?_; rintro e w' ⟨rfl, rfl⟩))
        go_ret
        exact ⟨rfl, HB.out⟩

theorem i64_and_oneH (q : Int) : bits .and .i64 q 1 = q % 2 := by
  show IntKind.i64.wrap ((BitVec.ofInt 64 q &&& BitVec.ofInt 64 1).toNat : Int) = _
  have e1 : (BitVec.ofInt 64 1).toNat = 1 := by decide
  rw [BitVec.toNat_and, e1, Nat.and_one_is_mod, BitVec.toNat_ofInt, IntKind.wrap_i64]
  omega
set_option maxRecDepth 100000 in
set_option maxHeartbeats 1000000 in
theorem hformat_any (t y : Int) (hy : I64 y) (sv : Value) (w : World) :
    Calls Tryd.prog 14 #[headV t y sv] w fun e w' => e = .returned (.int .i64 (fmH y)) ∧ Below w.heap.size w w' := by
  have hb : Below w.heap.size w (w.alloc (.cells #[.int .i64 t, .int .i64 y, sv] 24 (0, 0))) := (Below.refl _ w).alloc (Nat.le_refl _) _
  have hx := World.alloc_heap_new w (.cells #[.int .i64 t, .int .i64 y, sv] 24 (0, 0))
  obtain ⟨c0, c1, c2⟩ := three_cells hx
  have HB := Lib.hid hb
  have e := i64_and_oneH (y / 4)
  clear hb hx
  by_cases h : y / 4 % 2 = 1
  · have q : (bits .and .i64 (y / 4) 1 == 1) = true := by rw [e, h]; rfl
    have hf : fmH y = 1 := by unfold fmH; omega
    rw [hf]
    clear e h hf
    go_enter Tryd.func14, Tryd.ntmps14
    go_wp2_with fail
    go_ret
    exact ⟨rfl, HB.out⟩
  · have q : (bits .and .i64 (y / 4) 1 == 1) = false := by rw [e]; simpa using h
    have hf : fmH y = 0 := by unfold fmH; omega
    rw [hf]
    clear e h hf
    go_enter Tryd.func14, Tryd.ntmps14
    go_wp2_with fail
    go_ret
    exact ⟨rfl, HB.out⟩

set_option maxRecDepth 100000 in
set_option maxHeartbeats 1000000 in
theorem hspell_any (n m : Nat) (h : n < 2 ^ m) (hm : m ≤ 30) (w : World) (hT : Tab2 w) :
    Calls Tryd.prog 49 #[.int .i64 (n : Nat), .int .i64 (m : Nat)] w fun e w' => e = .returned (.string (binS n m)) ∧ Below w.heap.size w w' := by
  have ho : bits .or .i64 (wrap64 (2 ^ m)) (n : Int) = ((2 ^ m + n : Nat) : Int) := by
    rw [show wrap64 ((2 : Int) ^ m) = IntKind.i64.wrap (2 ^ m) from (wrap_i64_eq _).symm]
    exact or_pow m n h hm
  have hp : 2 ^ (m + 1) = 2 ^ m + 2 ^ m := by rw [Nat.pow_succ]; omega
  have hF := Lib.hid (fmtInt_two (2 ^ m + n) m (by omega) (by omega) (by omega) w hT)
  have hsz := binS_size (2 ^ m + n) (m + 1)
  have HX := Lib.hid (binS_tail m n)
  clear h hp
  generalize binS (2 ^ m + n) (m + 1) = s at *
  generalize 2 ^ m + n = x at *
  go_enter Tryd.func49, Tryd.ntmps49
  go_wp2_with fail
  refine hF.out.mono ?_
  rintro e w' ⟨rfl, hb⟩
  go_wp2
  go_ret
  exact ⟨by rw [HX.out]; rfl, hb⟩

/-! ### text -/
/-- the bytes that are still to come -/
theorem byte_backH (T : ByteArray) : (⟨⟨T.data.toList⟩⟩ : ByteArray) = T := rfl
abbrev IsB (b : Nat) (acc : List UInt8) (W : World) : Prop := Lib.IsBuilderF 71 5 b b (Lib.byteCells acc) W

set_option maxRecDepth 100000 in
set_option maxHeartbeats 2000000 in
theorem htext_any (t y : Nat) (ht : t < 32) (hy : y < 64) {n₀ : Nat} {w : World} {sv : Value} {xs : List UInt8} (hT : Tab2 w) (hB : Byt n₀ w sv xs) (hn : n₀ ≤ w.heap.size) (hl : xs.length ≤ 32) :
    Calls Tryd.prog 30 #[headV t y sv] w fun e w' => e = .returned (.string (binS t 5 ++ (binS y 6 ++ spS xs))) ∧ Below w.heap.size w w' := by
  have hb0 : Below w.heap.size w (w.alloc (.cells #[.int .i64 t, .int .i64 y, sv] 24 (0, 0))) := (Below.refl _ w).alloc (Nat.le_refl _) _
  have hx0 := World.alloc_heap_new w (.cells #[.int .i64 t, .int .i64 y, sv] 24 (0, 0))
  have HSp := Lib.hid (fun (W : World) (hb : Below w.heap.size w W) (n m : Nat) (h : n < 2 ^ m) (hm : m ≤ 30) => hspell_any n m h hm W (hT.below hb))
  have HBy := Lib.hid (fun (W : World) (hb : Below w.heap.size w W) => Byt.below (hb.mono hn) hB)
  obtain ⟨T, hTd⟩ : ∃ T, binS t 5 ++ (binS y 6 ++ spS xs) = T := ⟨_, rfl⟩
  have HTd : Hid ((binS t 5).data.toList ++ (binS y 6).data.toList ++ spL (xs.drop 0) = T.data.toList) := by
    show _ = _
    rw [← hTd]
    simp [spS]
  rw [hTd]
  have z1 := binS_size t 5
  have z2 := binS_size y 6
  have HX0 := Lib.hid hx0
  have hb1 : Below w.heap.size w ((w.alloc (.cells #[.int .i64 t, .int .i64 y, sv] 24 (0, 0))).alloc (.cells #[.pointer none, .slice none 0 0] 71 (0, 0))) := hb0.alloc (by simp) _
  have hI0 := Lib.IsBuilderF.of (Lib.fresh_isBuilder 71 5 (w.alloc (.cells #[.int .i64 t, .int .i64 y, sv] 24 (0, 0))))
  rw [World.size_alloc] at hI0
  have HS1 := Lib.hid (HSp.out)
  have HB1 := Lib.hid hb1
  have HI0 := Lib.hid hI0
  have hx1 : ((w.alloc (.cells #[.int .i64 t, .int .i64 y, sv] 24 (0, 0))).alloc (.cells #[.pointer none, .slice none 0 0] 71 (0, 0))).heap[w.heap.size]? = some (.cells #[.int .i64 t, .int .i64 y, sv] 24 (0, 0)) := heap_keep hx0 _
  have hsz1 : ((w.alloc (.cells #[.int .i64 t, .int .i64 y, sv] 24 (0, 0))).alloc (.cells #[.pointer none, .slice none 0 0] 71 (0, 0))).heap.size = w.heap.size + 2 := by simp
  obtain ⟨a, cap, rfl, hlen, hcell⟩ := hB
  clear hTd hT hb0 hcell hb1 hI0 HX0 hx0
  have S1 := Lib.hid (fun (W : World) (hb : Below w.heap.size w W) => HSp.out W hb t 5 (by omega) (by omega))
  have S2 := Lib.hid (fun (W : World) (hb : Below w.heap.size w W) => HSp.out W hb y 6 (by omega) (by omega))
  generalize binS t 5 = s5 at *
  generalize binS y 6 = s6 at *
  go_enter Tryd.func30, Tryd.ntmps30
  go_wp2_with fail
  generalize (w.alloc (.cells #[.int .i64 t, .int .i64 y, .slice a xs.length cap] 24 (0, 0))).alloc (.cells #[.pointer none, .slice none 0 0] 71 (0, 0)) = w1 at *
  obtain ⟨c0, c1, c2⟩ := three_cells hx1
  refine (S1.out w1 HB1.out).mono ?_
  rintro e w2 ⟨rfl, b2⟩
  have hx2 := (b2.block _ (by omega)).trans hx1
  have HI2 := Lib.hid (isBuilderF_below HI0.out b2)
  have HB2 := Lib.hid (HB1.out.trans (b2.mono HB1.out.size))
  have hs2 := b2.size
  clear b2 c0 c1 c2 hx1
  go_wp2_with fail
  refine (sbWriteString_any _ _ [] s5 _ HI2.out (by simp; omega) (by omega)).mono ?_
  rintro e w3 ⟨⟨v3, rfl⟩, hI3, b3⟩
  rw [List.nil_append] at hI3
  have hx3 := (b3.block _ (by omega)).trans hx2
  have HB3 := Lib.hid (HB2.out.trans (b3.mono (by omega)))
  have HI3 := Lib.hid hI3
  have hs3 := b3.size
  obtain ⟨c0, c1, c2⟩ := three_cells hx3
  clear b3 hx2 hI3
  go_wp2_with fail
  refine (S2.out w3 HB3.out).mono ?_
  rintro e w4 ⟨rfl, b4⟩
  have hx4 := (b4.block _ (by omega)).trans hx3
  have HI4 := Lib.hid (isBuilderF_below HI3.out b4)
  have HB4 := Lib.hid (HB3.out.trans (b4.mono HB3.out.size))
  have hs4 := b4.size
  clear b4 hx3 c0 c1 c2
  go_wp2_with fail
  refine (sbWriteString_any _ _ s5.data.toList s6 _ HI4.out (by simp; omega) (by omega)).mono ?_
  rintro e w5 ⟨⟨v5, rfl⟩, hI5, b5⟩
  have hx5 := (b5.block _ (by omega)).trans hx4
  have HB5 := Lib.hid (HB4.out.trans (b5.mono (by omega)))
  have HI5 := Lib.hid hI5
  have hs5 := b5.size
  obtain ⟨c0, c1, c2⟩ := three_cells hx5
  clear b5 hx4 hI5
  go_wp2_with fail
  have hlx : (xs.drop 0).length = xs.length := rfl
  go_loopw [17] (fun k wr => ∃ (j : Nat) (acc : List UInt8), k = .int .i64 j ∧ j ≤ xs.length ∧ acc.length + (9 * (xs.length - j) + 1) ≤ 400 ∧ acc ++ spL (xs.drop j) = T.data.toList ∧ Lib.IsBuilderF 71 5 (w.heap.size + 1) (w.heap.size + 1) (Lib.byteCells acc) wr ∧ Below w.heap.size w wr ∧ w.heap.size + 2 ≤ wr.heap.size) (fun k _ => xs.length - (intOf k).toNat)
  case atStart => exact ⟨0, _, rfl, by omega, by simp; omega, HTd.out, HI5.out, HB5.out, by omega⟩
  case round =>
    obtain ⟨j, acc, rfl, hj, hal, hacc, hI, hb, hsz⟩ := hrel
    have HB := Lib.hid hb
    have HI := Lib.hid hI
    have HA := Lib.hid hacc
    clear hacc hI hb
    by_cases hj2 : j < xs.length
    · have hd : xs.drop j = xs[j] :: xs.drop (j + 1) := List.drop_eq_getElem_cons hj2
      have hpj : xs[j]? = some xs[j] := List.getElem?_eq_getElem hj2
      obtain ⟨a', cap', he, _, h0 | ⟨b, off, rfl, hbl, hc⟩⟩ := HBy.out wr HB.out
      · rw [h0] at hj2; simp at hj2
      have hcj := hc j hj2
      rw [hpj, Option.getD_some] at hcj
      obtain ⟨rfl, rfl⟩ : a = some ⟨b, off, none⟩ ∧ cap = cap' := by
        injection he with h1 _ h2
        exact ⟨h1, h2⟩
      rw [hd] at HA
      generalize xs[j] = p at *
      have hp := p.toNat_lt
      have S3 := Lib.hid (fun (W : World) (hb : Below w.heap.size w W) => HSp.out W hb p.toNat 8 (by omega) (by omega))
      have z3 := binS_size p.toNat 8
      have HA2 : Hid ((acc ++ (⟨#[49]⟩ : ByteArray).data.toList) ++ (binS p.toNat 8).data.toList ++ spL (xs.drop (j + 1)) = T.data.toList) := by
        show _ = _
        rw [← HA.out]
        simp [spL, binS]
      have q1 : (j : Int) < (xs.length : Int) := by omega
      have q2 : (0 : Int) ≤ (j : Int) := by omega
      clear hd hpj he hc HA
      obtain ⟨s8, hs8⟩ : ∃ s8, binS p.toNat 8 = s8 := ⟨_, rfl⟩
      rw [hs8] at S3 z3 HA2
      clear hs8
      go_wp2_with fail
      refine (sbWriteString_any _ _ acc ⟨#[49]⟩ _ HI.out (by show acc.length + 1 ≤ _; omega) (by omega)).mono ?_
      rintro e w6 ⟨⟨v6, rfl⟩, hI6, b6⟩
      have HB6 := Lib.hid (HB.out.trans (b6.mono (by omega)))
      have HI6 := Lib.hid hI6
      have hs6 := b6.size
      clear b6 hI6
      go_wp2_with fail
      refine (S3.out w6 HB6.out).mono ?_
      rintro e w7 ⟨rfl, b7⟩
      have HI7 := Lib.hid (isBuilderF_below HI6.out b7)
      have HB7 := Lib.hid (HB6.out.trans (b7.mono HB6.out.size))
      have hs7 := b7.size
      clear b7
      go_wp2_with fail
      refine (sbWriteString_any _ _ (acc ++ (⟨#[49]⟩ : ByteArray).data.toList) s8 _ HI7.out (by rw [List.length_append]; show acc.length + 1 + s8.size ≤ _; omega) (by omega)).mono ?_
      rintro e w8 ⟨⟨v8, rfl⟩, hI8, b8⟩
      have HB8 := Lib.hid (HB7.out.trans (b8.mono (by omega)))
      have HI8 := Lib.hid hI8
      have hs8 := b8.size
      clear b8 hI8
      go_wp2_with fail
      go_roundw
      case rel => exact ⟨j + 1, _, by go_num, by omega, by rw [List.length_append, List.length_append]; show acc.length + 1 + s8.data.toList.length + _ ≤ _; rw [list_size]; omega, HA2.out, HI8.out, HB8.out, by omega⟩
      case measure => simp [intOf]; omega
    · obtain rfl : j = xs.length := by omega
      have hnil : xs.drop xs.length = [] := List.drop_eq_nil_of_le (Nat.le_refl _)
      rw [hnil] at HA
      go_wp2_with fail
      refine (sbWriteString_any _ _ acc ⟨#[48]⟩ _ HI.out (by show acc.length + 1 ≤ _; omega) (by omega)).mono ?_
      rintro e w6 ⟨⟨v6, rfl⟩, hI6, b6⟩
      have HB6 := Lib.hid (HB.out.trans (b6.mono (by omega)))
      have HI6 := Lib.hid hI6
      have hs6 := b6.size
      clear b6 hI6
      go_wp2_with fail
      refine (sbString_any _ _ _ _ HI6.out (by omega)).mono ?_
      rintro e w7 ⟨rfl, b7⟩
      have HB7 := Lib.hid (HB6.out.trans (b7.mono (by omega)))
      clear b7
      go_wp2_with fail
      go_ret
      refine ⟨?_, HB7.out⟩
      rw [show acc ++ (⟨#[48]⟩ : ByteArray).data.toList = T.data.toList from HA.out]
      rfl

set_option maxRecDepth 100000 in
set_option maxHeartbeats 1000000 in
theorem hPut_any (t y : Int) {n₀ : Nat} {w : World} {sv : Value} {xs : List UInt8} (hT : Tab2 w) (hB : Byt n₀ w sv xs) (hn : n₀ ≤ w.heap.size) (hl : xs.length ≤ 1000000) :
    Calls Tryd.prog 10 #[headV t y sv] w fun e w' => e = .returned (.tuple #[.string (txH t y xs), .int .i64 (ckH t y xs.length)]) ∧ Below w.heap.size w w' := by
  have hb0 : Below w.heap.size w (w.alloc (.cells #[.int .i64 t, .int .i64 y, sv] 24 (0, 0))) := (Below.refl _ w).alloc (Nat.le_refl _) _
  have hx0 := World.alloc_heap_new w (.cells #[.int .i64 t, .int .i64 y, sv] 24 (0, 0))
  have hlt : w.heap.size < (w.alloc (.cells #[.int .i64 t, .int .i64 y, sv] 24 (0, 0))).heap.size := by simp
  have HB0 := Lib.hid hb0
  have HX := Lib.hid (fun (W : World) (hb : Below w.heap.size w W) (a b : Nat) (h1 : a < 32) (h2 : b < 64) (h3 : xs.length ≤ 32) => htext_any a b h1 h2 (hT.below hb) (Byt.below (hb.mono hn) hB) (Nat.le_trans hn hb.size) h3)
  obtain ⟨a, cap, rfl, hlen, hcell⟩ := hB
  have HC := Lib.hid (fun W => hcheck_any t y a xs.length cap W hl)
  clear hcell hb0
  by_cases hck : ckH t y xs.length = 0
  · obtain ⟨h1, h2, h3, h4, h5⟩ := (ckH_iff t y xs.length).1 hck
    obtain ⟨tn, rfl⟩ : ∃ n : Nat, t = n := ⟨t.toNat, by omega⟩
    obtain ⟨yn, rfl⟩ : ∃ n : Nat, y = n := ⟨y.toNat, by omega⟩
    rw [txH_ok hck, hck, Int.toNat_natCast, Int.toNat_natCast]
    rw [hck] at HC
    have HX2 := Lib.hid (fun W hb => HX.out W hb tn yn (by omega) (by omega) h5)
    generalize binS tn 5 ++ (binS yn 6 ++ spS xs) = s at *
    clear HX hck h1 h2 h3 h4 hT
    obtain ⟨y0, y1, y2⟩ := three_cells hx0
    go_enter Tryd.func10, Tryd.ntmps10
    go_wp2_with fail
    generalize w.alloc (.cells #[.int .i64 tn, .int .i64 yn, .slice a xs.length cap] 24 (0, 0)) = w0 at *
    refine (HC.out _).mono ?_
    rintro e w1 ⟨rfl, b1⟩
    have hx1 := (b1.block _ hlt).trans hx0
    have B1 := Lib.hid (HB0.out.trans (b1.mono HB0.out.size))
    clear y0 y1 y2 b1
    obtain ⟨y0, y1, y2⟩ := three_cells hx1
    go_wp2_with fail
    refine (HX2.out _ B1.out).mono ?_
    rintro e w2 ⟨rfl, b2⟩
    have B2 := Lib.hid (B1.out.trans (b2.mono B1.out.size))
    clear b2
    go_wp2_with fail
    go_ret2
    exact ⟨rfl, B2.out⟩
  · rw [txH_bad hck, ckH_two hck]
    rw [ckH_two hck] at HC
    clear HX hck hT
    obtain ⟨y0, y1, y2⟩ := three_cells hx0
    go_enter Tryd.func10, Tryd.ntmps10
    go_wp2_with fail
    generalize w.alloc (.cells #[.int .i64 t, .int .i64 y, .slice a xs.length cap] 24 (0, 0)) = w0 at *
    refine (HC.out _).mono ?_
    rintro e w1 ⟨rfl, b1⟩
    have B1 := Lib.hid (HB0.out.trans (b1.mono HB0.out.size))
    clear b1
    go_wp2_with fail
    go_ret2
    exact ⟨rfl, B1.out⟩

end Go.Proofs.YtlcaboddkcpgaaaDoor
