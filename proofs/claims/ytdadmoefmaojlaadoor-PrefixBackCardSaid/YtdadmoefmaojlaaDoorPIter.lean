/- prefix's iterators: bitsOf (the bits that a text spells) and bitsOn (the bits from a place on). -/
import Derived.Test.YtdadmoefmaojlaaDoorPCode
import Derived.Test.YtdadmoefmaojlaaDoorFind2
namespace Go.Proofs.YtdadmoefmaojlaaDoor
open Go.RowKit Go.Shelf
set_option linter.unusedVariables false
attribute [local go_sem] Oper.semAt_some

/-! ### bitsOf -/
/-- what bitsOf hands to a round -/
abbrev encT (s : ByteArray) (k : Nat) : Array Value := #[.int .i64 ((bitsL s)[k]?.getD 0 : Nat)]
theorem bitsOf_in (F : Fence) (n : Nat) (hf : F.fn 51) (hro : F.round = none) (s : ByteArray) (w : World) :
    CallsIn F n Tryd.prog 51 #[.string s] w fun e w' => e = .returned (.func (.func 60) #[] #[.pointer (some ⟨w.heap.size, 0, none⟩)]) ∧ w' = w.alloc (.cells #[.string s] 9) := by
  refine callsIn_of_wp Tryd.func51 rfl hf ?_ hro
  simp only [Tryd.ntmps51, List.size_toArray, List.length_cons, List.length_nil, Nat.reduceAdd, Nat.reduceSub, Array.replicate_succ, Array.replicate_zero, List.push_toArray, List.append_toArray, List.nil_append, List.cons_append]
  gi_wp2
  go_ret
  exact ⟨rfl, rfl⟩

theorem bitsL_val {s : ByteArray} (hs : AllBits s) {k : Nat} (hk : k < s.size) : (((bitsL s)[k]?.getD 0 : Nat) : Int) = ((s[k].toNat : Int) - 48) % 256 := by
  have e : (bitsL s)[k]? = some (s[k].toNat - 48) := by
    rw [List.getElem?_eq_getElem (by rw [bitsL_len]; exact hk)]
    unfold bitsL
    rw [List.getElem_map]
    have : s.data.toList[k]'(by simpa using hk) = s[k] := by simp; rfl
    rw [this]
  rw [e, Option.getD_some]
  rcases hs k hk with h | h
  · rw [h]; decide
  · rw [h]; decide

set_option maxRecDepth 100000 in
set_option maxHeartbeats 2000000 in
theorem bitsOf1_in (n : Nat) (hn : 1 ≤ n) (l m bb : Nat) (s : ByteArray) (hs : AllBits s) (hsz : s.size ≤ 9223372036854775807) (J Jx : List Nat → World → Prop)
    (hY : ∀ pre x W, J pre W → pre.length < s.size → YieldAt Fence.wide (n - 1) Tryd.prog l (encT s x) W fun e W' =>
      (e = .returned (.bool true) ∧ J (pre ++ [x]) W' ∧ KpB m bb bb W W') ∨ (e = .returned (.bool false) ∧ Jx (pre ++ [x]) W'))
    (W : World) (hbb : W.cell? ⟨bb, 0, none⟩ = some (.string s)) (h0 : J [] W) :
    CallsIn Fence.wide n Tryd.prog 60 #[.func (.yield l) #[] #[], .pointer (some ⟨bb, 0, none⟩)] W fun e W' => (∃ v, e = .returned v) ∧
      ((∃ ys, ys = List.range s.size ∧ J ys W') ∨ (∃ pre, (∃ k, k < s.size ∧ pre = List.range (k + 1)) ∧ Jx pre W')) := by
  have HS := Lib.hid hs
  clear hs
  refine callsIn_of_wp Tryd.func60 rfl trivial ?_ rfl
  simp only [Tryd.ntmps60, List.size_toArray, List.length_cons, List.length_nil, Nat.reduceAdd, Nat.reduceSub, Array.replicate_succ, Array.replicate_zero, List.push_toArray, List.append_toArray, List.nil_append, List.cons_append]
  gi_wp2
  gi_loopw [6] (fun p wr => ∃ k : Nat, k ≤ s.size ∧ p = .int .i64 k ∧ J (List.range k) wr ∧ KpB m bb bb W wr)
    (fun p _ => s.size - (intOf p).toNat)
  case atStart => exact ⟨0, Nat.zero_le _, rfl, h0, KpB.rfl⟩
  case round =>
    obtain ⟨k, hk, rfl, hJs, hK⟩ := hrel
    have hbb' := hK.2.1.trans hbb
    by_cases hlt : k < s.size
    · obtain ⟨fn, tmps, assign, body, hy, hR⟩ := hY _ k wr hJs (by simpa using hlt)
      simp only [encT] at hy
      rw [bitsL_val HS.out hlt] at hy
      gi_wp2
      refine hR.mono ?_
      rintro e W3 (⟨rfl, hJ3, hk3⟩ | ⟨rfl, hJx3⟩)
      · gi_wp2
        go_roundw
        case rel => exact ⟨k + 1, by omega, by go_num, by rw [List.range_succ]; exact hJ3, hK.t hk3⟩
        case measure => simp [intOf]; omega
      · gi_wp2
        refine bodyPost_ret (results_none rfl _ _ _) rfl ?_
        exact ⟨⟨_, rfl⟩, .inr ⟨_, ⟨k, hlt, by rw [List.range_succ]⟩, hJx3⟩⟩
    · obtain rfl : k = s.size := by omega
      gi_wp2
      go_end0
      exact ⟨⟨_, rfl⟩, .inl ⟨_, rfl, hJs⟩⟩

theorem bitsOf_stops (n : Nat) (hn : 1 ≤ n) (m bb : Nat) (s : ByteArray) (hs : AllBits s) (hsz : s.size ≤ 9223372036854775807) (w : World) (hbb : bb < w.heap.size) (hcb : w.cell? ⟨bb, 0, none⟩ = some (.string s)) :
    SeqStopsK Fence.wide n Tryd.prog 60 #[.pointer (some ⟨bb, 0, none⟩)] (encT s) (KpB m bb bb) (fun ys => ys = List.range s.size) (fun pre => ∃ k, k < s.size ∧ pre = List.range (k + 1)) s.size w := fun l J Jx W hW _ _ hY h0 =>
  bitsOf1_in n hn l m bb s hs hsz J Jx hY W ((hW.cell (p := ⟨bb, 0, none⟩) hbb).trans hcb) h0

/-! ### bitsOn -/
/-- what bitsOn hands to a round: the k-th bit behind a place -/
abbrev encB (zs : List UInt8) (i k : Nat) : Array Value := #[.int .i64 (bt zs (i + k))]
theorem pbitsOn_in (F : Fence) (n : Nat) (hf : F.fn 37) (hro : F.round = none) (a : Option Addr) (len cap : Nat) (i : Int) (w : World) :
    CallsIn F n Tryd.prog 37 #[.slice a len cap, .int .i64 i] w fun e w' => e = .returned (.func (.func 53) #[] #[.pointer (some ⟨w.heap.size + 1, 0, none⟩), .pointer (some ⟨w.heap.size, 0, none⟩)]) ∧
      w' = (w.alloc (.cells #[.slice a len cap] 24)).alloc (.cells #[.int .i64 i] 3) := by
  refine callsIn_of_wp Tryd.func37 rfl hf ?_ hro
  simp only [Tryd.ntmps37, List.size_toArray, List.length_cons, List.length_nil, Nat.reduceAdd, Nat.reduceSub, Array.replicate_succ, Array.replicate_zero, List.push_toArray, List.append_toArray, List.nil_append, List.cons_append]
  gi_wp2
  go_ret
  exact ⟨rfl, rfl⟩
theorem read_one {n₀ : Nat} {w : World} {sv : Value} {zs : List UInt8} (hB : Byt n₀ w sv zs) (k : Nat) (h : k < 8 * zs.length) :
    Calls Tryd.prog 29 #[sv, .int .i64 (k : Int), .int .i64 1] w fun e w' => e = .returned (.tuple #[.int .i64 (bt zs k), .int .i64 0]) ∧ w = w' := by
  have hl : zs.length ≤ 1152921504606846975 := by obtain ⟨_, _, _, h, _⟩ := hB; exact h
  have hr := read_any hB (k : Int) 1 (by omega)
  have e : readV zs (k : Int) 1 = .tuple #[.int .i64 (bt zs k), .int .i64 0] := by
    unfold readV
    rw [if_neg (by omega), if_neg (by omega)]
    simp [num]
  rw [e] at hr
  exact hr

set_option maxRecDepth 100000 in
set_option maxHeartbeats 4000000 in
theorem pbitsOn1_in (n : Nat) (hn : 1 ≤ n) (l m bb bf n₁ : Nat) (sv : Value) (zs : List UInt8) (i : Nat) (hi : i ≤ 9223372036854775807) (hm : n₁ ≤ m) (J Jx : List Nat → World → Prop)
    (hY : ∀ pre x W, J pre W → pre.length < zs.length * 8 - i → YieldAt Fence.wide (n - 1) Tryd.prog l (encB zs i x) W fun e W' =>
      (e = .returned (.bool true) ∧ J (pre ++ [x]) W' ∧ KpB m bb bf W W') ∨ (e = .returned (.bool false) ∧ Jx (pre ++ [x]) W'))
    (W : World) (hbb : W.cell? ⟨bb, 0, none⟩ = some sv) (hbf : W.cell? ⟨bf, 0, none⟩ = some (.int .i64 i)) (hB : Byt n₁ W sv zs) (h0 : J [] W) :
    CallsIn Fence.wide n Tryd.prog 53 #[.func (.yield l) #[] #[], .pointer (some ⟨bf, 0, none⟩), .pointer (some ⟨bb, 0, none⟩)] W fun e W' => (∃ v, e = .returned v) ∧
      ((∃ ys, ys = List.range (zs.length * 8 - i) ∧ J ys W') ∨ (∃ pre, (∃ k, k < zs.length * 8 - i ∧ pre = List.range (k + 1)) ∧ Jx pre W')) := by
  have hl : zs.length ≤ 1152921504606846975 := by obtain ⟨_, _, _, h, _⟩ := hB; exact h
  have HB := Lib.hid hB
  obtain ⟨a, cap, rfl, _, _⟩ := hB
  refine callsIn_of_wp Tryd.func53 rfl trivial ?_ rfl
  simp only [Tryd.ntmps53, List.size_toArray, List.length_cons, List.length_nil, Nat.reduceAdd, Nat.reduceSub, Array.replicate_succ, Array.replicate_zero, List.push_toArray, List.append_toArray, List.nil_append, List.cons_append]
  gi_wp2
  gi_loopw [4] (fun p wr => ∃ k : Nat, k ≤ zs.length * 8 - i ∧ p = .int .i64 ((i : Int) + (k : Int)) ∧ J (List.range k) wr ∧ KpB m bb bf W wr)
    (fun p _ => zs.length * 8 - (intOf p).toNat)
  case atStart => exact ⟨0, Nat.zero_le _, by simp, h0, KpB.rfl⟩
  case round =>
    obtain ⟨k, hk, rfl, hJs, hK⟩ := hrel
    have hbb' := hK.2.1.trans hbb
    by_cases hlt : k < zs.length * 8 - i
    · obtain ⟨fn, tmps, assign, body, hy, hR⟩ := hY _ k wr hJs (by simpa using hlt)
      simp only [encB] at hy
      have hrd := read_one (HB.out.below (hK.1.mono hm)) (i + k) (by omega)
      rw [Int.natCast_add] at hrd
      have HR := Lib.hid hrd
      clear hrd
      gi_wp2_with (first | (refine ⟨trivial, ?_⟩; gi_at_call 54; refine (callsIn_wide.2 (count_any _ _ _ _ (by omega))).mono ?_; rintro e w' ⟨rfl, rfl⟩) | (refine ⟨trivial, ?_⟩; gi_at_call 29; refine (callsIn_wide.2 HR.out).mono ?_; rintro e w' ⟨rfl, rfl⟩))
      refine hR.mono ?_
      rintro e W3 (⟨rfl, hJ3, hk3⟩ | ⟨rfl, hJx3⟩)
      · gi_wp2
        go_roundw
        case rel => exact ⟨k + 1, by omega, by go_num, by rw [List.range_succ]; exact hJ3, hK.t hk3⟩
        case measure => simp [intOf]; omega
      · gi_wp2
        refine bodyPost_ret (results_none rfl _ _ _) rfl ?_
        exact ⟨⟨_, rfl⟩, .inr ⟨_, ⟨k, hlt, by rw [List.range_succ]⟩, hJx3⟩⟩
    · obtain rfl : k = zs.length * 8 - i := by omega
      gi_wp2_with (refine ⟨trivial, ?_⟩; gi_at_call 54; refine (callsIn_wide.2 (count_any _ _ _ _ (by omega))).mono ?_; rintro e w' ⟨rfl, rfl⟩)
      go_end0
      exact ⟨⟨_, rfl⟩, .inl ⟨_, rfl, hJs⟩⟩

theorem pbitsOn_stops (n : Nat) (hn : 1 ≤ n) (m bb bf i n₁ : Nat) (sv : Value) (zs : List UInt8) (w : World) (hi : i ≤ 9223372036854775807) (hm : m ≤ w.heap.size) (hn1 : n₁ ≤ m) (hbb : bb < w.heap.size) (hbf : bf < w.heap.size)
    (hcb : w.cell? ⟨bb, 0, none⟩ = some sv) (hcf : w.cell? ⟨bf, 0, none⟩ = some (.int .i64 i)) (hB : Byt n₁ w sv zs) :
    SeqStopsK Fence.wide n Tryd.prog 53 #[.pointer (some ⟨bf, 0, none⟩), .pointer (some ⟨bb, 0, none⟩)] (encB zs i) (KpB m bb bf) (fun ys => ys = List.range (zs.length * 8 - i)) (fun pre => ∃ k, k < zs.length * 8 - i ∧ pre = List.range (k + 1)) (zs.length * 8 - i) w := fun l J Jx W hW _ _ hY h0 =>
  pbitsOn1_in n hn l m bb bf n₁ sv zs i hi hn1 J Jx hY W ((hW.cell (p := ⟨bb, 0, none⟩) hbb).trans hcb) ((hW.cell (p := ⟨bf, 0, none⟩) hbf).trans hcf) (hB.below (hW.mono (by omega))) h0

end Go.Proofs.YtdadmoefmaojlaaDoor
