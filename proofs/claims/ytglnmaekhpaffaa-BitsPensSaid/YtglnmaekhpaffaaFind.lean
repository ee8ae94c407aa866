/- Contracts of the functions that look for start codes by a range over a function (bits.bitsOn, Find, firstOne). -/
import Derived.RangeFuncNested
import Derived.RangeFuncBound
import Derived.RangeFuncCalls
import Derived.RangeFuncLeaves
import Derived.Shelf.Abstract
import Derived.Shelf.RegionOpen
import Derived.WalkKit
import Derived.OwnWalkIn
import Derived.TacticsInMore
import Derived.LoopNIn
import Derived.LoopIn
import Derived.Test.YtglnmaekhpaffaaRead
namespace Go.Proofs.Ytglnmaekhpaffaa
open Go.RowKit Go.Shelf
set_option linter.unusedVariables false

attribute [local go_sem] Oper.semAt_some

/-- what the closure of bitsOn hands to a round -/
abbrev encs (zs : List UInt8) (i : Nat) : Array Value := #[.int .i64 i, .int .i64 (bt zs i)]

/-- a round keeps what lay below m, and the closure's two boxes -/
def KpB (m bx by_ : Nat) (A B : World) : Prop := Below m A B ∧ B.cell? ⟨bx, 0, none⟩ = A.cell? ⟨bx, 0, none⟩ ∧ B.cell? ⟨by_, 0, none⟩ = A.cell? ⟨by_, 0, none⟩
theorem KpB.t {m bx by_ : Nat} {A B C : World} (h : KpB m bx by_ A B) (k : KpB m bx by_ B C) : KpB m bx by_ A C := ⟨h.1.trans k.1, k.2.1.trans h.2.1, k.2.2.trans h.2.2⟩
theorem KpB.rfl {m bx by_ : Nat} {A : World} : KpB m bx by_ A A := ⟨Below.refl _ _, .refl _, .refl _⟩

theorem bitsOn_in (F : Fence) (n : Nat) (hf : F.fn 73) (hro : F.round = none) (a : Option Addr) (len cap : Nat) (i : Int) (w : World) :
    CallsIn F n Try.prog 73 #[.slice a len cap, .int .i64 i] w fun e w' => e = .returned (.func (.func 77) #[] #[.pointer (some ⟨w.heap.size + 1, 0, none⟩), .pointer (some ⟨w.heap.size, 0, none⟩)]) ∧
      w' = (w.alloc (.cells #[.slice a len cap] 37)).alloc (.cells #[.int .i64 i] 3) := by
  refine callsIn_of_wp Try.func73 rfl hf ?_ hro
  simp only [Try.ntmps73, List.size_toArray, List.length_cons, List.length_nil, Nat.reduceAdd, Nat.reduceSub, Array.replicate_succ, Array.replicate_zero, List.push_toArray, List.append_toArray, List.nil_append, List.cons_append]
  gi_wp2
  go_ret
  exact ⟨rfl, rfl⟩

set_option maxRecDepth 100000 in
set_option maxHeartbeats 2000000 in
theorem bitsOn1_in (n : Nat) (hn : 1 ≤ n) (l m bb bf b off len cap : Nat) (zs : List UInt8) (i : Nat)
    (hl : len ≤ 1152921504606846975) (hi : i ≤ 9223372036854775807) (hb : b < m) (J Jx : List Nat → World → Prop)
    (hY : ∀ pre x W, J pre W → pre.length < len * 8 - i → YieldAt Fence.wide (n - 1) Try.prog l (encs zs x) W fun e W' =>
      (e = .returned (.bool true) ∧ J (pre ++ [x]) W' ∧ KpB m bb bf W W') ∨ (e = .returned (.bool false) ∧ Jx (pre ++ [x]) W'))
    (W : World) (hbb : W.cell? ⟨bb, 0, none⟩ = some (.slice (some ⟨b, off, none⟩) len cap)) (hbf : W.cell? ⟨bf, 0, none⟩ = some (.int .i64 i))
    (hc : ∀ j, j < len → W.cell? ⟨b, off + j, none⟩ = some (.int .u8 ((zs[j]?.getD 0).toNat))) (h0 : J [] W) :
    CallsIn Fence.wide n Try.prog 77 #[.func (.yield l) #[] #[], .pointer (some ⟨bf, 0, none⟩), .pointer (some ⟨bb, 0, none⟩)] W fun e W' => (∃ v, e = .returned v) ∧
      ((∃ ys, ys = List.range' i (len * 8 - i) ∧ J ys W') ∨ (∃ pre, (∃ k, k < len * 8 - i ∧ pre = List.range' i (k + 1)) ∧ Jx pre W')) := by
  have HC := Lib.hid hc
  clear hc
  refine callsIn_of_wp Try.func77 rfl trivial ?_ rfl
  simp only [Try.ntmps77, List.size_toArray, List.length_cons, List.length_nil, Nat.reduceAdd, Nat.reduceSub, Array.replicate_succ, Array.replicate_zero, List.push_toArray, List.append_toArray, List.nil_append, List.cons_append]
  gi_wp2
  gi_loopw [4] (fun p wr => ∃ k : Nat, k ≤ len * 8 - i ∧ p = .int .i64 ((i : Int) + (k : Int)) ∧ J (List.range' i k) wr ∧ KpB m bb bf W wr)
    (fun p _ => len * 8 - (intOf p).toNat)
  case atStart => exact ⟨0, Nat.zero_le _, by simp, h0, KpB.rfl⟩
  case round =>
    obtain ⟨k, hk, rfl, hJs, hK⟩ := hrel
    have hbb' := hK.2.1.trans hbb
    by_cases hlt : k < len * 8 - i
    · obtain ⟨fn, tmps, assign, body, hy, hR⟩ := hY _ (i + k) wr hJs (by simpa using hlt)
      simp only [encs, Int.natCast_add] at hy
      have hcx : wr.cell? ⟨b, off + (i + k) / 8, none⟩ = some (.int .u8 ((zs[(i + k) / 8]?.getD 0).toNat)) := (hK.1.cell (p := ⟨b, off + (i + k) / 8, none⟩) hb).trans (HC.out _ (by omega))
      have hck := bitAt_any b off len cap zs ((i + k : Nat) : Int) wr (by omega) (by omega) hl (by rw [Int.toNat_natCast]; exact hcx)
      rw [Int.toNat_natCast] at hck
      have HCK := Lib.hid hck
      clear hck hcx
      gi_wp2_with (first | (refine ⟨trivial, ?_⟩; gi_at_call 76; refine (callsIn_wide.2 (count_any _ _ _ _ (by omega))).mono ?_; rintro e w' ⟨rfl, rfl⟩) | (refine ⟨trivial, ?_⟩; gi_at_call 72; refine (callsIn_wide.2 HCK.out).mono ?_; rintro e w' ⟨rfl, rfl⟩))
      refine hR.mono ?_
      rintro e W3 (⟨rfl, hJ3, hk3⟩ | ⟨rfl, hJx3⟩)
      · gi_wp2
        go_roundw
        case rel => exact ⟨k + 1, by omega, by go_num, by rw [List.range'_concat]; simpa using hJ3, hK.t hk3⟩
        case measure => simp [intOf]; omega
      · gi_wp2
        refine bodyPost_ret (results_none rfl _ _ _) rfl ?_
        exact ⟨⟨_, rfl⟩, .inr ⟨_, ⟨k, hlt, by rw [List.range'_concat]; simp⟩, hJx3⟩⟩
    · obtain rfl : k = len * 8 - i := by omega
      gi_wp2_with (refine ⟨trivial, ?_⟩; gi_at_call 76; refine (callsIn_wide.2 (count_any _ _ _ _ (by omega))).mono ?_; rintro e w' ⟨rfl, rfl⟩)
      go_end0
      exact ⟨⟨_, rfl⟩, .inl ⟨_, rfl, hJs⟩⟩

set_option maxRecDepth 100000 in
set_option maxHeartbeats 1000000 in
theorem bitsOn1_nil (n : Nat) (hn : 1 ≤ n) (l bb bf : Nat) (a : Option Addr) (cap i : Nat) (J : List Nat → World → Prop) (hi : i ≤ 9223372036854775807)
    (W : World) (hbb : W.cell? ⟨bb, 0, none⟩ = some (.slice a 0 cap)) (hbf : W.cell? ⟨bf, 0, none⟩ = some (.int .i64 i)) (h0 : J [] W) :
    CallsIn Fence.wide n Try.prog 77 #[.func (.yield l) #[] #[], .pointer (some ⟨bf, 0, none⟩), .pointer (some ⟨bb, 0, none⟩)] W fun e W' => (∃ v, e = .returned v) ∧ J [] W' := by
  refine callsIn_of_wp Try.func77 rfl trivial ?_ rfl
  simp only [Try.ntmps77, List.size_toArray, List.length_cons, List.length_nil, Nat.reduceAdd, Nat.reduceSub, Array.replicate_succ, Array.replicate_zero, List.push_toArray, List.append_toArray, List.nil_append, List.cons_append]
  gi_wp2
  gi_loopw [4] (fun p wr => p = .int .i64 (i : Int) ∧ J [] wr ∧ W = wr) (fun _ _ => 0)
  case atStart => exact ⟨rfl, h0, rfl⟩
  case round =>
    obtain ⟨rfl, hJs, rfl⟩ := hrel
    gi_wp2_with (refine ⟨trivial, ?_⟩; gi_at_call 76; refine (callsIn_wide.2 (count_any _ _ _ _ (by omega))).mono ?_; rintro e w' ⟨rfl, rfl⟩)
    go_end0
    exact ⟨⟨_, rfl⟩, hJs⟩

theorem bitsOn_stops (n : Nat) (hn : 1 ≤ n) (m bb bf i : Nat) (sv : Value) (zs : List UInt8) (w : World) (hi : i ≤ 9223372036854775807) (hm : m ≤ w.heap.size) (hbb : bb < w.heap.size) (hbf : bf < w.heap.size)
    (hcb : w.cell? ⟨bb, 0, none⟩ = some sv) (hcf : w.cell? ⟨bf, 0, none⟩ = some (.int .i64 i)) (hB : Byt m w sv zs) :
    SeqStopsK Fence.wide n Try.prog 77 #[.pointer (some ⟨bf, 0, none⟩), .pointer (some ⟨bb, 0, none⟩)] (encs zs) (KpB m bb bf) (fun ys => ys = List.range' i (zs.length * 8 - i)) (fun pre => ∃ k, k < zs.length * 8 - i ∧ pre = List.range' i (k + 1)) (zs.length * 8 - i) w := fun l J Jx W hW _ _ hY h0 => by
  have hcb' := (hW.cell (p := ⟨bb, 0, none⟩) hbb).trans hcb
  have hcf' := (hW.cell (p := ⟨bf, 0, none⟩) hbf).trans hcf
  obtain ⟨a, cap, rfl, hl, hz⟩ := hB.below (hW.mono hm)
  rcases hz with rfl | ⟨b, off, rfl, hb, hc⟩
  · exact (bitsOn1_nil n hn l bb bf a cap i J hi W hcb' hcf' h0).mono fun e W' ⟨he, hj⟩ => ⟨he, .inl ⟨_, by simp, hj⟩⟩
  · exact bitsOn1_in n hn l m bb bf b off zs.length cap zs i hl hi hb J Jx hY W hcb' hcf' hc h0

/-! ### The plain side: noughts ahead, and start codes -/
/-- how many noughts stand at the end of some places -/
def zl (zs : List UInt8) (pre : List Nat) : Nat := pre.foldl (fun z i => if bt zs i = 0 then z + 1 else 0) 0
theorem zl_snoc (zs : List UInt8) (pre : List Nat) (x : Nat) : zl zs (pre ++ [x]) = if bt zs x = 0 then zl zs pre + 1 else 0 := by simp [zl]
theorem zl_le (zs : List UInt8) (pre : List Nat) : zl zs pre ≤ pre.length := by
  suffices h : ∀ z, pre.foldl (fun z i => if bt zs i = 0 then z + 1 else 0) z ≤ z + pre.length by have := h 0; unfold zl; omega
  induction pre with
  | nil => simp
  | cons x r ih =>
    intro z
    simp only [List.foldl_cons, List.length_cons]
    split
    · have := ih (z + 1); omega
    · have := ih 0; omega
/-- no place that ends a start code -/
def NoHit (zs : List UInt8) (pre : List Nat) : Prop := ∀ q x, q ++ [x] <+: pre → bt zs x = 0 ∨ zl zs q < 15
theorem noHit_nil (zs : List UInt8) : NoHit zs [] := fun q x h => by
  have := h.length_le; simp at this
theorem noHit_snoc {zs : List UInt8} {pre : List Nat} {x : Nat} (h : NoHit zs pre) (hx : bt zs x = 0 ∨ zl zs pre < 15) : NoHit zs (pre ++ [x]) := by
  intro q y hq
  rcases List.prefix_concat_iff.1 hq with e | e
  · have e1 : q = pre := by have := congrArg List.dropLast e; simpa using this
    have e2 : y = x := by have := congrArg List.getLast? e; simpa using this
    subst e1 e2; exact hx
  · exact h q y e

end Go.Proofs.Ytglnmaekhpaffaa
