/- cosine.strided: the places of a line, one after another. -/
import Derived.Test.YtpmdeoiajnfabaaCLine
import Derived.Test.YtpmdeoiajnfabaaSeq
import Derived.Sort.LoopGhostIn
namespace Go.Proofs.Ytpmdeoiajnfabaa
open Go.RowKit Go.Shelf
set_option linter.unusedVariables false
attribute [local go_sem] Oper.semAt_some

theorem strided_in (F : Fence) (n : Nat) (hf : F.fn 35) (hro : F.round = none) (a b : Int) (w : World) :
    CallsIn F n Try.prog 35 #[.int .i64 a, .int .i64 b] w fun e w' => e = .returned (.func (.func 36) #[] #[.pointer (some ⟨w.heap.size, 0, none⟩), .pointer (some ⟨w.heap.size + 1, 0, none⟩)]) ∧
      w' = (w.alloc (.cells #[.int .i64 a] 3)).alloc (.cells #[.int .i64 b] 3) := by
  refine callsIn_of_wp Try.func35 rfl hf ?_ hro
  simp only [Try.ntmps35, List.size_toArray, List.length_cons, List.length_nil, Nat.reduceAdd, Nat.reduceSub, Array.replicate_succ, Array.replicate_zero, List.push_toArray, List.append_toArray, List.nil_append, List.cons_append]
  gi_wp2
  go_ret
  exact ⟨rfl, rfl⟩

/-- the first places of a line -/
def fromC (k : Nat) : List (Fin 8) := (List.finRange 8).take k
theorem fromC_step : ∀ k : Fin 8, fromC (k.val + 1) = fromC k.val ++ [k] := by decide
theorem fromC_length : ∀ k : Fin 9, (fromC k.val).length = k.val := by decide
/-- what a round is handed -/
def encC (p : Nat → Nat) (x : Fin 8) : Array Value := #[.int .i64 (x.val : Nat), .int .i64 (p x.val : Nat)]
/-- what a round keeps: the two numbers of the places -/
def KpC (p q : Nat) (A B : World) : Prop := B.cell? ⟨p, 0, none⟩ = A.cell? ⟨p, 0, none⟩ ∧ B.cell? ⟨q, 0, none⟩ = A.cell? ⟨q, 0, none⟩
theorem KpC.t {p q : Nat} {A B C : World} (h : KpC p q A B) (k : KpC p q B C) : KpC p q A C := ⟨k.1.trans h.1, k.2.trans h.2⟩
theorem KpC.r {p q : Nat} {A : World} : KpC p q A A := ⟨rfl, rfl⟩

set_option maxRecDepth 100000 in
set_option maxHeartbeats 2000000 in
theorem strided1_in (n : Nat) (hn : 1 ≤ n) (l p q f s : Nat) (hf : f ≤ 100) (hs : s ≤ 100) (J Jx : List (Fin 8) → World → Prop)
    (hY : ∀ pre x W, J pre W → pre.length < 8 → YieldAt Fence.wide (n - 1) Try.prog l (encC (fun i => f + s * i) x) W fun e W' =>
      (e = .returned (.bool true) ∧ J (pre ++ [x]) W' ∧ KpC p q W W') ∨ (e = .returned (.bool false) ∧ Jx (pre ++ [x]) W'))
    (W : World) (hp : W.cell? ⟨p, 0, none⟩ = some (.int .i64 f)) (hq : W.cell? ⟨q, 0, none⟩ = some (.int .i64 s)) (h0 : J [] W) :
    CallsIn Fence.wide n Try.prog 36 #[.func (.yield l) #[] #[], .pointer (some ⟨p, 0, none⟩), .pointer (some ⟨q, 0, none⟩)] W fun e W' => (∃ v, e = .returned v) ∧
      ((∃ ys, ys = fromC 8 ∧ J ys W') ∨ (∃ pre, (∃ k, k < 8 ∧ pre = fromC (k + 1)) ∧ Jx pre W')) := by
  have HY := Lib.hid hY
  clear hY
  refine callsIn_of_wp Try.func36 rfl trivial ?_ rfl
  simp only [Try.ntmps36, List.size_toArray, List.length_cons, List.length_nil, Nat.reduceAdd, Nat.reduceSub, Array.replicate_succ, Array.replicate_zero, List.push_toArray, List.append_toArray, List.nil_append, List.cons_append]
  gi_wp2
  gi_loopw [5] (fun i wr => ∃ k : Nat, k ≤ 8 ∧ i = .int .i64 (k : Int) ∧ J (fromC k) wr ∧ KpC p q W wr) (fun i _ => 8 - (intOf i).toNat)
  case atStart => exact ⟨0, by omega, rfl, h0, KpC.r⟩
  case round =>
    obtain ⟨k, hk, rfl, hJs, hK⟩ := hrel
    by_cases hlt : k < 8
    · have z1 : (k : Int) < 8 := by omega
      have c1 := hK.1.trans hp
      have c2 := hK.2.trans hq
      obtain ⟨fn, tmps, assign, body, hy, hR⟩ := HY.out _ ⟨k, hlt⟩ wr hJs (by rw [fromC_length ⟨k, by omega⟩]; exact hlt)
      have m1 : (0 : Int) ≤ (s : Int) * k := Int.mul_nonneg (by omega) (by omega)
      have m2 : (s : Int) * k ≤ 100 * 7 := Int.mul_le_mul (by omega) (by omega) (by omega) (by omega)
      simp only [encC] at hy
      rw [show ((f + s * k : Nat) : Int) = (f : Int) + (s : Int) * k by push_cast; rfl] at hy
      have HSt := Lib.hid (fromC_step ⟨k, hlt⟩)
      clear hp hq
      gi_wp2
      refine hR.mono ?_
      rintro e W3 (⟨rfl, hJ3, hk3⟩ | ⟨rfl, hJx3⟩)
      · gi_wp2
        go_roundw
        case rel => exact ⟨k + 1, by omega, by go_num, by rw [HSt.out]; exact hJ3, hK.t hk3⟩
        case measure => simp [intOf]; omega
      · gi_wp2
        refine bodyPost_ret (results_none rfl _ _ _) rfl ?_
        exact ⟨⟨_, rfl⟩, .inr ⟨_, ⟨k, hlt, rfl⟩, by rw [HSt.out]; exact hJx3⟩⟩
    · obtain rfl : k = 8 := by omega
      gi_wp2
      go_end0
      exact ⟨⟨_, rfl⟩, .inl ⟨_, rfl, hJs⟩⟩

theorem strided_stops (n : Nat) (hn : 1 ≤ n) (p q f s : Nat) (hf : f ≤ 100) (hs : s ≤ 100) (w : World) (hp : w.cell? ⟨p, 0, none⟩ = some (.int .i64 f)) (hq : w.cell? ⟨q, 0, none⟩ = some (.int .i64 s)) :
    SeqStopsK Fence.wide n Try.prog 36 #[.pointer (some ⟨p, 0, none⟩), .pointer (some ⟨q, 0, none⟩)] (encC (fun i => f + s * i)) (KpC p q) (fun ys => ys = fromC 8) (fun pre => ∃ k, k < 8 ∧ pre = fromC (k + 1)) 8 w := fun l J Jx W hW _ _ hY h0 =>
  strided1_in n hn l p q f s hf hs J Jx hY W ((hW.cell (p := ⟨p, 0, none⟩) (block_lt_of_cell hp)).trans hp) ((hW.cell (p := ⟨q, 0, none⟩) (block_lt_of_cell hq)).trans hq) h0

end Go.Proofs.Ytpmdeoiajnfabaa
