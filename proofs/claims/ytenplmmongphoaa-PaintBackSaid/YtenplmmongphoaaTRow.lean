/- paint: rows of a block, told one after another (praxinoscope/paint). -/
import Derived.Test.YtenplmmongphoaaSeqN
import Derived.Test.YtenplmmongphoaaKit
namespace Go.Proofs.Ytenplmmongphoaa
open Go.RowKit Go.Shelf Go.Sort
set_option linter.unusedVariables false
attribute [local go_sem] Oper.semAt_some

/-- what a round is handed: where a row begins among the samples, and the row -/
abbrev encT (G off P q cap : Nat) (i : Nat) : Array Value := #[.int .i64 (8 * (i : Int)), .slice (some ⟨G, off + (P + q * i), none⟩) 8 (cap - (P + q * i))]
/-- what a round keeps: the place, and the slice -/
def KpT (pb bb : Nat) (A B : World) : Prop := B.heap[pb]? = A.heap[pb]? ∧ B.heap[bb]? = A.heap[bb]?
theorem KpT.t {p q : Nat} {A B C : World} (h : KpT p q A B) (k : KpT p q B C) : KpT p q A C := ⟨k.1.trans h.1, k.2.trans h.2⟩
theorem KpT.r {p q : Nat} {A : World} : KpT p q A A := ⟨rfl, rfl⟩

theorem trows_in (F : Fence) (n : Nat) (hf : F.fn 59) (hro : F.round = none) (P q : Int) (a : Option Addr) (len cap : Nat) (w : World) :
    CallsIn F n Try.prog 59 #[.agg #[.int .i64 P, .int .i64 q], .slice a len cap] w fun e w' => e = .returned (.func (.func 77) #[] #[.pointer (some ⟨w.heap.size, 0, none⟩), .pointer (some ⟨w.heap.size + 1, 0, none⟩)]) ∧
      w' = (w.alloc (.cells #[.int .i64 P, .int .i64 q] 61)).alloc (.cells #[.slice a len cap] 22) := by
  refine callsIn_of_wp Try.func59 rfl hf ?_ hro
  simp only [Try.ntmps59, List.size_toArray, List.length_cons, List.length_nil, Nat.reduceAdd, Nat.reduceSub, Array.replicate_succ, Array.replicate_zero, List.push_toArray, List.append_toArray, List.nil_append, List.cons_append]
  gi_wp2
  go_ret
  exact ⟨rfl, rfl⟩

set_option maxRecDepth 100000 in
set_option maxHeartbeats 2000000 in
theorem trows1_in (n : Nat) (hn : 1 ≤ n) (l pb bb G off P q len cap : Nat) (hfit : P + q * 7 + 8 ≤ len) (hlc : len ≤ cap) (hl : len ≤ 1000000) (J Jx : Nat → World → Prop)
    (hY : ∀ x W, J x W → x < 8 → YieldAt Fence.wide (n - 1) Try.prog l (encT G off P q cap x) W fun e W' =>
      (e = .returned (.bool true) ∧ J (x + 1) W' ∧ KpT pb bb W W') ∨ (e = .returned (.bool false) ∧ Jx x W'))
    (W : World) (hp : ∃ t, W.heap[pb]? = some (.cells #[.int .i64 (P : Int), .int .i64 (q : Int)] t (0, 0))) (hb : ∃ t, W.heap[bb]? = some (.cells #[.slice (some ⟨G, off, none⟩) len cap] t (0, 0))) (h0 : J 0 W) :
    CallsIn Fence.wide n Try.prog 77 #[.func (.yield l) #[] #[], .pointer (some ⟨pb, 0, none⟩), .pointer (some ⟨bb, 0, none⟩)] W fun e W' => (∃ v, e = .returned v) ∧
      (J 8 W' ∨ (∃ x, x < 8 ∧ Jx x W')) := by
  have HY := Lib.hid hY
  clear hY
  obtain ⟨tp, hp⟩ := hp
  obtain ⟨tb, hb⟩ := hb
  have HP := Lib.hid hp
  have HB := Lib.hid hb
  clear hp hb
  refine callsIn_of_wp Try.func77 rfl trivial ?_ rfl
  simp only [Try.ntmps77, List.size_toArray, List.length_cons, List.length_nil, Nat.reduceAdd, Nat.reduceSub, Array.replicate_succ, Array.replicate_zero, List.push_toArray, List.append_toArray, List.nil_append, List.cons_append]
  gi_wp2
  gi_loopw [6] (fun i wr => ∃ k : Nat, k ≤ 8 ∧ i = .int .i64 (k : Int) ∧ J k wr ∧ KpT pb bb W wr) (fun i _ => 8 - (intOf i).toNat)
  case atStart => exact ⟨0, by omega, rfl, h0, KpT.r⟩
  case round =>
    obtain ⟨k, hk, rfl, hJs, hK⟩ := hrel
    by_cases hlt : k < 8
    · have z1 : (k : Int) < 8 := by omega
      have hpb := hK.1.trans HP.out
      have hbb := hK.2.trans HB.out
      have c1 : wr.cell? ⟨pb, 0, none⟩ = some (.int .i64 (P : Int)) := by simp [World.cell?, hpb]
      have c2 : wr.cell? ⟨pb, 1, none⟩ = some (.int .i64 (q : Int)) := by simp [World.cell?, hpb]
      have c3 : wr.cell? ⟨bb, 0, none⟩ = some (.slice (some ⟨G, off, none⟩) len cap) := by simp [World.cell?, hbb]
      obtain ⟨fn, tmps, assign, body, hy, hR⟩ := HY.out k wr hJs hlt
      have hK0 := Lib.hid hK
      obtain ⟨m, hm⟩ : ∃ m, m = q * k := ⟨_, rfl⟩
      have hm2 : (q : Int) * (k : Int) = (m : Int) := by rw [hm]; push_cast; rfl
      have hm3 : q * k ≤ q * 7 := Nat.mul_le_mul_left _ (by omega)
      simp only [encT] at hy
      rw [← hm] at hy hm3
      have i1 : (P : Int) + (m : Int) + 8 ≤ (len : Int) := by omega
      have i2 : (len : Int) ≤ (cap : Int) := by omega
      have i3 : (len : Int) ≤ 1000000 := by omega
      generalize hw : q * 7 = w7 at *
      clear hm hpb hbb hK hJs hw
      gi_wp2
      refine hR.mono ?_
      rintro e W3 (⟨rfl, hJ3, hk3⟩ | ⟨rfl, hJx3⟩)
      · gi_wp2
        go_roundw
        case rel => exact ⟨k + 1, by omega, by go_num, hJ3, hK0.out.t hk3⟩
        case measure => simp [intOf]; omega
      · gi_wp2
        refine bodyPost_ret (results_none rfl _ _ _) rfl ?_
        exact ⟨⟨_, rfl⟩, .inr ⟨k, hlt, hJx3⟩⟩
    · obtain rfl : k = 8 := by omega
      gi_wp2
      go_end0
      exact ⟨⟨_, rfl⟩, .inl hJs⟩

theorem trows_T (n : Nat) (hn : 1 ≤ n) (pb bb G off P q len cap : Nat) (hfit : P + q * 7 + 8 ≤ len) (hlc : len ≤ cap) (hl : len ≤ 1000000) (w0 : World)
    (hp : ∃ t, w0.heap[pb]? = some (.cells #[.int .i64 (P : Int), .int .i64 (q : Int)] t (0, 0))) (hb : ∃ t, w0.heap[bb]? = some (.cells #[.slice (some ⟨G, off, none⟩) len cap] t (0, 0))) :
    SeqT Fence.wide n Try.prog 77 #[.pointer (some ⟨pb, 0, none⟩), .pointer (some ⟨bb, 0, none⟩)] (encT G off P q cap) (KpT pb bb) 8 w0 := fun l J Jx W hW hJ hJx hY h0 =>
  (trows1_in n hn l pb bb G off P q len cap hfit hlc hl (fun s A => J s A ∧ W.heap.size ≤ A.heap.size) Jx
    (fun x W1 h hx => (hY x W1 h.1 h.2 hx).mono fun e W' ⟨hk, h'⟩ => h'.imp (fun ⟨a, b, c⟩ => ⟨a, ⟨b, Nat.le_trans h.2 hk.1⟩, c⟩) id) W
    (hp.imp fun t h => (hW.block _ (Array.getElem?_eq_some_iff.1 h).1).trans h) (hb.imp fun t h => (hW.block _ (Array.getElem?_eq_some_iff.1 h).1).trans h) ⟨h0, Nat.le_refl _⟩).mono
    fun e W' ⟨h1, h2⟩ => ⟨h1, h2.imp (fun h => h.1) id⟩

end Go.Proofs.Ytenplmmongphoaa
