/- loop: the laws' awake; the walk of LoopKnown (praxinoscopelaw15). -/
import Derived.Test.YtdpnmddjhlkbjaaLLaw
namespace Go.Proofs.Ytdpnmddjhlkbjaa
open Go.RowKit Go.Shelf Go.Sort
set_option linter.unusedVariables false

theorem some15_lit (w : World) (L : List UInt8) (n : Nat) (hL : L.length = 2 * n) (hn : n ≤ 16) (cs : Array Value) (hcs : cs = (L.map fun z => Value.int .u8 z.toNat).toArray) :
    Calls Try.prog 25 #[.slice (some ⟨w.heap.size, 0, none⟩) L.length L.length] (w.alloc (.cells cs 5 (0, 0))) fun e w' => e = .returned (.slice (some ⟨w.heap.size + 1, 0, none⟩) 64 64) ∧ BytR w' (w.heap.size + 1) (someS L n) ∧ Below w.heap.size w w' := by
  have hb := byt_new w L cs L.length hcs (by omega) (w.heap.size + 1) (by omega) 5
  have hz : (w.alloc (.cells cs 5 (0, 0))).heap.size = w.heap.size + 1 := by simp
  have h0 : Below w.heap.size w (w.alloc (.cells cs 5 (0, 0))) := (Below.refl _ w).alloc (Nat.le_refl _) _
  have := some15_any n hL hn hb (by rw [hz]; omega)
  rw [hz] at this
  exact this.mono fun e w' ⟨h1, h2, h3⟩ => ⟨h1, h2, below_chain h0 (Nat.le_refl _) (by rw [hz]; exact h3)⟩
theorem even_in : fbL (evenP 9 64) = evenP 9 64 := by decide +kernel
theorem some_a : fbL (someS [0, 16] 1) = someS [0, 16, 1, 4, 8, 4, 9, 1] 4 := by decide +kernel
theorem some_b : fbL (someS [9, 16] 1) = someS [9, 4, 10, 2, 17, 2, 18, 1] 4 := by decide +kernel

set_option maxRecDepth 100000 in
set_option maxHeartbeats 4000000 in
theorem awake15_any (I : LoopI) (w : World) : Calls Try.prog 8 #[] w fun e w' => e = .returned (.bool true) ∧ Below w.heap.size w w' := by
  go_enter Try.func8, Try.ntmps8
  go_wp2_with fail
  refine (even15_any 9 w).mono ?_
  rintro e w1 ⟨rfl, n1, b1⟩
  have B1 := Lib.hid b1
  have N1 := Lib.hid n1
  have hs1 := b1.size
  have hl1 := n1.lt
  clear b1 n1
  go_wp2_with fail
  refine (even15_any 9 w1).mono ?_
  rintro e w2 ⟨rfl, n2, b2⟩
  have B2 := Lib.hid (below_chain B1.out (Nat.le_refl _) b2)
  have N1 := Lib.hid (N1.out.below b2 hl1)
  have N2 := Lib.hid n2
  clear b2 n2
  have HF := Lib.hid (filters15_any I (N1.out.byt (evenP_length _ _) (by omega)) (Nat.le_refl _) ⟨_, _, _, rfl, Nat.le_refl _⟩ (N2.out.byt (evenP_length _ _) (by omega)) (Nat.le_refl _) (evenP_length _ _) even_in)
  go_wp2_with fail
  refine HF.out.mono ?_
  rintro e w3 ⟨rfl, b3⟩
  have B3 := Lib.hid (below_chain B2.out (Nat.le_refl _) b3)
  clear b3 HF N1 N2 hl1 hs1
  go_wp2_with fail
  refine (some15_lit w3 [0, 16] 1 (by decide) (by omega) _ rfl).mono ?_
  rintro e w4 ⟨rfl, m1, b1⟩
  have B4 := Lib.hid (below_chain B3.out (Nat.le_refl _) b1)
  have M1 := Lib.hid m1
  have hm1 := m1.lt
  clear b1 m1
  go_wp2_with fail
  refine (some15_lit w4 [0, 16, 1, 4, 8, 4, 9, 1] 4 (by decide) (by omega) _ rfl).mono ?_
  rintro e w5 ⟨rfl, m2, b2⟩
  have B5 := Lib.hid (below_chain B4.out (Nat.le_refl _) b2)
  have M1 := Lib.hid (M1.out.below b2 hm1)
  have M2 := Lib.hid m2
  clear b2 m2
  have HF := Lib.hid (filters15_any I (M1.out.byt (someS_length _ _) (by omega)) (Nat.le_refl _) ⟨_, _, _, rfl, Nat.le_refl _⟩ (M2.out.byt (someS_length _ _) (by omega)) (Nat.le_refl _) (someS_length _ _) some_a)
  go_wp2_with fail
  refine HF.out.mono ?_
  rintro e w6 ⟨rfl, b3⟩
  have B6 := Lib.hid (below_chain B5.out (Nat.le_refl _) b3)
  clear b3 HF M1 M2 hm1
  go_wp2_with fail
  refine (some15_lit w6 [9, 16] 1 (by decide) (by omega) _ rfl).mono ?_
  rintro e w7 ⟨rfl, m1, b1⟩
  have B7 := Lib.hid (below_chain B6.out (Nat.le_refl _) b1)
  have M1 := Lib.hid m1
  have hm1 := m1.lt
  clear b1 m1
  go_wp2_with fail
  refine (some15_lit w7 [9, 4, 10, 2, 17, 2, 18, 1] 4 (by decide) (by omega) _ rfl).mono ?_
  rintro e w8 ⟨rfl, m2, b2⟩
  have B8 := Lib.hid (below_chain B7.out (Nat.le_refl _) b2)
  have M1 := Lib.hid (M1.out.below b2 hm1)
  have M2 := Lib.hid m2
  clear b2 m2
  have HF := Lib.hid (filters15_any I (M1.out.byt (someS_length _ _) (by omega)) (Nat.le_refl _) ⟨_, _, _, rfl, Nat.le_refl _⟩ (M2.out.byt (someS_length _ _) (by omega)) (Nat.le_refl _) (someS_length _ _) some_b)
  go_wp2_with fail
  refine HF.out.mono ?_
  rintro e w9 ⟨rfl, b3⟩
  have B9 := Lib.hid (below_chain B8.out (Nat.le_refl _) b3)
  clear b3 HF M1 M2 hm1
  go_wp2
  go_ret
  exact ⟨rfl, B9.out⟩

theorem soft_a : sfE [4, 8, 4, 0, 0, 0, 0, 16] = 0 ∧ sfL [4, 8, 4, 0, 0, 0, 0, 16] = [16, 24, 16, 4, 0, 0, 16, 64] := by decide +kernel
theorem soft_b : sfE [1, 2, 3] = 2 := by decide +kernel
theorem soft15_lit (I : LoopI) (w : World) (xs : List Int) (n : Nat) (hn : xs.length = n) (hl : n ≤ 1000) (h64 : I64s xs) :
    Calls Try.prog 13 #[.slice (some ⟨w.heap.size, 0, none⟩) n n] (w.alloc (.cells (intV xs).toArray 3 (0, 0))) fun e w' => ∃ v, e = .returned (.tuple #[v, .int .i64 (sfE xs)]) ∧ w'.ownsRow w.heap.size 3 1 v (sfL xs).length (intV (sfL xs)) ∧ Below w.heap.size w w' := by
  have hz : (w.alloc (.cells (intV xs).toArray 3 (0, 0))).heap.size = w.heap.size + 1 := by simp
  have h0 : Below w.heap.size w (w.alloc (.cells (intV xs).toArray 3 (0, 0))) := (Below.refl _ w).alloc (Nat.le_refl _) _
  have := I.soften (rowV_new w (intV xs) 3 n (by simpa using hn) hl) (Nat.le_refl _) (by omega) h64
  exact this.mono fun e w' ⟨v, h1, h2, h3⟩ => ⟨v, h1, ownsRow_base h2 (by omega), below_chain h0 (by omega) h3⟩

set_option maxRecDepth 100000 in
set_option maxHeartbeats 4000000 in
theorem known15_any (I : LoopI) (w : World) : Calls Try.prog 4 #[] w fun e w' => e = .returned (.bool true) ∧ Below w.heap.size w w' := by
  go_enter Try.func4, Try.ntmps4
  go_wp2_with fail
  refine (soft15_lit I w [4, 8, 4, 0, 0, 0, 0, 16] 8 rfl (by omega) (by unfold I64s; decide)).mono ?_
  rw [soft_a.1, soft_a.2]
  rintro e w1 ⟨v1, rfl, o1, b1⟩
  have B1 := Lib.hid b1
  have O1 := Lib.hid o1
  have hs1 := b1.size
  clear b1 o1
  go_wp2_with fail
  refine (soft15_lit I w1 [1, 2, 3] 3 rfl (by omega) (by unfold I64s; decide)).mono ?_
  rw [soft_b]
  rintro e w2 ⟨v2, rfl, o2, b2⟩
  have B2 := Lib.hid (below_chain B1.out (Nat.le_refl _) b2)
  have O1 := Lib.hid (ownsRow_belowN O1.out b2)
  have hs2 := b2.size
  clear b2 o2
  go_wp2_with fail
  have hb3 := byt_new w2 [1, 2, 3] #[.int .u8 1, .int .u8 2, .int .u8 3] 3 rfl (by decide) (w2.heap.size + 1) (by omega) 5
  have hz3 : (w2.alloc (.cells #[.int .u8 1, .int .u8 2, .int .u8 3] 5 (0, 0))).heap.size = w2.heap.size + 1 := by simp
  have h3 : Below w2.heap.size w2 (w2.alloc (.cells #[.int .u8 1, .int .u8 2, .int .u8 3] 5 (0, 0))) := (Below.refl _ w2).alloc (Nat.le_refl _) _
  have HF := Lib.hid (I.filter hb3 (by omega) ⟨_, _, _, rfl, Nat.le_refl _⟩)
  rw [show fbE [(1 : UInt8), 2, 3].length = 2 from rfl] at HF
  have H3 := Lib.hid h3
  clear hb3 h3
  generalize w2.alloc (.cells #[.int .u8 1, .int .u8 2, .int .u8 3] 5 (0, 0)) = w2' at *
  refine HF.out.mono ?_
  rintro e w3 ⟨v3, rfl, o3, b3⟩
  have b3' := below_chain H3.out (Nat.le_refl _) b3
  have B3 := Lib.hid (below_chain B2.out (Nat.le_refl _) b3')
  have O1 := Lib.hid (ownsRow_belowN O1.out b3')
  have hs3 := b3'.size
  clear b3 b3' o3 HF
  go_wp2_with fail
  refine (awake15_any I w3).mono ?_
  rintro e w4 ⟨rfl, b4⟩
  have B4 := Lib.hid (below_chain B3.out (Nat.le_refl _) b4)
  have O1 := Lib.hid (ownsRow_belowN O1.out b4)
  have hs4 := b4.size
  clear b4
  have hr5 := rowV_new w4 (intV [16, 24, 16, 4, 0, 0, 16, 64]) 3 8 rfl (by omega)
  have h5 : Below w4.heap.size w4 (w4.alloc (.cells (intV [16, 24, 16, 4, 0, 0, 16, 64]).toArray 3 (0, 0))) := (Below.refl _ w4).alloc (Nat.le_refl _) _
  have HS := Lib.hid (sameInts_any (cellsAt_own (ownsRow_belowN O1.out h5)) hr5.cellsAt (by decide) (by decide))
  simp only [decide_true] at HS
  have H5 := Lib.hid h5
  clear hr5 h5
  go_wp2_with fail
  refine HS.out.mono ?_
  rintro e w6 ⟨rfl, b6⟩
  have B6 := Lib.hid (below_chain (below_chain B4.out (Nat.le_refl _) H5.out) (Nat.le_refl _) b6)
  clear b6
  go_wp2
  go_ret
  exact ⟨rfl, B6.out⟩

end Go.Proofs.Ytdpnmddjhlkbjaa
