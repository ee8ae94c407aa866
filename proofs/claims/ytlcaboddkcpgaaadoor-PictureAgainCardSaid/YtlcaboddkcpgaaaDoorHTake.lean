/- picture: a cursor's take, join (which is handed it as a method value), number, over the landed code. -/
import Derived.Test.YtlcaboddkcpgaaaDoorKit
import Derived.Test.YtlcaboddkcpgaaaDoorHPlain
namespace Go.Proofs.YtlcaboddkcpgaaaDoor
open Go.RowKit Go.Shelf
set_option linter.unusedVariables false

/-- a cursor's block -/
abbrev curH (sv : Value) (n m : Int) : Obj := .cells #[sv, .int .i64 n, .int .i64 m] 57 (0, 0)
/-- the cursor has moved, nothing else -/
structure CurAt (w0 w : World) (c : Nat) (sv : Value) (n m : Int) : Prop where
  bar : Bar (fun k => k = c) w0 w
  cur : w.heap[c]? = some (curH sv n m)
  size : w.heap.size = w0.heap.size
theorem CurAt.lt {w0 w : World} {c : Nat} {sv : Value} {n m : Int} (h : CurAt w0 w c sv n m) : c < w.heap.size := (Array.getElem?_eq_some_iff.1 h.cur).1
theorem CurAt.cells {w0 w : World} {c : Nat} {sv : Value} {n m : Int} (h : CurAt w0 w c sv n m) : w.cell? ⟨c, 0, none⟩ = some sv ∧ w.cell? ⟨c, 1, none⟩ = some (.int .i64 n) ∧ w.cell? ⟨c, 2, none⟩ = some (.int .i64 m) := by simp [World.cell?, h.cur]
theorem CurAt.froz {w0 w : World} {c : Nat} {sv : Value} {n m : Int} (h : CurAt w0 w c sv n m) : w.frozen? ⟨c, 1, none⟩ = false ∧ w.frozen? ⟨c, 2, none⟩ = false := ⟨Lib.frozen_of_heap h.cur 1, Lib.frozen_of_heap h.cur 2⟩
theorem CurAt.trans {w0 w w' : World} {c : Nat} {sv : Value} {n m n' m' : Int} (h : CurAt w0 w c sv n m) (k : CurAt w w' c sv n' m') : CurAt w0 w' c sv n' m' := ⟨h.bar.trans k.bar (fun _ _ e => e), k.cur, k.size.trans h.size⟩
theorem CurAt.at1 {w0 w : World} {c : Nat} {sv : Value} {n m : Int} (h : CurAt w0 w c sv n m) (v : Int) : CurAt w0 (w.setCell ⟨c, 1, none⟩ (.int .i64 v)) c sv v m :=
  ⟨Bar.setCell (S := fun k => k = c) h.bar (p := ⟨c, 1, none⟩) (fun _ => rfl) _, by rw [heap_setCell_same _ c 1 _ _ _ h.cur]; rfl, by simpa using h.size⟩
theorem CurAt.at2 {w0 w : World} {c : Nat} {sv : Value} {n m : Int} (h : CurAt w0 w c sv n m) (v : Int) : CurAt w0 (w.setCell ⟨c, 2, none⟩ (.int .i64 v)) c sv n v :=
  ⟨Bar.setCell (S := fun k => k = c) h.bar (p := ⟨c, 2, none⟩) (fun _ => rfl) _, by rw [heap_setCell_same _ c 2 _ _ _ h.cur]; rfl, by simpa using h.size⟩
theorem CurAt.drewN {w0 w : World} {c : Nat} {sv : Value} {n m : Int} (h : CurAt w0 w c sv n m) (k : Nat) : CurAt w0 (w.drewN k) c sv n m :=
  ⟨⟨h.bar.os, h.bar.tape, h.bar.output, h.bar.size, h.bar.block⟩, h.cur, h.size⟩
theorem CurAt.refl {w : World} {c : Nat} {sv : Value} {n m : Int} (h : w.heap[c]? = some (curH sv n m)) : CurAt w w c sv n m := ⟨Bar.refl _ w, h, rfl⟩
/-- the bytes lie as they lay -/
theorem byt_cur {n₁ : Nat} {w0 w w' : World} {sv sv' : Value} {zs : List UInt8} {c : Nat} {n m : Int} (hB : Byt n₁ w0 sv zs) (hn1 : n₁ ≤ w0.heap.size) (hb0 : Below w0.heap.size w0 w) (hc : w0.heap.size ≤ c) (h : CurAt w w' c sv' n m) : Byt n₁ w' sv zs :=
  Byt.below ((hb0.trans (h.bar.below hb0.size (fun k hk e => by omega))).mono hn1) hB

section
variable {n₁ : Nat} {w0 w : World} {sv : Value} {zs : List UInt8} (hB : Byt n₁ w0 sv zs) (hn1 : n₁ ≤ w0.heap.size) (hl : zs.length ≤ 1000000) (hb0 : Below w0.heap.size w0 w) (c : Nat) (hc : w0.heap.size ≤ c)
include hB hn1 hb0 hc


set_option maxRecDepth 100000 in
set_option maxHeartbeats 1000000 in
/-- a bit is taken -/
theorem htake_one (A W : Nat) (hA : A < 8 * zs.length) (hl : zs.length ≤ 1000000) (hW : 0 < W) (hW2 : W ≤ 1000) (hcur : w.heap[c]? = some (curH sv A W)) :
    Calls Tryd.prog 59 #[.pointer (some ⟨c, 0, none⟩)] w fun e w' => e = .returned (.tuple #[.int .i64 (bt zs A : Nat), .bool true]) ∧ CurAt w w' c sv ((A : Int) + 1) ((W : Int) - 1) := by
  have hC := CurAt.refl hcur
  obtain ⟨c0, c1, c2⟩ := hC.cells
  have HC := Lib.hid hC
  have HR := Lib.hid (fun k => read_any (byt_cur hB hn1 hb0 hc (hC.drewN k)) (A : Int) 1 (by omega))
  have e1 : readV zs (A : Int) 1 = .tuple #[.int .i64 (bt zs A : Nat), .int .i64 0] := by
    unfold readV
    rw [if_neg (by omega), if_neg (by omega), Int.toNat_natCast]
    simp [num]
  rw [e1] at HR
  have q0 : ((W : Int) == 0) = false := by simpa using (show W ≠ 0 by omega)
  have w1 : IntKind.i64.wrap ((A : Int) + 1) = (A : Int) + 1 := by rw [IntKind.wrap_i64]; omega
  have w2 : IntKind.i64.wrap ((W : Int) - 1) = (W : Int) - 1 := by rw [IntKind.wrap_i64]; omega
  clear hB hcur hb0 e1
  go_enter Tryd.func59, Tryd.ntmps59
  go_wp2_with fail
  go_quiet (first | (go_at_call 29; exact Calls.quiet_of_same ((HR.out _).mono (by rintro e w' ⟨h1, h2⟩; exact ⟨h1, h2.symm⟩))))
  have hC2 := HC.out.drewN nq
  obtain ⟨c0, c1, c2⟩ := hC2.cells
  obtain ⟨f1, f2⟩ := hC2.froz
  have hC3 := hC2.at1 ((A : Int) + 1)
  obtain ⟨d0, d1, d2⟩ := hC3.cells
  obtain ⟨g1, g2⟩ := hC3.froz
  have HC4 := Lib.hid (hC3.at2 ((W : Int) - 1))
  have hlt := hC2.lt
  clear hC2 hC3 hC HR
  generalize w.drewN nq = w1 at *
  go_wp2_with fail
  go_ret2
  exact ⟨rfl, HC4.out⟩

set_option maxRecDepth 100000 in
set_option maxHeartbeats 1000000 in
/-- none is wanted, or none is there -/
theorem htake_none (A W : Nat) (hA : W = 0 ∨ 8 * zs.length ≤ A) (hA2 : (A : Int) ≤ 9223372036854775807) (hW : W ≤ 1000) (hcur : w.heap[c]? = some (curH sv A W)) :
    Calls Tryd.prog 59 #[.pointer (some ⟨c, 0, none⟩)] w fun e w' => e = .returned (.tuple #[.int .i64 0, .bool false]) ∧ CurAt w w' c sv A W := by
  have hC := CurAt.refl hcur
  obtain ⟨c0, c1, c2⟩ := hC.cells
  have HC := Lib.hid hC
  have HR := Lib.hid (fun k => read_any (byt_cur hB hn1 hb0 hc (hC.drewN k)) (A : Int) 1 hA2)
  clear hB hcur hb0
  by_cases h0 : W = 0
  · subst h0
    clear HR hA
    go_enter Tryd.func59, Tryd.ntmps59
    go_wp2_with fail
    go_ret2
    exact ⟨rfl, HC.out⟩
  · have q0 : ((W : Int) == 0) = false := by simpa using h0
    have e1 : readV zs (A : Int) 1 = .tuple #[.int .i64 0, .int .i64 5] := by
      unfold readV
      rw [if_neg (by omega), if_pos (by omega)]
    rw [e1] at HR
    clear e1 hA
    go_enter Tryd.func59, Tryd.ntmps59
    go_wp2_with fail
    go_quiet (first | (go_at_call 29; exact Calls.quiet_of_same ((HR.out _).mono (by rintro e w' ⟨h1, h2⟩; exact ⟨h1, h2.symm⟩))))
    have HC2 := Lib.hid (HC.out.drewN nq)
    clear hC HR c0 c1 c2
    generalize w.drewN nq = w1 at *
    go_wp2_with fail
    go_ret2
    exact ⟨rfl, HC2.out⟩

/-- the method value -/
abbrev takeV (c : Nat) : Value := .func (.func 59) #[.pointer (some ⟨c, 0, none⟩)] #[]

set_option maxRecDepth 100000 in
set_option maxHeartbeats 1000000 in
/-- so many bits are joined -/
theorem hjoin_any (hl : zs.length ≤ 1000000) (A m : Nat) (hA : (A : Int) ≤ 9223372036854775807) (hm : m ≤ 30) (hcur : w.heap[c]? = some (curH sv A m)) :
    Calls Tryd.prog 58 #[takeV c] w fun e w' => ∃ k : Nat, k ≤ m ∧ e = .returned (.int .i64 (num zs A k : Nat)) ∧ CurAt w w' c sv ((A : Int) + k) ((m : Int) - k) ∧ (k = m ∨ 8 * zs.length ≤ A + k) ∧ (k = 0 ∨ A + k ≤ 8 * zs.length) := by
  have hC := CurAt.refl hcur
  have HC := Lib.hid hC
  have H1 : Hid (∀ (wr : World) (k : Nat), CurAt w wr c sv ((A : Int) + k) ((m : Int) - k) → k < m → A + k < 8 * zs.length → Calls Tryd.prog 59 #[.pointer (some ⟨c, 0, none⟩)] wr fun e w' => e = .returned (.tuple #[.int .i64 (bt zs (A + k) : Nat), .bool true]) ∧ CurAt wr w' c sv ((A : Int) + (k + 1 : Nat)) ((m : Int) - (k + 1 : Nat))) := fun wr k h hk hA2 => by
    have h' : CurAt w wr c sv ((A + k : Nat) : Int) ((m - k : Nat) : Int) := by rw [show ((A + k : Nat) : Int) = A + k by omega, show ((m - k : Nat) : Int) = m - k by omega]; exact h
    refine (htake_one hB hn1 (hb0.trans (h.bar.below hb0.size (fun k hk e => by omega))) c hc (A + k) (m - k) hA2 hl (by omega) (by omega) h'.cur).mono ?_
    rintro e w' ⟨h1, h2⟩
    refine ⟨h1, ?_⟩
    rw [show ((A : Int) + (k + 1 : Nat)) = ((A + k : Nat) : Int) + 1 by omega, show ((m : Int) - (k + 1 : Nat)) = ((m - k : Nat) : Int) - 1 by omega]
    exact h2
  have H0 : Hid (∀ (wr : World) (k : Nat), CurAt w wr c sv ((A : Int) + k) ((m : Int) - k) → k ≤ m → (k = m ∨ 8 * zs.length ≤ A + k) → (k = 0 ∨ A + k ≤ 8 * zs.length) → Calls Tryd.prog 59 #[.pointer (some ⟨c, 0, none⟩)] wr fun e w' => e = .returned (.tuple #[.int .i64 0, .bool false]) ∧ CurAt wr w' c sv ((A : Int) + k) ((m : Int) - k)) := fun wr k h hk hA2 hA3 => by
    have h' : CurAt w wr c sv ((A + k : Nat) : Int) ((m - k : Nat) : Int) := by rw [show ((A + k : Nat) : Int) = A + k by omega, show ((m - k : Nat) : Int) = m - k by omega]; exact h
    refine (htake_none hB hn1 (hb0.trans (h.bar.below hb0.size (fun k hk e => by omega))) c hc (A + k) (m - k) (by omega) (by omega) (by omega) h'.cur).mono ?_
    rintro e w' ⟨h1, h2⟩
    refine ⟨h1, ?_⟩
    rw [show ((A : Int) + k) = ((A + k : Nat) : Int) by omega, show ((m : Int) - k) = ((m - k : Nat) : Int) by omega]
    exact h2
  clear hB hcur hb0 hC
  go_enter Tryd.func58, Tryd.ntmps58
  go_wp2_with fail
  go_loopw [3] (fun n wr => ∃ k : Nat, k ≤ m ∧ n = .int .i64 (num zs A k : Nat) ∧ CurAt w wr c sv ((A : Int) + k) ((m : Int) - k) ∧ (k = 0 ∨ A + k ≤ 8 * zs.length)) (fun _ wr => (intOf ((wr.cell? ⟨c, 2, none⟩).getD undef)).toNat)
  case atStart => exact ⟨0, Nat.zero_le _, rfl, by simpa using HC.out, .inl rfl⟩
  case round =>
    obtain ⟨k, hk, rfl, hCk, hle⟩ := hrel
    have hc2 := hCk.cells.2.2
    have HCk := Lib.hid hCk
    have HLe := Lib.hid hle
    by_cases h : k < m ∧ A + k < 8 * zs.length
    · have HT := Lib.hid (H1.out _ k hCk h.1 h.2)
      have hn : num zs A (k + 1) = 2 * num zs A k + bt zs (A + k) := rfl
      have hb1 := bt_le zs (A + k)
      have hlt := num_lt zs A k
      have hpw : 2 ^ k ≤ 2 ^ 30 := Nat.pow_le_pow_right (by omega) (by omega)
      have hpe : (2 : Nat) ^ 30 = 1073741824 := by decide
      have hw : IntKind.i64.wrap ((num zs A k : Int) * 2) = ((2 * num zs A k : Nat) : Int) := by rw [IntKind.wrap_i64]; omega
      have ho : bits .or .i64 (2 * (num zs A k : Int)) ((bt zs (A + k) : Nat) : Int) = ((2 * num zs A k + bt zs (A + k) : Nat) : Int) := by
        rw [show 2 * (num zs A k : Int) = ((2 * num zs A k : Nat) : Int) by omega]
        exact i64_or_bit _ _ (by omega) hb1 (by omega)
      have HO := Lib.hid ho
      clear ho
      have HN := Lib.hid hn
      clear hCk hle H0 hn
      go_wp2_with fail
      refine HT.out.mono ?_
      rintro e w2 ⟨rfl, hC2⟩
      have hm2 := hC2.cells.2.2
      have HC2 := Lib.hid (HCk.out.trans hC2)
      clear hC2
      go_wp2_with fail
      go_roundw
      case rel => exact ⟨k + 1, by omega, by rw [HN.out, HO.out], HC2.out, .inr (by omega)⟩
      case measure => rw [hm2, hc2]; simp only [Option.getD_some, intOf]; omega
    · have HT := Lib.hid (H0.out _ k hCk hk (by omega) hle)
      clear hCk hle H1
      go_wp2_with fail
      refine HT.out.mono ?_
      rintro e w2 ⟨rfl, hC2⟩
      have HC2 := Lib.hid (HCk.out.trans hC2)
      clear hC2
      go_wp2_with fail
      go_ret
      exact ⟨k, hk, rfl, HC2.out, by omega, HLe.out⟩

set_option maxRecDepth 100000 in
set_option maxHeartbeats 1000000 in
/-- a number of so many bits -/
theorem hnumber_any (hl : zs.length ≤ 1000000) (A m : Nat) (hA : (A : Int) ≤ 9223372036854775807) (hm : m ≤ 30) (W0 : Int) (hcur : w.heap[c]? = some (curH sv A W0)) :
    Calls Tryd.prog 51 #[.pointer (some ⟨c, 0, none⟩), .int .i64 (m : Nat)] w fun e w' =>
      (A + m ≤ 8 * zs.length ∧ e = .returned (.tuple #[.int .i64 (num zs A m : Nat), .int .i64 0]) ∧ CurAt w w' c sv ((A : Int) + m) 0) ∨
      (m = 0 ∨ 8 * zs.length < A + m) ∧ ∃ A' W' : Int, ((m = 0 ∧ e = .returned (.tuple #[.int .i64 0, .int .i64 0])) ∨ (m ≠ 0 ∧ e = .returned (.tuple #[.int .i64 0, .int .i64 5]))) ∧ CurAt w w' c sv A' W' := by
  have hC := CurAt.refl hcur
  have hC1 := hC.at2 (m : Int)
  obtain ⟨f1, f2⟩ := hC.froz
  obtain ⟨c0, c1, c2⟩ := hC.cells
  have hlt := hC.lt
  have HJ := Lib.hid (hjoin_any hB hn1 (hb0.trans (hC1.bar.below hb0.size (fun k hk e => by omega))) c hc hl A m hA hm hC1.cur)
  have HC1 := Lib.hid hC1
  clear hB hcur hb0 hC hC1
  go_enter Tryd.func51, Tryd.ntmps51
  go_wp2_with fail
  generalize w.setCell ⟨c, 2, none⟩ (.int .i64 m) = w1 at *
  clear c0 c1 c2 f1 f2 hlt
  refine HJ.out.mono ?_
  rintro e w2 ⟨k, hk, rfl, hC2, hor, hor2⟩
  obtain ⟨c0, c1, c2⟩ := hC2.cells
  have hC3 := HC1.out.trans hC2
  have HC3 := Lib.hid hC3
  clear hC3 hC2
  by_cases h : k = m
  · subst h
    have e0 : ((k : Int) - k) = 0 := by omega
    rw [e0] at c2 HC3
    go_wp2_with fail
    go_ret2
    by_cases hk0 : k = 0
    · subst hk0
      exact .inr ⟨.inl rfl, _, _, .inl ⟨rfl, rfl⟩, HC3.out⟩
    · exact .inl ⟨by omega, rfl, HC3.out⟩
  · have q1 : (0 : Int) < (m : Int) - k := by omega
    go_wp2_with fail
    go_ret2
    exact .inr ⟨.inr (by omega), _, _, .inr ⟨by omega, rfl⟩, HC3.out⟩
end
end Go.Proofs.YtlcaboddkcpgaaaDoor
