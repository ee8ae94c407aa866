/- Contracts of bits.NewPen and of a pen's methods made, room, Len, Put. -/
import Derived.Test.YtglnmaekhpaffaaPen
import Derived.LaidEqlPtr
namespace Go.Proofs.Ytglnmaekhpaffaa
open Go.RowKit Go.Shelf
set_option linter.unusedVariables false

theorem push_at {w : World} {b : Nat} {g : Option Nat} {L : List Bool} (y : Int) (x : Bool) (hy : y = x.toNat) (h : IsPen w b g L) (hl : L.length < 16777216) :
    Calls Try.prog 52 #[.pointer (some ⟨b, 0, none⟩), .int .i64 y] w fun e w' => e = .returned (.tuple #[]) ∧ Wrote w w' b g (L ++ [x]) := by
  subst hy; exact push_any h x hl
theorem Wrote.refl {w : World} {b : Nat} {g : Option Nat} {L : List Bool} (h : IsPen w b g L) : Wrote w w b g L := ⟨g, h, Bar.refl _ _, fun k e => .inl e⟩
theorem Wrote.trans {w w1 w2 : World} {b : Nat} {g g' : Option Nat} {L' : List Bool} (hb : Bar (fun k => k = b ∨ g = some k) w w1) (hg : ∀ k, g' = some k → g = some k ∨ w.heap.size ≤ k) (k : Wrote w1 w2 b g' L') : Wrote w w2 b g L' := by
  obtain ⟨g2, hp, hb2, hg2⟩ := k
  refine ⟨g2, hp, hb.trans hb2 (fun j hj e => ?_), fun j e => ?_⟩
  · rcases e with rfl | e
    · exact .inl rfl
    · rcases hg j e with h | h
      · exact .inr h
      · omega
  · rcases hg2 j e with h | h
    · exact hg j h
    · exact .inr (Nat.le_trans hb.size h)

theorem newPen_any (w : World) : Calls Try.prog 11 #[] w fun e w' => e = .returned (.pointer (some ⟨w.heap.size, 0, none⟩)) ∧ IsPen w' w.heap.size none [] ∧ Below w.heap.size w w' := by
  go_enter Try.func11, Try.ntmps11
  go_wp2
  go_ret
  refine ⟨rfl, ⟨.slice none 0 0, [], rfl, World.alloc_heap_new w _, World.ownsRow_nil _ _ _ _, packed_nil, by simp⟩, (Below.refl _ _).alloc (Nat.le_refl _) _⟩

theorem ptr_eq (a : Addr) (w : World) : (binOp .eql 25 (.pointer (some a)) (.pointer (some a))).run Try.prog w = .ok (.bool true) w := by
  obtain ⟨j, hj⟩ : ∃ j, Try.prog.info? 75 = some j := Option.isSome_iff_exists.1 (by kernel_rfl)
  exact run_eql_ptr_same w a Try.underlying25 hj
theorem made_any {w : World} {b : Nat} {g : Option Nat} {L : List Bool} (h : IsPen w b g L) :
    Calls Try.prog 48 #[.pointer (some ⟨b, 0, none⟩)] w fun e w' => e = .returned (.bool true) ∧ w = w' := by
  obtain ⟨v, zs, rfl, hb, _⟩ := h
  obtain ⟨c0, c1, c2, f0, f1, f2⟩ := pen_cells hb
  clear hb
  have he := ptr_eq ⟨b, 0, none⟩ w
  go_enter Try.func48, Try.ntmps48
  go_wp2
  go_ret
  exact ⟨rfl, rfl⟩

theorem room_any {w : World} {b : Nat} {g : Option Nat} {L : List Bool} (h : IsPen w b g L) :
    Calls Try.prog 51 #[.pointer (some ⟨b, 0, none⟩)] w fun e w' => e = .returned (.int .i64 (16777216 - L.length)) ∧ w = w' := by
  obtain ⟨v, zs, rfl, hb, _, _, hl⟩ := h
  obtain ⟨c0, c1, c2, f0, f1, f2⟩ := pen_cells hb
  clear hb
  go_enter Try.func51, Try.ntmps51
  go_wp2
  go_ret
  exact ⟨rfl, rfl⟩

theorem len_any {w : World} {b : Nat} {g : Option Nat} {L : List Bool} (h : IsPen w b g L) :
    Calls Try.prog 12 #[.pointer (some ⟨b, 0, none⟩)] w fun e w' => e = .returned (.int .i64 L.length) ∧ w = w' := by
  have HM := Lib.hid (made_any h)
  obtain ⟨v, zs, rfl, hb, _⟩ := h
  obtain ⟨c0, c1, c2, f0, f1, f2⟩ := pen_cells hb
  clear hb
  go_enter Try.func12, Try.ntmps12
  go_wp2_with (go_at_call 48; refine HM.out.mono ?_; rintro e w' ⟨rfl, rfl⟩)
  go_ret
  exact ⟨rfl, rfl⟩

/-- the bits of a number -/
def numBits (n k : Nat) : List Bool := (List.range k).map fun i => decide (n / 2 ^ (k - 1 - i) % 2 = 1)
def putE (L : List Bool) (n k : Int) : Int :=
  if k < 0 ∨ 32 < k ∨ n < 0 ∨ n / 2 ^ k.toNat ≠ 0 then 3 else if 16777216 - (L.length : Int) < k then 4 else 0
def putL (L : List Bool) (n k : Int) : List Bool := if putE L n k = 0 then L ++ numBits n.toNat k.toNat else L

set_option maxHeartbeats 400000 in
theorem put_range {w : World} {b : Nat} {g : Option Nat} {L : List Bool} (h : IsPen w b g L) (n k : Int) (hr : k < 0 ∨ 32 < k ∨ n < 0) :
    Calls Try.prog 15 #[.pointer (some ⟨b, 0, none⟩), .int .i64 n, .int .i64 k] w fun e w' => e = .returned (.int .i64 3) ∧ w = w' := by
  have HM := Lib.hid (made_any h)
  clear h
  by_cases h1 : k < 0
  · go_enter Try.func15, Try.ntmps15
    go_wp2_with (go_at_call 48; refine HM.out.mono ?_; rintro e w' ⟨rfl, rfl⟩)
    go_ret
    exact ⟨rfl, rfl⟩
  · by_cases h2 : 32 < k
    · go_enter Try.func15, Try.ntmps15
      go_wp2_with (go_at_call 48; refine HM.out.mono ?_; rintro e w' ⟨rfl, rfl⟩)
      go_ret
      exact ⟨rfl, rfl⟩
    · have h3 : n < 0 := by omega
      go_enter Try.func15, Try.ntmps15
      go_wp2_with (go_at_call 48; refine HM.out.mono ?_; rintro e w' ⟨rfl, rfl⟩)
      go_ret
      exact ⟨rfl, rfl⟩

set_option maxHeartbeats 400000 in
theorem put_big {w : World} {b : Nat} {g : Option Nat} {L : List Bool} (h : IsPen w b g L) (n : Int) (k : Nat) (h2 : k ≤ 32) (h3 : 0 ≤ n) (hr : n / 2 ^ k ≠ 0) (hn : n ≤ 9223372036854775807) :
    Calls Try.prog 15 #[.pointer (some ⟨b, 0, none⟩), .int .i64 n, .int .i64 k] w fun e w' => e = .returned (.int .i64 3) ∧ w = w' := by
  have HM := Lib.hid (made_any h)
  have hr' : (n / 2 ^ k != 0) = true := by simpa using hr
  clear h hr
  go_enter Try.func15, Try.ntmps15
  go_wp2_with (go_at_call 48; refine HM.out.mono ?_; rintro e w' ⟨rfl, rfl⟩)
  go_ret
  exact ⟨rfl, rfl⟩

set_option maxHeartbeats 400000 in
theorem put_long {w : World} {b : Nat} {g : Option Nat} {L : List Bool} (h : IsPen w b g L) (n : Int) (k : Nat) (h2 : k ≤ 32) (h3 : 0 ≤ n) (hr : n / 2 ^ k = 0) (hn : n ≤ 9223372036854775807) (hl : 16777216 - (L.length : Int) < k) :
    Calls Try.prog 15 #[.pointer (some ⟨b, 0, none⟩), .int .i64 n, .int .i64 k] w fun e w' => e = .returned (.int .i64 4) ∧ w = w' := by
  have HM := Lib.hid (made_any h)
  have HR := Lib.hid (room_any h)
  have hr' : (n / 2 ^ k != 0) = false := by simpa using hr
  clear h hr
  go_enter Try.func15, Try.ntmps15
  go_wp2_with (first | (go_at_call 48; refine HM.out.mono ?_; rintro e w' ⟨rfl, rfl⟩) | (go_at_call 51; refine HR.out.mono ?_; rintro e w' ⟨rfl, rfl⟩))
  go_ret
  exact ⟨rfl, rfl⟩

theorem numBits_take (n k j : Nat) (hj : j < k) : (numBits n k).take (j + 1) = (numBits n k).take j ++ [decide (n / 2 ^ (k - 1 - j) % 2 = 1)] := by
  rw [List.take_add_one]
  simp [numBits, hj]
theorem toNat_decide (m : Nat) : ((m : Int) % 2) = ((decide (m % 2 = 1)).toNat : Int) := by
  by_cases h : m % 2 = 1
  · simp [h]; omega
  · simp [h]; omega

set_option maxRecDepth 100000 in
set_option maxHeartbeats 1000000 in
theorem put_ok {w : World} {b : Nat} {g : Option Nat} {L : List Bool} (h : IsPen w b g L) (n k : Nat) (h2 : k ≤ 32) (hr : n / 2 ^ k = 0) (hn : n ≤ 9223372036854775807) (hl : L.length + k ≤ 16777216) :
    Calls Try.prog 15 #[.pointer (some ⟨b, 0, none⟩), .int .i64 n, .int .i64 k] w fun e w' => e = .returned (.int .i64 0) ∧ Wrote w w' b g (L ++ numBits n k) := by
  have HM := Lib.hid (made_any h)
  have HR := Lib.hid (room_any h)
  have H := Lib.hid h
  have hr' : ((n : Int) / 2 ^ k != 0) = false := by
    have : ((n : Int) / 2 ^ k) = ((n / 2 ^ k : Nat) : Int) := by simp
    rw [this, hr]; rfl
  have t1 : decide ((k : Int) < 0) = false := by simp
  have t2 : decide ((32 : Int) < k) = false := by simp; omega
  have t3 : decide ((n : Int) < 0) = false := by simp
  have t4 : decide (16777216 - (L.length : Int) < k) = false := by simp; omega
  clear h hr
  go_enter Try.func15, Try.ntmps15
  go_wp2_with (first | (go_at_call 48; refine HM.out.mono ?_; rintro e w' ⟨rfl, rfl⟩) | (go_at_call 51; refine HR.out.mono ?_; rintro e w' ⟨rfl, rfl⟩))
  go_loopw [32] (fun i wr => ∃ j : Nat, j ≤ k ∧ i = .int .i64 j ∧ Wrote w wr b g (L ++ (numBits n k).take j)) (fun i _ => k - (intOf i).toNat)
  case atStart => exact ⟨0, Nat.zero_le _, rfl, by simpa using Wrote.refl H.out⟩
  case round =>
    obtain ⟨j, hj, rfl, g', hp, hbar, hg'⟩ := hrel
    by_cases hlt : j < k
    · have hle : ((numBits n k).take j).length ≤ j := List.length_take_le _ _
      have HP := Lib.hid hp
      have HB := Lib.hid hbar
      have HG := Lib.hid hg'
      clear hp hbar hg'
      have hy : bits .and .i64 ((n : Int) / 2 ^ (k - 1 - j)) 1 = ((decide (n / 2 ^ (k - 1 - j) % 2 = 1)).toNat : Int) := by
        rw [i64_and1, show ((n : Int) / 2 ^ (k - 1 - j)) = ((n / 2 ^ (k - 1 - j) : Nat) : Int) by simp, toNat_decide]
      have HY := Lib.hid hy
      clear hy
      go_wp2_with fail
      refine (push_at _ _ HY.out HP.out (by simp at hle ⊢; omega)).mono ?_
      rintro e w' ⟨rfl, hw⟩
      have HW := Lib.hid hw
      clear hw
      go_wp2
      go_roundw
      case rel => exact ⟨j + 1, by omega, by go_num, by rw [numBits_take n k j hlt, ← List.append_assoc]; exact Wrote.trans HB.out HG.out HW.out⟩
      case measure => simp [intOf]; omega
    · obtain rfl : j = k := by omega
      have HW : Hid (Wrote w wr b g (L ++ numBits n j)) := ⟨g', by rw [List.take_of_length_le (by simp [numBits])] at hp; exact hp, hbar, hg'⟩
      clear hp hbar hg'
      go_wp2
      go_ret
      exact ⟨rfl, HW.out⟩

theorem put_any {w : World} {b : Nat} {g : Option Nat} {L : List Bool} (h : IsPen w b g L) (n k : Int) (hn : n ≤ 9223372036854775807) :
    Calls Try.prog 15 #[.pointer (some ⟨b, 0, none⟩), .int .i64 n, .int .i64 k] w fun e w' => e = .returned (.int .i64 (putE L n k)) ∧ Wrote w w' b g (putL L n k) := by
  have hL : L.length ≤ 16777216 := by obtain ⟨_, _, _, _, _, _, hl⟩ := h; exact hl
  by_cases hr : k < 0 ∨ 32 < k ∨ n < 0
  · have e : putE L n k = 3 := by unfold putE; rw [if_pos (by omega)]
    refine (put_range h n k hr).mono ?_
    rintro _ w' ⟨rfl, rfl⟩
    refine ⟨by rw [e], ?_⟩
    unfold putL; rw [e, if_neg (by omega)]; exact Wrote.refl h
  · obtain ⟨k, rfl⟩ := Int.eq_ofNat_of_zero_le (a := k) (by omega)
    by_cases hb : n / 2 ^ k = 0
    · by_cases hl : 16777216 - (L.length : Int) < k
      · have e : putE L n k = 4 := by unfold putE; rw [if_neg (by rw [Int.toNat_natCast]; omega), if_pos hl]
        refine (put_long h n k (by omega) (by omega) hb hn hl).mono ?_
        rintro _ w' ⟨rfl, rfl⟩
        refine ⟨by rw [e], ?_⟩
        unfold putL; rw [e, if_neg (by omega)]; exact Wrote.refl h
      · have e : putE L n k = 0 := by unfold putE; rw [if_neg (by rw [Int.toNat_natCast]; omega), if_neg hl]
        obtain ⟨n, rfl⟩ := Int.eq_ofNat_of_zero_le (a := n) (by omega)
        refine (put_ok h n k (by omega) (by have : ((n : Int) / 2 ^ k) = ((n / 2 ^ k : Nat) : Int) := by simp
                                            omega) (by omega) (by omega)).mono ?_
        rintro _ w' ⟨rfl, hw⟩
        refine ⟨by rw [e], ?_⟩
        unfold putL; rw [e, if_pos rfl]; exact hw
    · have e : putE L n k = 3 := by unfold putE; rw [if_pos (by rw [Int.toNat_natCast]; omega)]
      refine (put_big h n k (by omega) (by omega) hb hn).mono ?_
      rintro _ w' ⟨rfl, rfl⟩
      refine ⟨by rw [e], ?_⟩
      unfold putL; rw [e, if_neg (by omega)]; exact Wrote.refl h

end Go.Proofs.Ytglnmaekhpaffaa
