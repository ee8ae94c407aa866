/- The laws' helpers reads, finds, starts, code, Pick, and awake. -/
import Derived.Test.YtglnmaekhpaffaaStart
namespace Go.Proofs.Ytglnmaekhpaffaa
open Go.RowKit Go.Shelf
set_option linter.unusedVariables false

def readN (zs : List UInt8) (i n : Int) : Int :=
  if i < 0 ∨ n < 0 ∨ 32 < n then 0 else if max 0 (zs.length * 8 - i) < n then 0 else num zs i.toNat n.toNat
def readE (zs : List UInt8) (i n : Int) : Int :=
  if i < 0 ∨ n < 0 ∨ 32 < n then 3 else if max 0 (zs.length * 8 - i) < n then 5 else 0
theorem readV_eq (zs : List UInt8) (i n : Int) : readV zs i n = .tuple #[.int .i64 (readN zs i n), .int .i64 (readE zs i n)] := by
  unfold readV readN readE
  by_cases h1 : i < 0 ∨ n < 0 ∨ 32 < n
  · simp only [if_pos h1]
  · by_cases h2 : max 0 ((zs.length : Int) * 8 - i) < n
    · simp only [if_neg h1, if_pos h2]
    · simp only [if_neg h1, if_neg h2]
theorem read_two {n₀ : Nat} {w : World} {sv : Value} {zs : List UInt8} (hB : Byt n₀ w sv zs) (i n : Int) (h1 : i ≤ 9223372036854775807) :
    Calls Try.prog 65 #[sv, .int .i64 i, .int .i64 n] w fun e w' => e = .returned (.tuple #[.int .i64 (readN zs i n), .int .i64 (readE zs i n)]) ∧ w = w' := by
  rw [← readV_eq]; exact read_any hB i n h1

def findN (zs : List UInt8) (i : Int) : Int := if i < 0 then 0 else ((fnd zs i.toNat).getD 0 : Nat)
def findE (zs : List UInt8) (i : Int) : Int := if i < 0 then 3 else if (fnd zs i.toNat).isSome then 0 else 5
theorem findV_eq (zs : List UInt8) (i : Int) : findV zs i = .tuple #[.int .i64 (findN zs i), .int .i64 (findE zs i)] := by
  unfold findV findN findE
  by_cases h1 : i < 0
  · simp only [if_pos h1]
  · simp only [if_neg h1]; cases fnd zs i.toNat <;> simp
theorem find_two {w : World} {sv : Value} {zs : List UInt8} (hB : Byt w.heap.size w sv zs) (i : Int) (hi : i ≤ 9223372036854775807) :
    Calls Try.prog 66 #[sv, .int .i64 i] w fun e w' => e = .returned (.tuple #[.int .i64 (findN zs i), .int .i64 (findE zs i)]) ∧ Below w.heap.size w w' := by
  rw [← findV_eq]; exact find_any hB i hi

/-- the number, the bits and the error of Start -/
def startT (zs : List UInt8) (i : Int) : Int × Int × Int :=
  if i < 0 then (0, 0, 3) else match one zs i.toNat with
  | none => (0, 0, 5)
  | some y => if y < i.toNat + 15 then (0, 0, 7) else if zs.length * 8 < y + 5 then (0, 0, 5) else ((num zs (y + 1) 4 : Nat), (y + 5 - i.toNat : Nat), 0)
theorem startV_eq (zs : List UInt8) (i : Int) : startV zs i = .tuple #[.int .i64 (startT zs i).1, .int .i64 (startT zs i).2.1, .int .i64 (startT zs i).2.2] := by
  unfold startV startT
  by_cases h1 : i < 0
  · simp only [if_pos h1]
  · simp only [if_neg h1]
    cases one zs i.toNat with
    | none => rfl
    | some y =>
      simp only
      by_cases h2 : y < i.toNat + 15
      · simp only [if_pos h2]
      · by_cases h3 : zs.length * 8 < y + 5
        · simp only [if_neg h2, if_pos h3]
        · simp only [if_neg h2, if_neg h3]
theorem start_three {w : World} {sv : Value} {zs : List UInt8} (hB : Byt w.heap.size w sv zs) (i : Int) (hi : i ≤ 9223372036854775807) :
    Calls Try.prog 67 #[sv, .int .i64 i] w fun e w' => e = .returned (.tuple #[.int .i64 (startT zs i).1, .int .i64 (startT zs i).2.1, .int .i64 (startT zs i).2.2]) ∧ Below w.heap.size w w' := by
  rw [← startV_eq]; exact start_any hB i hi

theorem ret_bool {a b : Bool} (h : a = b) : Ending.returned (.bool a) = .returned (.bool b) := by rw [h]

set_option maxHeartbeats 400000 in
theorem reads_any {n₀ : Nat} {w : World} {sv : Value} {zs : List UInt8} (hB : Byt n₀ w sv zs) (i n want err : Int) (h1 : i ≤ 9223372036854775807) :
    Calls Try.prog 45 #[sv, .int .i64 i, .int .i64 n, .int .i64 want, .int .i64 err] w fun e w' => e = .returned (.bool ((readN zs i n == want) && (readE zs i n == err))) ∧ w = w' := by
  have HR := Lib.hid (read_two hB i n h1)
  clear hB
  generalize readN zs i n = x at *
  generalize readE zs i n = y at *
  cases hx : (x == want) with
  | false =>
    go_enter Try.func45, Try.ntmps45
    go_wp2_with (go_at_call 65; refine HR.out.mono ?_; rintro e w' ⟨rfl, rfl⟩)
    go_ret
    exact ⟨rfl, rfl⟩
  | true =>
    go_enter Try.func45, Try.ntmps45
    go_wp2_with (go_at_call 65; refine HR.out.mono ?_; rintro e w' ⟨rfl, rfl⟩)
    go_ret
    exact ⟨rfl, rfl⟩

set_option maxHeartbeats 400000 in
theorem finds_any {w : World} {sv : Value} {zs : List UInt8} (hB : Byt w.heap.size w sv zs) (i want err : Int) (h1 : i ≤ 9223372036854775807) :
    Calls Try.prog 46 #[sv, .int .i64 i, .int .i64 want, .int .i64 err] w fun e w' => e = .returned (.bool ((findN zs i == want) && (findE zs i == err))) ∧ Below w.heap.size w w' := by
  have HR := Lib.hid (find_two hB i h1)
  clear hB
  generalize findN zs i = x at *
  generalize findE zs i = y at *
  cases hx : (x == want) with
  | false =>
    go_enter Try.func46, Try.ntmps46
    go_wp2_with (go_at_call 66; refine HR.out.mono ?_; rintro e w' ⟨rfl, hb⟩)
    go_ret
    exact ⟨rfl, hb⟩
  | true =>
    go_enter Try.func46, Try.ntmps46
    go_wp2_with (go_at_call 66; refine HR.out.mono ?_; rintro e w' ⟨rfl, hb⟩)
    go_ret
    exact ⟨rfl, hb⟩

set_option maxHeartbeats 400000 in
theorem starts_any {w : World} {sv : Value} {zs : List UInt8} (hB : Byt w.heap.size w sv zs) (i want size err : Int) (h1 : i ≤ 9223372036854775807) :
    Calls Try.prog 47 #[sv, .int .i64 i, .int .i64 want, .int .i64 size, .int .i64 err] w fun e w' => e = .returned (.bool (((startT zs i).1 == want) && ((startT zs i).2.1 == size) && ((startT zs i).2.2 == err))) ∧ Below w.heap.size w w' := by
  have HR := Lib.hid (start_three hB i h1)
  clear hB
  generalize (startT zs i).1 = x at *
  generalize (startT zs i).2.1 = y at *
  generalize (startT zs i).2.2 = z at *
  cases hx : (x == want) with
  | false =>
    go_enter Try.func47, Try.ntmps47
    go_wp2_with (go_at_call 67; refine HR.out.mono ?_; rintro e w' ⟨rfl, hb⟩)
    go_ret
    exact ⟨rfl, hb⟩
  | true =>
    cases hy : (y == size) with
    | false =>
      go_enter Try.func47, Try.ntmps47
      go_wp2_with (go_at_call 67; refine HR.out.mono ?_; rintro e w' ⟨rfl, hb⟩)
      go_ret
      exact ⟨rfl, hb⟩
    | true =>
      go_enter Try.func47, Try.ntmps47
      go_wp2_with (go_at_call 67; refine HR.out.mono ?_; rintro e w' ⟨rfl, hb⟩)
      go_ret
      exact ⟨rfl, hb⟩

/-- bytes in a block that was just laid -/
theorem byt_new (w : World) (zs : List UInt8) (cs : Array Value) (cap : Nat) (h : cs = (zs.map fun z => Value.int .u8 z.toNat).toArray) (hl : zs.length ≤ 1152921504606846975) (n₀ : Nat) (hn : w.heap.size < n₀) (t : TypeId) :
    Byt n₀ (w.alloc (.cells cs t)) (.slice (some ⟨w.heap.size, 0, none⟩) zs.length cap) zs := by
  refine ⟨_, _, rfl, hl, .inr ⟨_, _, rfl, hn, fun j hj => ?_⟩⟩
  subst h
  simp [hj, go_sem]

theorem reads_lit (W : World) (zs : List UInt8) (cs : Array Value) (len cap : Nat) (hcs : cs = (zs.map fun z => Value.int .u8 z.toNat).toArray) (hlen : zs.length = len) (i n want err : Int) (hi : i ≤ 1000) (hl : len ≤ 1000)
    (h : ((readN zs i n == want) && (readE zs i n == err)) = true) (t : TypeId) :
    Calls Try.prog 45 #[.slice (some ⟨W.heap.size, 0, none⟩) len cap, .int .i64 i, .int .i64 n, .int .i64 want, .int .i64 err] (W.alloc (.cells cs t)) fun e w' => e = .returned (.bool true) ∧ Below W.heap.size W w' := by
  subst hlen
  refine (reads_any (byt_new W zs cs cap hcs (by omega) (W.heap.size + 1) (by omega) t) i n want err (by omega)).mono ?_
  rintro e w' ⟨rfl, rfl⟩
  exact ⟨ret_bool h, (Below.refl _ _).alloc (Nat.le_refl _) _⟩
theorem finds_lit (W : World) (zs : List UInt8) (cs : Array Value) (len cap : Nat) (hcs : cs = (zs.map fun z => Value.int .u8 z.toNat).toArray) (hlen : zs.length = len) (i want err : Int) (hi : i ≤ 1000) (hl : len ≤ 1000)
    (h : ((findN zs i == want) && (findE zs i == err)) = true) (t : TypeId) :
    Calls Try.prog 46 #[.slice (some ⟨W.heap.size, 0, none⟩) len cap, .int .i64 i, .int .i64 want, .int .i64 err] (W.alloc (.cells cs t)) fun e w' => e = .returned (.bool true) ∧ Below W.heap.size W w' := by
  subst hlen
  refine (finds_any (byt_new W zs cs cap hcs (by omega) _ (by simp) t) i want err (by omega)).mono ?_
  rintro e w' ⟨rfl, hb⟩
  exact ⟨ret_bool h, ((Below.refl _ _).alloc (Nat.le_refl _) _).trans (hb.mono (by simp))⟩
theorem starts_lit (W : World) (zs : List UInt8) (cs : Array Value) (len cap : Nat) (hcs : cs = (zs.map fun z => Value.int .u8 z.toNat).toArray) (hlen : zs.length = len) (i want size err : Int) (hi : i ≤ 1000) (hl : len ≤ 1000)
    (h : (((startT zs i).1 == want) && ((startT zs i).2.1 == size) && ((startT zs i).2.2 == err)) = true) (t : TypeId) :
    Calls Try.prog 47 #[.slice (some ⟨W.heap.size, 0, none⟩) len cap, .int .i64 i, .int .i64 want, .int .i64 size, .int .i64 err] (W.alloc (.cells cs t)) fun e w' => e = .returned (.bool true) ∧ Below W.heap.size W w' := by
  subst hlen
  refine (starts_any (byt_new W zs cs cap hcs (by omega) _ (by simp) t) i want size err (by omega)).mono ?_
  rintro e w' ⟨rfl, hb⟩
  exact ⟨ret_bool h, ((Below.refl _ _).alloc (Nat.le_refl _) _).trans (hb.mono (by simp))⟩

theorem below_chain {B : Nat} {a b c : World} (h : Below B a b) (hB : B ≤ a.heap.size) (k : Below b.heap.size b c) : Below B a c := h.trans (k.mono (by have := h.size; omega))

set_option maxHeartbeats 1000000 in
theorem awake_any (w : World) : Calls Try.prog 10 #[] w fun e w' => e = .returned (.bool true) ∧ Below w.heap.size w w' := by
  go_enter Try.func10, Try.ntmps10
  go_wp2_with fail
  refine (reads_lit w [165, 3] _ 2 2 (by rfl) rfl 0 4 10 0 (by omega) (by omega) (by decide) _).mono ?_
  rintro e w1 ⟨rfl, h1⟩
  go_wp2_with fail
  refine (reads_lit w1 [165, 3] _ 2 2 (by rfl) rfl 6 5 8 0 (by omega) (by omega) (by decide) _).mono ?_
  rintro e w2 ⟨rfl, h2⟩
  go_wp2_with fail
  refine (finds_lit w2 [255, 0, 1] _ 3 3 (by rfl) rfl 0 8 0 (by omega) (by omega) (by decide +kernel) _).mono ?_
  rintro e w3 ⟨rfl, h3⟩
  go_wp2_with fail
  refine (starts_lit w3 [0, 1, 64] _ 3 3 (by rfl) rfl 0 4 20 0 (by omega) (by omega) (by decide +kernel) _).mono ?_
  rintro e w4 ⟨rfl, h4⟩
  go_wp2
  go_ret
  exact ⟨rfl, below_chain (below_chain (below_chain h1 (Nat.le_refl _) h2) (Nat.le_refl _) h3) (Nat.le_refl _) h4⟩

end Go.Proofs.Ytglnmaekhpaffaa
