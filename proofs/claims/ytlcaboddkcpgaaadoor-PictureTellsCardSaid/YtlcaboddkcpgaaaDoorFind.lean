/- Contracts of the functions that look for start codes by a range over a function (bits.bitsOn, Find, firstOne). Contracts of bits.Find and bits.firstOne. What Find and Start answer, as plain functions; the contracts of bits.Find, bits.firstOne and bits.Start over them. The laws' helpers reads, finds, starts, code, Pick, and awake. -/
import Derived.RangeFuncNested
import Derived.RangeFuncBound
import Derived.RangeFuncCalls
import Derived.RangeFuncLeaves
import Derived.Shelf.Abstract
import Derived.Shelf.RegionOpen
import Derived.WalkKit
import Derived.OwnWalkIn
import Derived.TacticsInMore
import Derived.LoopNIn
import Derived.LoopIn
import Derived.Test.YtlcaboddkcpgaaaDoorRead
/- Contracts of the functions that look for start codes by a range over a function (bits.bitsOn, Find, firstOne). -/
namespace Go.Proofs.YtlcaboddkcpgaaaDoor
open Go.RowKit Go.Shelf
set_option linter.unusedVariables false

attribute [local go_sem] Oper.semAt_some

/-- what the closure of bitsOn hands to a round -/
abbrev encs (zs : List UInt8) (i : Nat) : Array Value := #[.int .i64 i, .int .i64 (bt zs i)]

/-- a round keeps what lay below m, and the closure's two boxes -/
def KpB (m bx by_ : Nat) (A B : World) : Prop := Below m A B ∧ B.cell? ⟨bx, 0, none⟩ = A.cell? ⟨bx, 0, none⟩ ∧ B.cell? ⟨by_, 0, none⟩ = A.cell? ⟨by_, 0, none⟩
theorem KpB.t {m bx by_ : Nat} {A B C : World} (h : KpB m bx by_ A B) (k : KpB m bx by_ B C) : KpB m bx by_ A C := ⟨h.1.trans k.1, k.2.1.trans h.2.1, k.2.2.trans h.2.2⟩
theorem KpB.rfl {m bx by_ : Nat} {A : World} : KpB m bx by_ A A := ⟨Below.refl _ _, .refl _, .refl _⟩

/-! ### The plain side: noughts ahead, and start codes -/
/-- how many noughts stand at the end of some places -/
def zl (zs : List UInt8) (pre : List Nat) : Nat := pre.foldl (fun z i => if bt zs i = 0 then z + 1 else 0) 0
theorem zl_snoc (zs : List UInt8) (pre : List Nat) (x : Nat) : zl zs (pre ++ [x]) = if bt zs x = 0 then zl zs pre + 1 else 0 := by simp [zl]
theorem zl_le (zs : List UInt8) (pre : List Nat) : zl zs pre ≤ pre.length := by
  suffices h : ∀ z, pre.foldl (fun z i => if bt zs i = 0 then z + 1 else 0) z ≤ z + pre.length by have := h 0; unfold zl; omega
  induction pre with
  | nil => simp
  | cons x r ih =>
    intro z
    simp only [List.foldl_cons, List.length_cons]
    split
    · have := ih (z + 1); omega
    · have := ih 0; omega
/-- no place that ends a start code -/
def NoHit (zs : List UInt8) (pre : List Nat) : Prop := ∀ q x, q ++ [x] <+: pre → bt zs x = 0 ∨ zl zs q < 15
theorem noHit_nil (zs : List UInt8) : NoHit zs [] := fun q x h => by
  have := h.length_le; simp at this
theorem noHit_snoc {zs : List UInt8} {pre : List Nat} {x : Nat} (h : NoHit zs pre) (hx : bt zs x = 0 ∨ zl zs pre < 15) : NoHit zs (pre ++ [x]) := by
  intro q y hq
  rcases List.prefix_concat_iff.1 hq with e | e
  · have e1 : q = pre := by have := congrArg List.dropLast e; simpa using this
    have e2 : y = x := by have := congrArg List.getLast? e; simpa using this
    subst e1 e2; exact hx
  · exact h q y e

end Go.Proofs.YtlcaboddkcpgaaaDoor

/- Contracts of bits.Find and bits.firstOne. -/
namespace Go.Proofs.YtlcaboddkcpgaaaDoor
open Go.RowKit Go.Shelf
set_option linter.unusedVariables false
attribute [local go_sem] Oper.semAt_some

theorem KpB.store {m bx by_ : Nat} (A : World) {q : Nat} (v : Value) (h : m ≤ q) (h1 : q ≠ bx) (h2 : q ≠ by_) : KpB m bx by_ A (A.setCell ⟨q, 0, none⟩ v) :=
  ⟨(Below.refl m A).setCell (p := ⟨q, 0, none⟩) h _, World.cell?_setCell_other _ _ _ _ (by simp [*]), World.cell?_setCell_other _ _ _ _ (by simp [*])⟩
theorem KpB.b {m bx by_ : Nat} {w : World} (hm : m ≤ w.heap.size) (h1 : bx < w.heap.size) (h2 : by_ < w.heap.size) (W : World) (l : Nat) (o o' : Obj) (hl : w.heap.size ≤ l) (h : W.heap[l]? = some o) (hc : o.isCells = false) (hw : o.isWalk = false) : KpB m bx by_ W (W.putObj l o') := by
  have hb := belowK_b (w := w) (Nat.le_refl _) W l o o' hl h hc hw
  exact ⟨hb.mono hm, hb.cell (p := ⟨bx, 0, none⟩) h1, hb.cell (p := ⟨by_, 0, none⟩) h2⟩

theorem c_same {W : World} {b : Nat} {u : Value} (v : Value) (h : W.cell? ⟨b, 0, none⟩ = some u) : (W.setCell ⟨b, 0, none⟩ v).cell? ⟨b, 0, none⟩ = some v := World.cell?_setCell_same _ _ _ h
theorem c_other {W : World} {b c : Nat} {u : Value} (v : Value) (hne : b ≠ c) (h : W.cell? ⟨c, 0, none⟩ = some u) : (W.setCell ⟨b, 0, none⟩ v).cell? ⟨c, 0, none⟩ = some u :=
  (World.cell?_setCell_other _ _ _ _ (by simp [*])).trans h
theorem f_kept {W : World} {p q : Addr} (v : Value) (h : W.frozen? q = false) : (W.setCell p v).frozen? q = false := by rw [World.frozen?_setCell]; exact h

end Go.Proofs.YtlcaboddkcpgaaaDoor

/- What Find and Start answer, as plain functions; the contracts of bits.Find, bits.firstOne and bits.Start over them. -/
namespace Go.Proofs.YtlcaboddkcpgaaaDoor
open Go.RowKit Go.Shelf
set_option linter.unusedVariables false

theorem zl_range (zs : List UInt8) (i k : Nat) :
    zl zs (List.range' i k) ≤ k ∧ (∀ y, i + k - zl zs (List.range' i k) ≤ y → y < i + k → bt zs y = 0) ∧ (zl zs (List.range' i k) < k → bt zs (i + k - zl zs (List.range' i k) - 1) ≠ 0) := by
  induction k with
  | zero => exact ⟨by simp [zl], fun y h1 h2 => by simp [zl] at h1; omega, fun h => by omega⟩
  | succ k ih =>
    obtain ⟨h1, h2, h3⟩ := ih
    rw [List.range'_concat, zl_snoc]
    simp only [Nat.one_mul]
    by_cases hb : bt zs (i + k) = 0
    · rw [if_pos hb]
      refine ⟨by omega, fun y a b => ?_, fun h => ?_⟩
      · by_cases hy : y = i + k
        · rw [hy]; exact hb
        · exact h2 y (by omega) (by omega)
      · have := h3 (by omega)
        rw [show i + (k + 1) - (zl zs (List.range' i k) + 1) - 1 = i + k - zl zs (List.range' i k) - 1 by omega]
        exact this
    · rw [if_neg hb]
      exact ⟨by omega, fun y a b => by omega, fun h => by simpa [Nat.add_assoc] using hb⟩
theorem zl_15 {zs : List UInt8} {i k : Nat} (hk : 15 ≤ k) (h : ∀ y, i + k - 15 ≤ y → y < i + k → bt zs y = 0) : 15 ≤ zl zs (List.range' i k) := by
  obtain ⟨h1, h2, h3⟩ := zl_range zs i k
  false_or_by_contra
  exact h3 (by omega) (h _ (by omega) (by omega))

theorem num_zero {zs : List UInt8} {y n : Nat} : num zs y n = 0 ↔ ∀ j, j < n → bt zs (y + j) = 0 := by
  induction n with
  | zero => simp [num]
  | succ n ih =>
    simp only [num]
    constructor
    · intro h j hj
      by_cases e : j = n
      · subst e; omega
      · exact ih.1 (by omega) j (by omega)
    · intro h
      have h1 := ih.2 fun j hj => h j (by omega)
      have h2 := h n (by omega)
      omega
theorem num_one {zs : List UInt8} {y : Nat} : num zs y 16 = 1 ↔ (∀ j, j < 15 → bt zs (y + j) = 0) ∧ bt zs (y + 15) = 1 := by
  have h := bt_le zs (y + 15)
  rw [show num zs y 16 = 2 * num zs y 15 + bt zs (y + 15) from rfl]
  constructor
  · intro e; exact ⟨num_zero.1 (by omega), by omega⟩
  · intro ⟨a, b⟩; have := num_zero.2 a; omega

/-- does a start code stand there? -/
def isCode (zs : List UInt8) (y : Nat) : Bool := decide (y + 16 ≤ zs.length * 8) && num zs y 16 == 1
/-- the first start code from a place on -/
def fnd (zs : List UInt8) (i : Nat) : Option Nat := (List.range' i (zs.length * 8 - i)).find? (isCode zs)
/-- the first one from a place on -/
def one (zs : List UInt8) (i : Nat) : Option Nat := (List.range' i (zs.length * 8 - i)).find? fun y => bt zs y == 1

theorem noHit_code {zs : List UInt8} {i n y : Nat} (h : NoHit zs (List.range' i n)) (hy : i ≤ y) (hn : y + 16 ≤ i + n) : num zs y 16 ≠ 1 := by
  intro e
  obtain ⟨a, b⟩ := num_one.1 e
  have hp : List.range' i (y + 15 - i) ++ [y + 15] <+: List.range' i n := by
    have e1 : List.range' i (y + 15 - i) ++ [y + 15] = List.range' i (y + 16 - i) := by
      rw [show y + 16 - i = (y + 15 - i) + 1 by omega, List.range'_concat]; simp; omega
    rw [e1, show n = (y + 16 - i) + (n - (y + 16 - i)) by omega, ← List.range'_append_1]
    exact List.prefix_append _ _
  rcases h (List.range' i (y + 15 - i)) (y + 15) hp with h0 | h0
  · omega
  · have := zl_15 (zs := zs) (i := i) (k := y + 15 - i) (by omega) fun z z1 z2 => by
      have := a (z - y) (by omega); rwa [show y + (z - y) = z by omega] at this
    omega

theorem fnd_none {zs : List UInt8} {i : Nat} (h : NoHit zs (List.range' i (zs.length * 8 - i))) : fnd zs i = none := by
  unfold fnd
  rw [List.find?_eq_none]
  intro y hy
  simp only [List.mem_range'_1] at hy
  simp only [isCode, Bool.and_eq_true, decide_eq_true_eq, beq_iff_eq, not_and]
  exact fun h16 => noHit_code h (by omega) (by omega)
theorem fnd_some {zs : List UInt8} {i k : Nat} (hk : k < zs.length * 8 - i) (h : NoHit zs (List.range' i k)) (hb : bt zs (i + k) ≠ 0) (hz : 15 ≤ zl zs (List.range' i k)) : fnd zs i = some (i + k - 15) := by
  obtain ⟨h1, h2, h3⟩ := zl_range zs i k
  have hle := bt_le zs (i + k)
  unfold fnd
  rw [List.find?_range'_eq_some]
  refine ⟨?_, ?_, fun j a b => ?_⟩
  · simp only [isCode, Bool.and_eq_true, decide_eq_true_eq, beq_iff_eq]
    refine ⟨by omega, num_one.2 ⟨fun j hj => h2 _ (by omega) (by omega), ?_⟩⟩
    rw [show i + k - 15 + 15 = i + k by omega]; omega
  · simp; omega
  · simp only [isCode, Bool.not_eq_true', Bool.and_eq_false_iff, decide_eq_false_iff_not, beq_eq_false_iff_ne]
    exact .inr (noHit_code h (by omega) (by omega))

/-- what Find answers -/
def findV (zs : List UInt8) (i : Int) : Value :=
  if i < 0 then .tuple #[.int .i64 0, .int .i64 3] else match fnd zs i.toNat with
  | some y => .tuple #[.int .i64 y, .int .i64 0]
  | none => .tuple #[.int .i64 0, .int .i64 5]

theorem one_none {zs : List UInt8} {i : Nat} (h : ∀ y ∈ List.range' i (zs.length * 8 - i), bt zs y = 0) : one zs i = none := by
  unfold one
  rw [List.find?_eq_none]
  intro y hy
  simp [h y hy]
theorem one_some {zs : List UInt8} {i k : Nat} (hk : k < zs.length * 8 - i) (h : ∀ y ∈ List.range' i k, bt zs y = 0) (hb : bt zs (i + k) = 1) : one zs i = some (i + k) := by
  unfold one
  rw [List.find?_range'_eq_some]
  refine ⟨by simp [hb], by simp; omega, fun j a b => ?_⟩
  have := h j (by simp; omega)
  simp [this]

/-- what firstOne answers -/
def oneV (zs : List UInt8) (i : Nat) : Value := match one zs i with
  | some y => .tuple #[.int .i64 y, .bool true]
  | none => .tuple #[.int .i64 0, .bool false]
/-- what Start answers -/
def startV (zs : List UInt8) (i : Int) : Value :=
  if i < 0 then .tuple #[.int .i64 0, .int .i64 0, .int .i64 3] else match one zs i.toNat with
  | none => .tuple #[.int .i64 0, .int .i64 0, .int .i64 5]
  | some y => if y < i.toNat + 15 then .tuple #[.int .i64 0, .int .i64 0, .int .i64 7]
    else if zs.length * 8 < y + 5 then .tuple #[.int .i64 0, .int .i64 0, .int .i64 5]
    else .tuple #[.int .i64 (num zs (y + 1) 4), .int .i64 ((y + 5 - i.toNat : Nat)), .int .i64 0]

theorem one_lt {zs : List UInt8} {i y : Nat} (h : one zs i = some y) : i ≤ y ∧ y < zs.length * 8 ∧ bt zs y = 1 ∧ ∀ j, i ≤ j → j < y → bt zs j = 0 := by
  unfold one at h
  rw [List.find?_range'_eq_some] at h
  obtain ⟨a, b, c⟩ := h
  simp at a b
  refine ⟨by omega, by omega, a, fun j h1 h2 => ?_⟩
  have := c j h1 h2
  have := bt_le zs j
  simp at *
  omega

end Go.Proofs.YtlcaboddkcpgaaaDoor

/- The laws' helpers reads, finds, starts, code, Pick, and awake. -/
namespace Go.Proofs.YtlcaboddkcpgaaaDoor
open Go.RowKit Go.Shelf
set_option linter.unusedVariables false

def readN (zs : List UInt8) (i n : Int) : Int :=
  if i < 0 ∨ n < 0 ∨ 32 < n then 0 else if max 0 (zs.length * 8 - i) < n then 0 else num zs i.toNat n.toNat
def readE (zs : List UInt8) (i n : Int) : Int :=
  if i < 0 ∨ n < 0 ∨ 32 < n then 3 else if max 0 (zs.length * 8 - i) < n then 5 else 0
theorem readV_eq (zs : List UInt8) (i n : Int) : readV zs i n = .tuple #[.int .i64 (readN zs i n), .int .i64 (readE zs i n)] := by
  unfold readV readN readE
  by_cases h1 : i < 0 ∨ n < 0 ∨ 32 < n
  · simp only [if_pos h1]
  · by_cases h2 : max 0 ((zs.length : Int) * 8 - i) < n
    · simp only [if_neg h1, if_pos h2]
    · simp only [if_neg h1, if_neg h2]
theorem read_two {n₀ : Nat} {w : World} {sv : Value} {zs : List UInt8} (hB : Byt n₀ w sv zs) (i n : Int) (h1 : i ≤ 9223372036854775807) :
    Calls Tryd.prog 29 #[sv, .int .i64 i, .int .i64 n] w fun e w' => e = .returned (.tuple #[.int .i64 (readN zs i n), .int .i64 (readE zs i n)]) ∧ w = w' := by
  rw [← readV_eq]; exact read_any hB i n h1

def findN (zs : List UInt8) (i : Int) : Int := if i < 0 then 0 else ((fnd zs i.toNat).getD 0 : Nat)
def findE (zs : List UInt8) (i : Int) : Int := if i < 0 then 3 else if (fnd zs i.toNat).isSome then 0 else 5
theorem findV_eq (zs : List UInt8) (i : Int) : findV zs i = .tuple #[.int .i64 (findN zs i), .int .i64 (findE zs i)] := by
  unfold findV findN findE
  by_cases h1 : i < 0
  · simp only [if_pos h1]
  · simp only [if_neg h1]; cases fnd zs i.toNat <;> simp
/-- the number, the bits and the error of Start -/
def startT (zs : List UInt8) (i : Int) : Int × Int × Int :=
  if i < 0 then (0, 0, 3) else match one zs i.toNat with
  | none => (0, 0, 5)
  | some y => if y < i.toNat + 15 then (0, 0, 7) else if zs.length * 8 < y + 5 then (0, 0, 5) else ((num zs (y + 1) 4 : Nat), (y + 5 - i.toNat : Nat), 0)
theorem startV_eq (zs : List UInt8) (i : Int) : startV zs i = .tuple #[.int .i64 (startT zs i).1, .int .i64 (startT zs i).2.1, .int .i64 (startT zs i).2.2] := by
  unfold startV startT
  by_cases h1 : i < 0
  · simp only [if_pos h1]
  · simp only [if_neg h1]
    cases one zs i.toNat with
    | none => rfl
    | some y =>
      simp only
      by_cases h2 : y < i.toNat + 15
      · simp only [if_pos h2]
      · by_cases h3 : zs.length * 8 < y + 5
        · simp only [if_neg h2, if_pos h3]
        · simp only [if_neg h2, if_neg h3]
theorem ret_bool {a b : Bool} (h : a = b) : Ending.returned (.bool a) = .returned (.bool b) := by rw [h]

/-- bytes in a block that was just laid -/
theorem byt_new (w : World) (zs : List UInt8) (cs : Array Value) (cap : Nat) (h : cs = (zs.map fun z => Value.int .u8 z.toNat).toArray) (hl : zs.length ≤ 1152921504606846975) (n₀ : Nat) (hn : w.heap.size < n₀) (t : TypeId) :
    Byt n₀ (w.alloc (.cells cs t)) (.slice (some ⟨w.heap.size, 0, none⟩) zs.length cap) zs := by
  refine ⟨_, _, rfl, hl, .inr ⟨_, _, rfl, hn, fun j hj => ?_⟩⟩
  subst h
  simp [hj, go_sem]

theorem below_chain {B : Nat} {a b c : World} (h : Below B a b) (hB : B ≤ a.heap.size) (k : Below b.heap.size b c) : Below B a c := h.trans (k.mono (by have := h.size; omega))

theorem one_cell {w : World} {b : Nat} {v : Value} {t : TypeId} (h : w.heap[b]? = some (.cells #[v] t (0, 0))) : w.cell? ⟨b, 0, none⟩ = some v ∧ w.frozen? ⟨b, 0, none⟩ = false :=
  ⟨by rw [Lib.cell_of_heap h]; rfl, Lib.frozen_of_heap h 0⟩
theorem heap_new {w : World} (m : Nat) (h : w.heap.size = m) (o : Obj) : (w.alloc o).heap[m]? = some o := by rw [← h]; exact World.alloc_heap_new w o
theorem heap_keep {w : World} {k : Nat} {o : Obj} (h : w.heap[k]? = some o) (o' : Obj) : (w.alloc o').heap[k]? = some o := (Below.heap_alloc _ _ _ (Array.getElem?_eq_some_iff.1 h).1).trans h

end Go.Proofs.YtlcaboddkcpgaaaDoor
