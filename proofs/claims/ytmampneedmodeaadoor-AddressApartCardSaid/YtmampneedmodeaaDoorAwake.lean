/- The laws' helpers reads, finds, starts, code, Pick, and awake. -/
import Derived.Test.YtmampneedmodeaaDoorStart
namespace Go.Proofs.YtmampneedmodeaaDoor
open Go.RowKit Go.Shelf
set_option linter.unusedVariables false

def readN (zs : List UInt8) (i n : Int) : Int :=
  if i < 0 ∨ n < 0 ∨ 32 < n then 0 else if max 0 (zs.length * 8 - i) < n then 0 else num zs i.toNat n.toNat
def readE (zs : List UInt8) (i n : Int) : Int :=
  if i < 0 ∨ n < 0 ∨ 32 < n then 3 else if max 0 (zs.length * 8 - i) < n then 5 else 0
theorem readV_eq (zs : List UInt8) (i n : Int) : readV zs i n = .tuple #[.int .i64 (readN zs i n), .int .i64 (readE zs i n)] := by
  unfold readV readN readE
  by_cases h1 : i < 0 ∨ n < 0 ∨ 32 < n
  · simp only [if_pos h1]
  · by_cases h2 : max 0 ((zs.length : Int) * 8 - i) < n
    · simp only [if_neg h1, if_pos h2]
    · simp only [if_neg h1, if_neg h2]
theorem read_two {n₀ : Nat} {w : World} {sv : Value} {zs : List UInt8} (hB : Byt n₀ w sv zs) (i n : Int) (h1 : i ≤ 9223372036854775807) :
    Calls Tryd.prog 26 #[sv, .int .i64 i, .int .i64 n] w fun e w' => e = .returned (.tuple #[.int .i64 (readN zs i n), .int .i64 (readE zs i n)]) ∧ w = w' := by
  rw [← readV_eq]; exact read_any hB i n h1

def findN (zs : List UInt8) (i : Int) : Int := if i < 0 then 0 else ((fnd zs i.toNat).getD 0 : Nat)
def findE (zs : List UInt8) (i : Int) : Int := if i < 0 then 3 else if (fnd zs i.toNat).isSome then 0 else 5
theorem findV_eq (zs : List UInt8) (i : Int) : findV zs i = .tuple #[.int .i64 (findN zs i), .int .i64 (findE zs i)] := by
  unfold findV findN findE
  by_cases h1 : i < 0
  · simp only [if_pos h1]
  · simp only [if_neg h1]; cases fnd zs i.toNat <;> simp
/-- the number, the bits and the error of Start -/
def startT (zs : List UInt8) (i : Int) : Int × Int × Int :=
  if i < 0 then (0, 0, 3) else match one zs i.toNat with
  | none => (0, 0, 5)
  | some y => if y < i.toNat + 15 then (0, 0, 7) else if zs.length * 8 < y + 5 then (0, 0, 5) else ((num zs (y + 1) 4 : Nat), (y + 5 - i.toNat : Nat), 0)
theorem startV_eq (zs : List UInt8) (i : Int) : startV zs i = .tuple #[.int .i64 (startT zs i).1, .int .i64 (startT zs i).2.1, .int .i64 (startT zs i).2.2] := by
  unfold startV startT
  by_cases h1 : i < 0
  · simp only [if_pos h1]
  · simp only [if_neg h1]
    cases one zs i.toNat with
    | none => rfl
    | some y =>
      simp only
      by_cases h2 : y < i.toNat + 15
      · simp only [if_pos h2]
      · by_cases h3 : zs.length * 8 < y + 5
        · simp only [if_neg h2, if_pos h3]
        · simp only [if_neg h2, if_neg h3]
theorem ret_bool {a b : Bool} (h : a = b) : Ending.returned (.bool a) = .returned (.bool b) := by rw [h]

/-- bytes in a block that was just laid -/
theorem byt_new (w : World) (zs : List UInt8) (cs : Array Value) (cap : Nat) (h : cs = (zs.map fun z => Value.int .u8 z.toNat).toArray) (hl : zs.length ≤ 1152921504606846975) (n₀ : Nat) (hn : w.heap.size < n₀) (t : TypeId) :
    Byt n₀ (w.alloc (.cells cs t)) (.slice (some ⟨w.heap.size, 0, none⟩) zs.length cap) zs := by
  refine ⟨_, _, rfl, hl, .inr ⟨_, _, rfl, hn, fun j hj => ?_⟩⟩
  subst h
  simp [hj, go_sem]

theorem below_chain {B : Nat} {a b c : World} (h : Below B a b) (hB : B ≤ a.heap.size) (k : Below b.heap.size b c) : Below B a c := h.trans (k.mono (by have := h.size; omega))

end Go.Proofs.YtmampneedmodeaaDoor
