/- Queues: what a queue in memory is; contracts of queue.New, made, known, Left, Free, Came, Gone, Ended, End, Skip. -/
import Derived.Test.YtmampneedmodeaaDoorQSizes
namespace Go.Proofs.YtmampneedmodeaaDoor
open Go.RowKit Go.Shelf
set_option linter.unusedVariables false

/-- a queue: its room, all bytes that ever came, how many bits were read, whether it is ended -/
structure Qs where
  most : Nat
  all : List UInt8
  gone : Nat
  ended : Bool
structure Qs.ok (q : Qs) : Prop where
  m1 : 1 ≤ q.most
  m2 : q.most ≤ 1048576
  len : q.all.length ≤ 1099511627776
  gone : q.gone ≤ 8 * q.all.length
  held : q.all.length - q.gone / 8 ≤ q.most
/-- the ring holds what is there, each byte at its place, counted round -/
def Ringed (ring : List UInt8) (q : Qs) : Prop := ring.length = q.most ∧ ∀ j, q.gone / 8 ≤ j → j < q.all.length → ring.getD (j % q.most) 0 = q.all.getD j 0
def newQ (m : Nat) : Qs := ⟨m, [], 0, false⟩

theorem row_block {w : World} {base g n : Nat} {e : TypeId} {xs : List Value} (h : w.ownsRow base e 1 (.slice (some ⟨g, 0, none⟩) n n) n xs) : w.heap[g]? = some (.cells xs.toArray e (0, 0)) := by
  rcases h.2 with ⟨h0, _⟩ | ⟨g', cap, cur, e1, _, hg, _, _, hs, ht⟩
  · simp at h0
  · simp at e1
    obtain ⟨rfl, rfl⟩ := e1
    rw [List.take_of_length_le (by simp; omega)] at ht
    rw [hg, ← ht]
theorem made_u8 (m : Nat) : (madeCells #[Value.int .u8 0] m).toList = u8s (List.replicate m 0) := by
  rw [toList_madeCells_one]; simp [u8s]
theorem newQ_ok {m : Nat} (h1 : 1 ≤ m) (h2 : m ≤ 1048576) : (newQ m).ok := ⟨h1, h2, by simp [newQ], by simp [newQ], by simp [newQ]⟩
theorem newQ_ring (m : Nat) : Ringed (List.replicate m 0) (newQ m) := ⟨by simp [newQ], fun j _ h => by simp [newQ] at h⟩

/-! ### what turns a queue -/
def endE (q : Qs) : Int := if q.ended then 20 else 0
def skipE (q : Qs) (n : Int) : Int := if n < 0 ∨ ((8 * q.all.length - q.gone : Nat) : Int) < n then 3 else 0
def skipQ (q : Qs) (n : Int) : Qs := if n < 0 ∨ ((8 * q.all.length - q.gone : Nat) : Int) < n then q else { q with gone := q.gone + n.toNat }
end Go.Proofs.YtmampneedmodeaaDoor
