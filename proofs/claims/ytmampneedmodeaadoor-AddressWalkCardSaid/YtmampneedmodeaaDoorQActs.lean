/- Acts of a queue as the laws take them: how they lie in memory; the contract of Long. -/
import Derived.Test.YtmampneedmodeaaDoorQNew
import Derived.Deep.Slices
import Derived.Deep.Fields
import Derived.ChangeSame
import Derived.Lib.SmallJoins
namespace Go.Proofs.YtmampneedmodeaaDoor
open Go.RowKit Go.Shelf
set_option linter.unusedVariables false

structure QAct where
  kind : Int
  n : Int
  a : Option Addr
  len : Nat
  cap : Nat
  zs : List UInt8
def QAct.cell (x : QAct) : Nat → Value
  | 0 => .int .i64 x.kind
  | 1 => .int .i64 x.n
  | _ => .slice x.a x.len x.cap
instance : Inhabited QAct := ⟨⟨0, 0, none, 0, 0, []⟩⟩
/-- an act as it may be: what an int holds, what a slice holds -/
def QAct.ok (x : QAct) (n₀ : Nat) (w : World) : Prop := (-9223372036854775808 ≤ x.kind ∧ x.kind ≤ 9223372036854775807) ∧ (-9223372036854775808 ≤ x.n ∧ x.n ≤ 9223372036854775807) ∧ Row8 n₀ w x.a x.len x.cap x.zs

/-- the slice value sv holds the acts xs, in a block below n₀ -/
def IsQActs (n₀ : Nat) (w : World) (sv : Value) (xs : List QAct) : Prop :=
  ∃ a cap, sv = .slice a xs.length cap ∧ xs.length ≤ 9223372036854775807 ∧ (∀ x ∈ xs, x.ok n₀ w) ∧
    (xs = [] ∨ ∃ b off, a = some ⟨b, off, none⟩ ∧ b < n₀ ∧ ∀ i, i < xs.length → ∀ j, j < 3 → w.cell? ⟨b, off + i * 3 + j, none⟩ = some ((xs[i]?.getD default).cell j))
theorem QAct.ok.below {x : QAct} {n₀ : Nat} {A B : World} (h : x.ok n₀ A) (hb : Below n₀ A B) : x.ok n₀ B := ⟨h.1, h.2.1, h.2.2.later hb⟩
theorem IsQActs.below {n₀ : Nat} {A B : World} (h : Below n₀ A B) {sv : Value} {xs : List QAct} : IsQActs n₀ A sv xs → IsQActs n₀ B sv xs
  | ⟨a, cap, e, hl, ho, .inl z⟩ => ⟨a, cap, e, hl, fun x hx => (ho x hx).below h, .inl z⟩
  | ⟨a, cap, e, hl, ho, .inr ⟨b, off, ea, hb, hc⟩⟩ => ⟨a, cap, e, hl, fun x hx => (ho x hx).below h, .inr ⟨b, off, ea, hb, fun i hi j hj => (h.cell (p := ⟨b, off + i * 3 + j, none⟩) hb).trans (hc i hi j hj)⟩⟩

/-- more than the laws go through? -/
def qlongB (xs : List QAct) : Bool := (xs.take 61).any (fun x => decide (100 < x.len)) || decide (60 < xs.length)

theorem qany_take_false {xs : List QAct} {i : Nat} (h : (xs.take i).any (fun x => decide (100 < x.len)) = false) (hi : i < xs.length) :
    (xs.take (i + 1)).any (fun x => decide (100 < x.len)) = decide (100 < (xs[i]?.getD default).len) := by
  rw [List.take_add_one, List.any_append, h, Bool.false_or, List.getElem?_eq_getElem hi]
  simp
theorem qany_take_mono {xs : List QAct} {i j : Nat} (h : (xs.take i).any (fun x => decide (100 < x.len)) = true) (hij : i ≤ j) : (xs.take j).any (fun x => decide (100 < x.len)) = true := by
  rw [List.any_eq_true] at h ⊢
  obtain ⟨x, hx, hp⟩ := h
  exact ⟨x, (List.take_subset_take_left xs hij) hx, hp⟩
theorem qlong_false {xs : List QAct} (h : qlongB xs = false) : xs.length ≤ 60 ∧ ∀ x ∈ xs, x.len ≤ 100 := by
  simp only [qlongB, Bool.or_eq_false_iff, decide_eq_false_iff_not] at h
  refine ⟨by omega, fun x hx => ?_⟩
  have h1 := h.1
  rw [List.take_of_length_le (by omega), List.any_eq_false] at h1
  simpa using h1 x hx

end Go.Proofs.YtmampneedmodeaaDoor
