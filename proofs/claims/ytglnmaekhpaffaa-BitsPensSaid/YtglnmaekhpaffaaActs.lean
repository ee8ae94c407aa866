/- Acts of a pen as the laws take them: how they lie in memory; the contract of Long. -/
import Derived.Test.YtglnmaekhpaffaaRow
import Derived.Test.YtglnmaekhpaffaaAwake
import Derived.Deep.Slices
import Derived.Deep.Fields
import Derived.ChangeSame
import Derived.Lib.SmallJoins
namespace Go.Proofs.Ytglnmaekhpaffaa
open Go.RowKit
set_option linter.unusedVariables false

structure Act4 where
  c : Bool
  n : Int
  k : Int
  s : ByteArray
/-- an act as it may be: what an int holds, what a string holds -/
def Act4.ok (x : Act4) : Prop := x.n ≤ 9223372036854775807 ∧ x.s.size ≤ 9223372036854775807
def Act4.cell (x : Act4) : Nat → Value
  | 0 => .bool x.c
  | 1 => .int .i64 x.n
  | 2 => .int .i64 x.k
  | _ => .string x.s
instance : Inhabited Act4 := ⟨⟨false, 0, 0, ByteArray.empty⟩⟩

/-- the slice value sv holds the acts xs, in a block below n₀ -/
def IsActs (n₀ : Nat) (w : World) (sv : Value) (xs : List Act4) : Prop :=
  ∃ a cap, sv = .slice a xs.length cap ∧ xs.length ≤ 9223372036854775807 ∧ (∀ x ∈ xs, x.ok) ∧
    (xs = [] ∨ ∃ b off, a = some ⟨b, off, none⟩ ∧ b < n₀ ∧ ∀ i, i < xs.length → ∀ j, j < 4 → w.cell? ⟨b, off + i * 4 + j, none⟩ = some ((xs[i]?.getD default).cell j))
theorem IsActs.below {n₀ : Nat} {A B : World} (h : Below n₀ A B) {sv : Value} {xs : List Act4} : IsActs n₀ A sv xs → IsActs n₀ B sv xs
  | ⟨a, cap, e, hl, ho, .inl z⟩ => ⟨a, cap, e, hl, ho, .inl z⟩
  | ⟨a, cap, e, hl, ho, .inr ⟨b, off, ea, hb, hc⟩⟩ => ⟨a, cap, e, hl, ho, .inr ⟨b, off, ea, hb, fun i hi j hj => (h.cell (p := ⟨b, off + i * 4 + j, none⟩) hb).trans (hc i hi j hj)⟩⟩
theorem IsActs.later {w W : World} {sv : Value} {xs : List Act4} (h : IsActs w.heap.size w sv xs) (hb : Below w.heap.size w W) : IsActs W.heap.size W sv xs := by
  obtain ⟨a, cap, e, hl, ho, hz⟩ := h.below hb
  refine ⟨a, cap, e, hl, ho, hz.imp id fun ⟨b, off, ea, hlt, hc⟩ => ⟨b, off, ea, ?_, hc⟩⟩
  have := hb.size
  omega

/-- more than the laws go through? -/
def longB (xs : List Act4) : Bool := (xs.take 61).any (fun x => decide (100 < x.s.size)) || decide (60 < xs.length)

theorem any_take_false {xs : List Act4} {i : Nat} (h : (xs.take i).any (fun x => decide (100 < x.s.size)) = false) (hi : i < xs.length) :
    (xs.take (i + 1)).any (fun x => decide (100 < x.s.size)) = decide (100 < (xs[i]?.getD default).s.size) := by
  rw [List.take_add_one, List.any_append, h, Bool.false_or, List.getElem?_eq_getElem hi]
  simp
theorem any_take_mono {xs : List Act4} {i j : Nat} (h : (xs.take i).any (fun x => decide (100 < x.s.size)) = true) (hij : i ≤ j) : (xs.take j).any (fun x => decide (100 < x.s.size)) = true := by
  rw [List.any_eq_true] at h ⊢
  obtain ⟨x, hx, hp⟩ := h
  exact ⟨x, (List.take_subset_take_left xs hij) hx, hp⟩

set_option maxHeartbeats 1000000 in
theorem long_any {n₀ : Nat} {w : World} {sv : Value} {xs : List Act4} (h : IsActs n₀ w sv xs) :
    Calls Try.prog 9 #[sv] w fun e w' => e = .returned (.bool (longB xs)) ∧ w = w' := by
  obtain ⟨a, cap, rfl, hl, ho, hz⟩ := h
  have HZ := Lib.hid hz
  have HO := Lib.hid ho
  clear hz ho
  go_enter Try.func9, Try.ntmps9
  go_wp2
  go_loop [3] (fun i => ∃ k : Nat, k ≤ xs.length ∧ k ≤ 61 ∧ i = .int .i64 k ∧ (xs.take k).any (fun x => decide (100 < x.s.size)) = false) (fun i => 61 - (intOf i).toNat)
  case atStart => exact ⟨0, by omega, by omega, rfl, rfl⟩
  case round =>
    obtain ⟨k, hk1, hk2, rfl, hany⟩ := hrel
    have HA := Lib.hid hany
    clear hany
    by_cases hlt : k < xs.length ∧ k < 61
    · obtain ⟨h1, h2⟩ := hlt
      rcases HZ.out with e | ⟨b, off, rfl, _, hc⟩
      · rw [e] at h1; simp at h1
      · have hcell := hc k h1 3 (by omega)
        simp only [Act4.cell] at hcell
        have hok := (HO.out (xs[k]?.getD default) (by rw [List.getElem?_eq_getElem h1]; exact List.getElem_mem _)).2
        have HN := Lib.hid (any_take_false HA.out h1)
        have hd1 : decide (k < xs.length) = true := by simpa using h1
        clear hc
        generalize (xs[k]?.getD default).s = s at *
        by_cases hs : 100 < s.size
        · go_wp2
          go_ret
          refine ⟨ret_bool ?_, rfl⟩
          unfold longB
          rw [any_take_mono (i := k + 1) (j := 61) (by rw [HN.out]; simpa using hs) (by omega)]
          rfl
        · go_wp2
          go_round
          case rel => exact ⟨k + 1, by omega, by omega, by go_num, by rw [HN.out]; simpa using hs⟩
          case measure => simp [intOf]; omega
    · by_cases h1 : k < xs.length
      · have h61 : 61 ≤ k := by omega
        have hd1 : decide (k < xs.length) = true := by simpa using h1
        have hd2 : decide ((k : Int) < 61) = false := by simp; omega
        have E : Hid ((xs.take 61).any (fun x => decide (100 < x.s.size)) = false) := by
          have e : k = 61 := by omega
          have := HA.out
          rw [e] at this; exact this
        go_wp2
        go_ret
        refine ⟨ret_bool ?_, rfl⟩
        unfold longB
        rw [E.out, Bool.false_or]
        exact decide_eq_decide.2 (by omega)
      · have e61 : (xs.take 61).any (fun x => decide (100 < x.s.size)) = false := by
          have := HA.out
          rw [List.take_of_length_le (by omega)] at this
          rw [List.take_of_length_le (by omega)]; exact this
        have E := Lib.hid e61
        clear e61
        go_wp2
        go_ret
        refine ⟨ret_bool ?_, rfl⟩
        unfold longB
        rw [E.out, Bool.false_or]
        exact decide_eq_decide.2 (by omega)

end Go.Proofs.Ytglnmaekhpaffaa
