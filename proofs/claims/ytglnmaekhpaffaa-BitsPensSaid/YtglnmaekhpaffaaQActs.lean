/- Acts of a queue as the laws take them: how they lie in memory; the contract of Long. -/
import Derived.Test.YtglnmaekhpaffaaQNew
import Derived.Deep.Slices
import Derived.Deep.Fields
import Derived.ChangeSame
import Derived.Lib.SmallJoins
namespace Go.Proofs.Ytglnmaekhpaffaa
open Go.RowKit Go.Shelf
set_option linter.unusedVariables false

structure QAct where
  kind : Int
  n : Int
  a : Option Addr
  len : Nat
  cap : Nat
  zs : List UInt8
def QAct.cell (x : QAct) : Nat → Value
  | 0 => .int .i64 x.kind
  | 1 => .int .i64 x.n
  | _ => .slice x.a x.len x.cap
instance : Inhabited QAct := ⟨⟨0, 0, none, 0, 0, []⟩⟩
/-- an act as it may be: what an int holds, what a slice holds -/
def QAct.ok (x : QAct) (n₀ : Nat) (w : World) : Prop := (-9223372036854775808 ≤ x.kind ∧ x.kind ≤ 9223372036854775807) ∧ (-9223372036854775808 ≤ x.n ∧ x.n ≤ 9223372036854775807) ∧ Row8 n₀ w x.a x.len x.cap x.zs

/-- the slice value sv holds the acts xs, in a block below n₀ -/
def IsQActs (n₀ : Nat) (w : World) (sv : Value) (xs : List QAct) : Prop :=
  ∃ a cap, sv = .slice a xs.length cap ∧ xs.length ≤ 9223372036854775807 ∧ (∀ x ∈ xs, x.ok n₀ w) ∧
    (xs = [] ∨ ∃ b off, a = some ⟨b, off, none⟩ ∧ b < n₀ ∧ ∀ i, i < xs.length → ∀ j, j < 3 → w.cell? ⟨b, off + i * 3 + j, none⟩ = some ((xs[i]?.getD default).cell j))
theorem QAct.ok.below {x : QAct} {n₀ : Nat} {A B : World} (h : x.ok n₀ A) (hb : Below n₀ A B) : x.ok n₀ B := ⟨h.1, h.2.1, h.2.2.later hb⟩
theorem IsQActs.below {n₀ : Nat} {A B : World} (h : Below n₀ A B) {sv : Value} {xs : List QAct} : IsQActs n₀ A sv xs → IsQActs n₀ B sv xs
  | ⟨a, cap, e, hl, ho, .inl z⟩ => ⟨a, cap, e, hl, fun x hx => (ho x hx).below h, .inl z⟩
  | ⟨a, cap, e, hl, ho, .inr ⟨b, off, ea, hb, hc⟩⟩ => ⟨a, cap, e, hl, fun x hx => (ho x hx).below h, .inr ⟨b, off, ea, hb, fun i hi j hj => (h.cell (p := ⟨b, off + i * 3 + j, none⟩) hb).trans (hc i hi j hj)⟩⟩

/-- more than the laws go through? -/
def qlongB (xs : List QAct) : Bool := (xs.take 61).any (fun x => decide (100 < x.len)) || decide (60 < xs.length)

theorem qany_take_false {xs : List QAct} {i : Nat} (h : (xs.take i).any (fun x => decide (100 < x.len)) = false) (hi : i < xs.length) :
    (xs.take (i + 1)).any (fun x => decide (100 < x.len)) = decide (100 < (xs[i]?.getD default).len) := by
  rw [List.take_add_one, List.any_append, h, Bool.false_or, List.getElem?_eq_getElem hi]
  simp
theorem qany_take_mono {xs : List QAct} {i j : Nat} (h : (xs.take i).any (fun x => decide (100 < x.len)) = true) (hij : i ≤ j) : (xs.take j).any (fun x => decide (100 < x.len)) = true := by
  rw [List.any_eq_true] at h ⊢
  obtain ⟨x, hx, hp⟩ := h
  exact ⟨x, (List.take_subset_take_left xs hij) hx, hp⟩
theorem qlong_false {xs : List QAct} (h : qlongB xs = false) : xs.length ≤ 60 ∧ ∀ x ∈ xs, x.len ≤ 100 := by
  simp only [qlongB, Bool.or_eq_false_iff, decide_eq_false_iff_not] at h
  refine ⟨by omega, fun x hx => ?_⟩
  have h1 := h.1
  rw [List.take_of_length_le (by omega), List.any_eq_false] at h1
  simpa using h1 x hx

set_option maxHeartbeats 1000000 in
theorem qlong_any {n₀ : Nat} {w : World} {sv : Value} {xs : List QAct} (h : IsQActs n₀ w sv xs) :
    Calls Try.prog 23 #[sv] w fun e w' => e = .returned (.bool (qlongB xs)) ∧ w = w' := by
  obtain ⟨a, cap, rfl, hl, ho, hz⟩ := h
  have HZ := Lib.hid hz
  have HO := Lib.hid ho
  clear hz ho
  go_enter Try.func23, Try.ntmps23
  go_wp2
  go_loop [3] (fun i => ∃ k : Nat, k ≤ xs.length ∧ k ≤ 61 ∧ i = .int .i64 k ∧ (xs.take k).any (fun x => decide (100 < x.len)) = false) (fun i => 61 - (intOf i).toNat)
  case atStart => exact ⟨0, by omega, by omega, rfl, rfl⟩
  case round =>
    obtain ⟨k, hk1, hk2, rfl, hany⟩ := hrel
    have HA := Lib.hid hany
    clear hany
    by_cases hlt : k < xs.length ∧ k < 61
    · obtain ⟨h1, h2⟩ := hlt
      rcases HZ.out with e | ⟨b, off, rfl, _, hc⟩
      · rw [e] at h1; simp at h1
      · have hcell := hc k h1 2 (by omega)
        simp only [QAct.cell] at hcell
        have hok := (HO.out (xs[k]?.getD default) (by rw [List.getElem?_eq_getElem h1]; exact List.getElem_mem _)).2
        have HN := Lib.hid (qany_take_false HA.out h1)
        have hd1 : decide (k < xs.length) = true := by simpa using h1
        clear hc
        have hok2 : (xs[k]?.getD default).len ≤ 9223372036854775807 := Nat.le_trans hok.2.2.1 hok.2.2.2.1
        clear hok
        generalize (xs[k]?.getD default).len = s at *
        by_cases hs : 100 < s
        · go_wp2
          go_ret
          refine ⟨ret_bool ?_, rfl⟩
          unfold qlongB
          rw [qany_take_mono (i := k + 1) (j := 61) (by rw [HN.out]; simpa using hs) (by omega)]
          rfl
        · go_wp2
          go_round
          case rel => exact ⟨k + 1, by omega, by omega, by go_num, by rw [HN.out]; simpa using hs⟩
          case measure => simp [intOf]; omega
    · by_cases h1 : k < xs.length
      · have h61 : 61 ≤ k := by omega
        have hd1 : decide (k < xs.length) = true := by simpa using h1
        have hd2 : decide ((k : Int) < 61) = false := by simp; omega
        have E : Hid ((xs.take 61).any (fun x => decide (100 < x.len)) = false) := by
          have e : k = 61 := by omega
          have := HA.out
          rw [e] at this; exact this
        go_wp2
        go_ret
        refine ⟨ret_bool ?_, rfl⟩
        unfold qlongB
        rw [E.out, Bool.false_or]
        exact decide_eq_decide.2 (by omega)
      · have e61 : (xs.take 61).any (fun x => decide (100 < x.len)) = false := by
          have := HA.out
          rw [List.take_of_length_le (by omega)] at this
          rw [List.take_of_length_le (by omega)]; exact this
        have E := Lib.hid e61
        clear e61
        go_wp2
        go_ret
        refine ⟨ret_bool ?_, rfl⟩
        unfold qlongB
        rw [E.out, Bool.false_or]
        exact decide_eq_decide.2 (by omega)

end Go.Proofs.Ytglnmaekhpaffaa
