/- paint, plainly: what stands where when a block was laid, a macroblock copied. -/
import Derived.Test.YtenplmmongphoaaTPlain
namespace Go.Proofs.Ytenplmmongphoaa
open Go.RowKit Go.Shelf
set_option linter.unusedVariables false

/-- what stands where, when what is laid is another picture's at the same places -/
theorem putT_same {P : Nat → Nat} {U : Nat → UInt8} {zs : List UInt8} {n : Nat} (hP : ∀ k, k < n → P k < zs.length) (x : Nat) :
    ((∃ k, k < n ∧ P k = x) → (putT P (fun k => U (P k)) zs n)[x]?.getD 0 = U x) ∧ ((∀ k, k < n → P k ≠ x) → (putT P (fun k => U (P k)) zs n)[x]?.getD 0 = zs[x]?.getD 0) := by
  induction n with
  | zero => exact ⟨fun ⟨k, hk, _⟩ => by omega, fun _ => rfl⟩
  | succ n ih =>
    obtain ⟨h1, h2⟩ := ih (fun k hk => hP k (by omega))
    have hs : (putT P (fun k => U (P k)) zs (n + 1))[x]?.getD 0 = if P n = x then U x else (putT P (fun k => U (P k)) zs n)[x]?.getD 0 := by
      show ((putT P (fun k => U (P k)) zs n).set (P n) (U (P n)))[x]?.getD 0 = _
      rw [List.getElem?_set]
      by_cases e : P n = x
      · rw [if_pos e, if_pos e, if_pos (by rw [putT_length]; exact hP n (by omega)), e]
        rfl
      · rw [if_neg e, if_neg e]
    rw [hs]
    refine ⟨fun ⟨k, hk, e⟩ => ?_, fun h => ?_⟩
    · by_cases e2 : P n = x
      · rw [if_pos e2]
      · rw [if_neg e2]
        exact h1 ⟨k, by
          by_cases e3 : k = n
          · exact absurd (by rw [← e3]; exact e) e2
          · omega, e⟩
    · rw [if_neg (h n (by omega))]
      exact h2 (fun k hk => h k (by omega))
/-- what stands where, when so many blocks were copied -/
theorem cpN_at {f g a : Int} {zs fs : List UInt8} {B : Nat} (hP : ∀ i k, i < B → k < 64 → psT f g a ((i : Int) + 1) k < zs.length) (x : Nat) :
    ((∃ i k, i < B ∧ k < 64 ∧ psT f g a ((i : Int) + 1) k = x) → (cpN f g a zs fs B)[x]?.getD 0 = fs[x]?.getD 0) ∧ ((∀ i k, i < B → k < 64 → psT f g a ((i : Int) + 1) k ≠ x) → (cpN f g a zs fs B)[x]?.getD 0 = zs[x]?.getD 0) := by
  induction B with
  | zero => exact ⟨fun ⟨i, k, hi, _⟩ => by omega, fun _ => rfl⟩
  | succ B ih =>
    obtain ⟨h1, h2⟩ := ih (fun i k hi hk => hP i k (by omega) hk)
    obtain ⟨p1, p2⟩ := putT_same (P := psT f g a ((B : Int) + 1)) (U := fun x => fs[x]?.getD 0) (zs := cpN f g a zs fs B) (n := 64) (fun k hk => by rw [cpN_length]; exact hP B k (by omega) hk) x
    show (_ → (putT (psT f g a ((B : Int) + 1)) (fun k => fs[psT f g a ((B : Int) + 1) k]?.getD 0) (cpN f g a zs fs B) 64)[x]?.getD 0 = _) ∧ (_ → (putT (psT f g a ((B : Int) + 1)) (fun k => fs[psT f g a ((B : Int) + 1) k]?.getD 0) (cpN f g a zs fs B) 64)[x]?.getD 0 = _)
    refine ⟨fun ⟨i, k, hi, hk, e⟩ => ?_, fun h => ?_⟩
    · by_cases hB : ∃ k, k < 64 ∧ psT f g a ((B : Int) + 1) k = x
      · exact p1 hB
      · rw [p2 (fun k hk e2 => hB ⟨k, hk, e2⟩)]
        refine h1 ⟨i, k, ?_, hk, e⟩
        by_cases e3 : i = B
        · subst e3
          exact absurd ⟨k, hk, e⟩ hB
        · omega
    · rw [p2 (fun k hk => h B k (by omega) hk)]
      exact h2 (fun i k hi hk => h i k (by omega) hk)

end Go.Proofs.Ytenplmmongphoaa
