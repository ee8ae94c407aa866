/- paint, plainly: how many bytes differ when samples were laid, a macroblock copied. -/
import Derived.Test.YtenplmmongphoaaTCopy
namespace Go.Proofs.Ytenplmmongphoaa
open Go.RowKit Go.Shelf Go.Sort
set_option linter.unusedVariables false

/-- at how many of the first n places two pictures differ -/
def difN (zs ys : List UInt8) : Nat → Nat
  | 0 => 0
  | n + 1 => difN zs ys n + if ys[n]?.getD 0 = zs[n]?.getD 0 then 0 else 1
theorem difN_le (zs ys : List UInt8) (n : Nat) : difN zs ys n ≤ n := by
  induction n with
  | zero => exact Nat.le_refl _
  | succ n ih =>
    show difN zs ys n + (if ys[n]?.getD 0 = zs[n]?.getD 0 then 0 else 1) ≤ n + 1
    split <;> omega
theorem difN_self (zs : List UInt8) (n : Nat) : difN zs zs n = 0 := by
  induction n with
  | zero => rfl
  | succ n ih =>
    show difN zs zs n + (if zs[n]?.getD 0 = zs[n]?.getD 0 then 0 else 1) = 0
    rw [if_pos rfl, ih]
theorem difN_set (zs ys : List UInt8) (p : Nat) (v : UInt8) (n : Nat) : (n ≤ p → difN zs (ys.set p v) n = difN zs ys n) ∧ difN zs (ys.set p v) n ≤ difN zs ys n + 1 := by
  induction n with
  | zero => exact ⟨fun _ => rfl, Nat.zero_le _⟩
  | succ n ih =>
    obtain ⟨h1, h2⟩ := ih
    show (_ → difN zs (ys.set p v) n + (if (ys.set p v)[n]?.getD 0 = zs[n]?.getD 0 then 0 else 1) = difN zs ys n + (if ys[n]?.getD 0 = zs[n]?.getD 0 then 0 else 1)) ∧ difN zs (ys.set p v) n + (if (ys.set p v)[n]?.getD 0 = zs[n]?.getD 0 then 0 else 1) ≤ difN zs ys n + (if ys[n]?.getD 0 = zs[n]?.getD 0 then 0 else 1) + 1
    by_cases e : p = n
    · subst e
      refine ⟨fun h => by omega, ?_⟩
      rw [h1 (Nat.le_refl _)]
      split <;> split <;> omega
    · rw [List.getElem?_set, if_neg e]
      exact ⟨fun h => by rw [h1 (by omega)], by omega⟩
theorem difN_put (zs ys : List UInt8) (P : Nat → Nat) (V : Nat → UInt8) (m n : Nat) : difN zs (putT P V ys m) n ≤ difN zs ys n + m := by
  induction m with
  | zero => exact Nat.le_refl _
  | succ m ih =>
    have := (difN_set zs (putT P V ys m) (P m) (V m) n).2
    show difN zs ((putT P V ys m).set (P m) (V m)) n ≤ _
    omega
theorem difN_cp (f g a : Int) (zs fs : List UInt8) (B n : Nat) : difN zs (cpN f g a zs fs B) n ≤ 64 * B := by
  induction B with
  | zero => rw [show cpN f g a zs fs 0 = zs from rfl, difN_self]; omega
  | succ B ih =>
    have := difN_put zs (cpN f g a zs fs B) (psT f g a ((B : Int) + 1)) (fun k => fs[psT f g a ((B : Int) + 1) k]?.getD 0) 64 n
    show difN zs (putT _ _ (cpN f g a zs fs B) 64) n ≤ _
    omega

theorem putT_congr {P : Nat → Nat} {V V' : Nat → UInt8} {zs : List UInt8} {n : Nat} (h : ∀ k, k < n → V k = V' k) : putT P V zs n = putT P V' zs n := by
  induction n with
  | zero => rfl
  | succ n ih =>
    show (putT P V zs n).set (P n) (V n) = (putT P V' zs n).set (P n) (V' n)
    rw [ih (fun k hk => h k (by omega)), h n (by omega)]

/-- how a picture is when one block of another one was laid into it, and the macroblock copied behind it -/
theorem only_facts {F G A : Int} (h : cE F G A = 0) {i : Nat} (hi : i < 6) {zs fs : List UInt8} (hz : (zs.length : Int) = sN F) (hf : (fs.length : Int) = sN F) {ss Z1 Z2 : List UInt8}
    (hss : ss = (List.range 64).map fun k => fs[psT F G A ((i : Int) + 1) k]?.getD 0) (h1 : lyL F G A ((i : Int) + 1) zs ss = Z1) (h2 : cpL F G A Z1 fs = Z2) :
    (lyE F G A ((i : Int) + 1) zs.length ss.length = 0 ∧ cpE F G A Z1.length fs.length = 0) ∧ (Z1.length = zs.length ∧ Z2.length = zs.length) ∧
    (∀ n, difN zs Z1 n ≤ 64 ∧ difN zs Z2 n ≤ 384) ∧ (∀ x : Nat, Z1[x]?.getD 0 ≠ zs[x]?.getD 0 → Z1[x]?.getD 0 = fs[x]?.getD 0) ∧ (∀ x : Nat, Z2[x]?.getD 0 ≠ zs[x]?.getD 0 → Z2[x]?.getD 0 = fs[x]?.getD 0) ∧
    ∀ j : Nat, j < 6 → mL F G A ((j : Int) + 1) 0 0 Z2 = mL F G A ((j : Int) + 1) 0 0 fs := by
  have hsl : ss.length = 64 := by rw [hss, List.length_map, List.length_range]
  have hE := (laid_back (zs := zs) (ss := ss) h hi hz hsl).1
  have hP : ∀ k : Nat, k < 64 → psT F G A ((i : Int) + 1) k < zs.length := fun k hk => psT_lt h hi hk hz
  have hP6 : ∀ j k : Nat, j < 6 → k < 64 → psT F G A ((j : Int) + 1) k < zs.length := fun j k hj hk => psT_lt h hj hk hz
  have e1 : Z1 = putT (psT F G A ((i : Int) + 1)) (fun k => fs[psT F G A ((i : Int) + 1) k]?.getD 0) zs 64 := by
    rw [← h1, show lyL F G A ((i : Int) + 1) zs ss = putT (psT F G A ((i : Int) + 1)) (fun k => ss[k]?.getD 0) zs 64 from if_pos hE]
    exact putT_congr (fun k hk => by rw [hss, List.getElem?_map, List.getElem?_range hk]; rfl)
  have l1 : Z1.length = zs.length := by rw [e1]; exact putT_length _ _ _ _
  have hC : cpE F G A Z1.length fs.length = 0 := by unfold cpE; rw [if_pos h, if_pos ⟨by rw [l1]; exact hz, hf⟩]
  have e2 : Z2 = cpN F G A Z1 fs 6 := by rw [← h2]; exact if_pos hC
  have l2 : Z2.length = zs.length := by rw [e2, cpN_length]; exact l1
  have pz1 := fun x : Nat => putT_same (P := psT F G A ((i : Int) + 1)) (U := fun y : Nat => fs[y]?.getD 0) (zs := zs) (n := 64) hP x
  rw [← e1] at pz1
  have pz2 := fun x : Nat => cpN_at (f := F) (g := G) (a := A) (zs := Z1) (fs := fs) (B := 6) (fun j k hj hk => by rw [l1]; exact hP6 j k hj hk) x
  rw [← e2] at pz2
  have pz3 := fun x : Nat => cpN_at (f := F) (g := G) (a := A) (zs := zs) (fs := fs) (B := 6) hP6 x
  have e3 : Z2 = cpN F G A zs fs 6 := by
    refine listB_ext (n := zs.length) l2 (cpN_length _ _ _ _ _ _) (fun x hx => ?_)
    have hv : Z2[x]?.getD 0 = (cpN F G A zs fs 6)[x]?.getD 0 := by
      by_cases he : ∃ j k : Nat, j < 6 ∧ k < 64 ∧ psT F G A ((j : Int) + 1) k = x
      · rw [(pz2 x).1 he, (pz3 x).1 he]
      · have hn : ∀ j k : Nat, j < 6 → k < 64 → psT F G A ((j : Int) + 1) k ≠ x := fun j k hj hk e => he ⟨j, k, hj, hk, e⟩
        rw [(pz2 x).2 hn, (pz3 x).2 hn]
        exact (pz1 x).2 (fun k hk => hn i k hi hk)
    have la : x < Z2.length := by omega
    have lb : x < (cpN F G A zs fs 6).length := by rw [cpN_length]; exact hx
    rw [List.getElem?_eq_getElem la, List.getElem?_eq_getElem lb] at hv ⊢
    simpa using hv
  refine ⟨⟨hE, hC⟩, ⟨l1, l2⟩, fun n => ⟨?_, ?_⟩, fun x hx => ?_, fun x hx => ?_, fun j hj => ?_⟩
  · rw [e1]
    have := difN_put zs zs (psT F G A ((i : Int) + 1)) (fun k => fs[psT F G A ((i : Int) + 1) k]?.getD 0) 64 n
    rw [difN_self] at this
    omega
  · rw [e3]
    exact difN_cp F G A zs fs 6 n
  · by_cases he : ∃ k, k < 64 ∧ psT F G A ((i : Int) + 1) k = x
    · exact (pz1 x).1 he
    · exact absurd ((pz1 x).2 (fun k hk e => he ⟨k, hk, e⟩)) hx
  · by_cases he : ∃ j k : Nat, j < 6 ∧ k < 64 ∧ psT F G A ((j : Int) + 1) k = x
    · exact (pz2 x).1 he
    · refine absurd ?_ hx
      rw [e3]
      exact (pz3 x).2 (fun j k hj hk e => he ⟨j, k, hj, hk, e⟩)
  · rw [(mL_own h hj (zs := Z2) (by rw [l2]; exact hz)).2, (mL_own h hj (zs := fs) hf).2]
    apply List.map_congr_left
    intro k hk
    exact (pz2 _).1 ⟨j, k, hj, List.mem_range.1 hk, rfl⟩

end Go.Proofs.Ytenplmmongphoaa
