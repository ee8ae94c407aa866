/- paint, plainly: numbers cut, samples and residues put together, a block's samples laid into a picture, a macroblock copied. -/
import Derived.Test.YtenplmmongphoaaLPlain
import Derived.Test.YtenplmmongphoaaMPlain
namespace Go.Proofs.Ytenplmmongphoaa
open Go.RowKit Go.Shelf
set_option linter.unusedVariables false

/-- a number, cut -/
def clT (n : Int) : Int := min (max n 0) 255
theorem clT_in (n : Int) : 0 ≤ clT n ∧ clT n ≤ 255 := by unfold clT; omega
def clB (n : Int) : UInt8 := UInt8.ofNat (clT n).toNat
theorem clB_val (n : Int) : ((clB n).toNat : Int) = clT n := by
  have := clT_in n
  unfold clB
  rw [UInt8.toNat_ofNat_of_lt' (by show _ < 256; omega)]
  omega
/-- a grey picture -/
def greyL (f : Int) : List UInt8 := List.replicate (sN f).toNat 128
/-- what Add answers -/
def adE (n : Nat) (rs : List Int) : Int := if n = 64 ∧ rs.length = 64 then (if rs.all (okNC (-1048576) 1048576) = true then 0 else 3) else 2
def adB (zs : List UInt8) (rs : List Int) (k : Nat) : UInt8 := clB (bN zs k + nthC rs k)
def adL (zs : List UInt8) (rs : List Int) : List UInt8 := if adE zs.length rs = 0 then (List.range 64).map (adB zs rs) else []
theorem adL_length (zs : List UInt8) (rs : List Int) : (adL zs rs).length = if adE zs.length rs = 0 then 64 else 0 := by unfold adL; split <;> simp
theorem adE_cases (n : Nat) (rs : List Int) : (¬ (n = 64 ∧ rs.length = 64) ∧ adE n rs = 2) ∨ (n = 64 ∧ rs.length = 64 ∧ rs.all (okNC (-1048576) 1048576) = false ∧ adE n rs = 3) ∨ (n = 64 ∧ rs.length = 64 ∧ rs.all (okNC (-1048576) 1048576) = true ∧ adE n rs = 0) := by
  unfold adE
  by_cases h : n = 64 ∧ rs.length = 64
  · rw [if_pos h]
    cases h2 : rs.all (okNC (-1048576) 1048576) with
    | true => exact .inr (.inr ⟨h.1, h.2, rfl, if_pos rfl⟩)
    | false => exact .inr (.inl ⟨h.1, h.2, rfl, if_neg (fun e => by cases e)⟩)
  · rw [if_neg h]
    exact .inl ⟨h, rfl⟩

/-- where the k-th sample of a block stands -/
def psT (f g a b : Int) (k : Nat) : Nat := (mN f g a b 0 0 k).toNat
/-- so many samples laid -/
def putT (P : Nat → Nat) (V : Nat → UInt8) (zs : List UInt8) : Nat → List UInt8
  | 0 => zs
  | n + 1 => (putT P V zs n).set (P n) (V n)
theorem putT_length (P : Nat → Nat) (V : Nat → UInt8) (zs : List UInt8) (n : Nat) : (putT P V zs n).length = zs.length := by
  induction n with
  | zero => rfl
  | succ n ih => simp [putT, ih]
/-- what stands where, when so many were laid -/
theorem putT_at {P : Nat → Nat} {V : Nat → UInt8} {zs : List UInt8} {N : Nat} (hP : ∀ k, k < N → P k < zs.length) (hi : ∀ j k, j < N → k < N → P j = P k → j = k) {n : Nat} (hn : n ≤ N) :
    (∀ k, k < n → (putT P V zs n)[P k]?.getD 0 = V k) ∧ ∀ j, (∀ k, k < n → P k ≠ j) → (putT P V zs n)[j]?.getD 0 = zs[j]?.getD 0 := by
  induction n with
  | zero => exact ⟨fun k hk => by omega, fun j _ => rfl⟩
  | succ n ih =>
    obtain ⟨h1, h2⟩ := ih (by omega)
    refine ⟨fun k hk => ?_, fun j hj => ?_⟩
    · show ((putT P V zs n).set (P n) (V n))[P k]?.getD 0 = V k
      rw [List.getElem?_set]
      by_cases e : P n = P k
      · have e2 := hi n k (by omega) (by omega) e
        rw [if_pos e, if_pos (by rw [putT_length]; exact hP n (by omega)), e2]
        rfl
      · rw [if_neg e]
        exact h1 k (by
          by_cases e2 : k = n
          · exact absurd (by rw [e2]) e
          · omega)
    · show ((putT P V zs n).set (P n) (V n))[j]?.getD 0 = zs[j]?.getD 0
      rw [List.getElem?_set, if_neg (hj n (by omega))]
      exact h2 j (fun k hk => hj k (by omega))
/-- what Lay answers, and how the picture is then -/
def lyE (f g a b len n : Int) : Int := if cE f g a = 0 then (if len = sN f ∧ n = 64 then pE f g a b else 2) else cE f g a
def lyL (f g a b : Int) (zs ss : List UInt8) : List UInt8 := if lyE f g a b zs.length ss.length = 0 then putT (psT f g a b) (fun k => ss[k]?.getD 0) zs 64 else zs
/-- what Copy answers, and how the picture is then -/
def cpE (f g a len n : Int) : Int := if cE f g a = 0 then (if len = sN f ∧ n = sN f then 0 else 2) else cE f g a
def cpN (f g a : Int) (zs fs : List UInt8) : Nat → List UInt8
  | 0 => zs
  | b + 1 => putT (psT f g a ((b : Int) + 1)) (fun k => fs[psT f g a ((b : Int) + 1) k]?.getD 0) (cpN f g a zs fs b) 64
def cpL (f g a : Int) (zs fs : List UInt8) : List UInt8 := if cpE f g a zs.length fs.length = 0 then cpN f g a zs fs 6 else zs
theorem cpN_length (f g a : Int) (zs fs : List UInt8) (b : Nat) : (cpN f g a zs fs b).length = zs.length := by
  induction b with
  | zero => rfl
  | succ b ih => simp [cpN, putT_length, ih]
theorem lyL_length (f g a b : Int) (zs ss : List UInt8) : (lyL f g a b zs ss).length = zs.length := by
  unfold lyL
  split
  · exact putT_length _ _ _ _
  · rfl
theorem cpL_length (f g a : Int) (zs fs : List UInt8) : (cpL f g a zs fs).length = zs.length := by
  unfold cpL
  split
  · exact cpN_length _ _ _ _ _ _
  · rfl

end Go.Proofs.Ytenplmmongphoaa
