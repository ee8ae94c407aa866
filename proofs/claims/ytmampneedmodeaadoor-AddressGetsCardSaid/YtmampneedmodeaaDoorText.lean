/- Texts of bits: strings.ContainsFunc at bits.isNoBit; the contract of (*bits.Pen).Code. -/
import Derived.Test.YtmampneedmodeaaDoorPen2
import Derived.Lib.OthersKept
import Derived.Laws.RangeAny
import Derived.Deep.LoopGhost
namespace Go.Proofs.YtmampneedmodeaaDoor
open Go.RowKit Go.Shelf
set_option linter.unusedVariables false

def noBit (r : Int) : Bool := !(r == 48) && !(r == 49)
/-- nothing but noughts and ones -/
def AllBits (s : ByteArray) : Prop := ∀ i (h : i < s.size), s[i] = 48 ∨ s[i] = 49
/-- the rune at a place -/
theorem rune_at (s : ByteArray) (i : Nat) (h : i < s.size) : noBit ((Utf8.decode s i).1 : Nat) = !(s[i] == 48 || s[i] == 49) ∧ ((s[i] = 48 ∨ s[i] = 49) → Utf8.decode s i = (s[i].toNat, 1)) := by
  by_cases ha : s[i].toNat < 128
  · rw [decode_ascii s i h ha]
    refine ⟨?_, fun _ => rfl⟩
    have e1 : ((s[i].toNat : Int) == 48) = (s[i] == 48) := by
      rw [Bool.eq_iff_iff]; simp only [beq_iff_eq]; rw [← UInt8.toNat_inj]
      show _ ↔ s[i].toNat = 48; omega
    have e2 : ((s[i].toNat : Int) == 49) = (s[i] == 49) := by
      rw [Bool.eq_iff_iff]; simp only [beq_iff_eq]; rw [← UInt8.toNat_inj]
      show _ ↔ s[i].toNat = 49; omega
    simp [noBit, e1, e2]
  · have hd := (decode_high s i h (by omega)).1
    have n1 : s[i] ≠ 48 := fun e => by rw [e] at ha; exact ha (by decide)
    have n2 : s[i] ≠ 49 := fun e => by rw [e] at ha; exact ha (by decide)
    refine ⟨?_, fun h => by rcases h with h | h <;> contradiction⟩
    have e1 : (((Utf8.decode s i).1 : Int) == 48) = false := by simp; omega
    have e2 : (((Utf8.decode s i).1 : Int) == 49) = false := by simp; omega
    have e3 : (s[i] == 48) = false := by simpa using n1
    have e4 : (s[i] == 49) = false := by simpa using n2
    unfold noBit
    rw [e1, e2, e3, e4]
    rfl

theorem first_bad (s : ByteArray) (h : ¬ AllBits s) : ∃ k, ∃ hk : k < s.size, (∀ i (h : i < s.size), i < k → s[i] = 48 ∨ s[i] = 49) ∧ ¬ (s[k] = 48 ∨ s[k] = 49) := by
  have key : ∀ n, n ≤ s.size → (∀ i (h : i < s.size), i < n → s[i] = 48 ∨ s[i] = 49) ∨ ∃ k, ∃ hk : k < s.size, (∀ i (h : i < s.size), i < k → s[i] = 48 ∨ s[i] = 49) ∧ ¬ (s[k] = 48 ∨ s[k] = 49) := by
    intro n
    induction n with
    | zero => intro _; exact .inl fun i _ h => by omega
    | succ n ih =>
      intro hn
      rcases ih (by omega) with h1 | h1
      · by_cases hb : s[n] = 48 ∨ s[n] = 49
        · refine .inl fun i hi hlt => ?_
          by_cases e : i = n
          · subst e; exact hb
          · exact h1 i hi (by omega)
        · exact .inr ⟨n, by omega, h1, hb⟩
      · exact .inr h1
  rcases key s.size (Nat.le_refl _) with h1 | h1
  · exact absurd (fun i hi => h1 i hi hi) h
  · exact h1

/-- the bits that a text spells -/
def textBits (s : ByteArray) : List Bool := s.data.toList.map (· == 49)
theorem textBits_len (s : ByteArray) : (textBits s).length = s.size := by simp [textBits]
theorem textBits_take (s : ByteArray) (i : Nat) (h : i < s.size) : (textBits s).take (i + 1) = (textBits s).take i ++ [s[i] == 49] := by
  rw [List.take_add_one, List.getElem?_eq_getElem (by rw [textBits_len]; exact h)]
  simp [textBits]
  rfl
def allB (s : ByteArray) : Bool := s.data.toList.all fun z => z == 48 || z == 49
theorem allB_iff (s : ByteArray) : allB s = true ↔ AllBits s := by
  unfold allB AllBits
  rw [List.all_eq_true]
  constructor
  · intro h i hi
    have := h s[i] (by rw [Array.mem_toList_iff]; exact Array.getElem_mem _)
    simpa using this
  · intro h z hz
    rw [Array.mem_toList_iff] at hz
    obtain ⟨i, hi, rfl⟩ := Array.mem_iff_getElem.1 hz
    have hb : s.data[i] = 48 ∨ s.data[i] = 49 := h i hi
    simpa using hb
def codeE (L : List Bool) (s : ByteArray) : Int := if allB s then (if 16777216 - (L.length : Int) < s.size then 4 else 0) else 14
def codeL (L : List Bool) (s : ByteArray) : List Bool := if codeE L s = 0 then L ++ textBits s else L

theorem bar_iterAt (w : World) (k : Nat) (s : ByteArray) (pos : Nat) : Bar (fun j => j = k) w (w.iterAt k s pos) :=
  ⟨rfl, rfl, rfl, by rw [Lib.iterAt_size]; exact Nat.le_refl _, fun j _ hn => Lib.iterAt_other w k j s pos hn⟩

end Go.Proofs.YtmampneedmodeaaDoor
