/- Contracts of bits.NewPen and of a pen's methods made, room, Len, Put. Texts of bits: strings.ContainsFunc at bits.isNoBit; the contract of (*bits.Pen).Code. Contracts of slices.Clone at bytes, of (*bits.Pen).Bytes, of the kit's SameBytes and OverBytes. -/
import Derived.Test.YtpmdeoiajnfabaaPen
import Derived.LaidEqlPtr
import Derived.Lib.OthersKept
import Derived.Laws.RangeAny
import Derived.Deep.LoopGhost
import Derived.Laws.BytesArg
import Derived.Lib.LazyBuf
/- Contracts of bits.NewPen and of a pen's methods made, room, Len, Put. -/
namespace Go.Proofs.Ytpmdeoiajnfabaa
open Go.RowKit Go.Shelf
set_option linter.unusedVariables false
/-- the bits of a number -/
def numBits (n k : Nat) : List Bool := (List.range k).map fun i => decide (n / 2 ^ (k - 1 - i) % 2 = 1)
def putE (L : List Bool) (n k : Int) : Int :=
  if k < 0 ∨ 32 < k ∨ n < 0 ∨ n / 2 ^ k.toNat ≠ 0 then 3 else if 16777216 - (L.length : Int) < k then 4 else 0
def putL (L : List Bool) (n k : Int) : List Bool := if putE L n k = 0 then L ++ numBits n.toNat k.toNat else L

theorem numBits_take (n k j : Nat) (hj : j < k) : (numBits n k).take (j + 1) = (numBits n k).take j ++ [decide (n / 2 ^ (k - 1 - j) % 2 = 1)] := by
  rw [List.take_add_one]
  simp [numBits, hj]
theorem toNat_decide (m : Nat) : ((m : Int) % 2) = ((decide (m % 2 = 1)).toNat : Int) := by
  by_cases h : m % 2 = 1
  · simp [h]; omega
  · simp [h]; omega

end Go.Proofs.Ytpmdeoiajnfabaa

/- Texts of bits: strings.ContainsFunc at bits.isNoBit; the contract of (*bits.Pen).Code. -/
namespace Go.Proofs.Ytpmdeoiajnfabaa
open Go.RowKit Go.Shelf
set_option linter.unusedVariables false

def noBit (r : Int) : Bool := !(r == 48) && !(r == 49)
/-- nothing but noughts and ones -/
def AllBits (s : ByteArray) : Prop := ∀ i (h : i < s.size), s[i] = 48 ∨ s[i] = 49
/-- the rune at a place -/
theorem rune_at (s : ByteArray) (i : Nat) (h : i < s.size) : noBit ((Utf8.decode s i).1 : Nat) = !(s[i] == 48 || s[i] == 49) ∧ ((s[i] = 48 ∨ s[i] = 49) → Utf8.decode s i = (s[i].toNat, 1)) := by
  by_cases ha : s[i].toNat < 128
  · rw [decode_ascii s i h ha]
    refine ⟨?_, fun _ => rfl⟩
    have e1 : ((s[i].toNat : Int) == 48) = (s[i] == 48) := by
      rw [Bool.eq_iff_iff]; simp only [beq_iff_eq]; rw [← UInt8.toNat_inj]
      show _ ↔ s[i].toNat = 48; omega
    have e2 : ((s[i].toNat : Int) == 49) = (s[i] == 49) := by
      rw [Bool.eq_iff_iff]; simp only [beq_iff_eq]; rw [← UInt8.toNat_inj]
      show _ ↔ s[i].toNat = 49; omega
    simp [noBit, e1, e2]
  · have hd := (decode_high s i h (by omega)).1
    have n1 : s[i] ≠ 48 := fun e => by rw [e] at ha; exact ha (by decide)
    have n2 : s[i] ≠ 49 := fun e => by rw [e] at ha; exact ha (by decide)
    refine ⟨?_, fun h => by rcases h with h | h <;> contradiction⟩
    have e1 : (((Utf8.decode s i).1 : Int) == 48) = false := by simp; omega
    have e2 : (((Utf8.decode s i).1 : Int) == 49) = false := by simp; omega
    have e3 : (s[i] == 48) = false := by simpa using n1
    have e4 : (s[i] == 49) = false := by simpa using n2
    unfold noBit
    rw [e1, e2, e3, e4]
    rfl

theorem first_bad (s : ByteArray) (h : ¬ AllBits s) : ∃ k, ∃ hk : k < s.size, (∀ i (h : i < s.size), i < k → s[i] = 48 ∨ s[i] = 49) ∧ ¬ (s[k] = 48 ∨ s[k] = 49) := by
  have key : ∀ n, n ≤ s.size → (∀ i (h : i < s.size), i < n → s[i] = 48 ∨ s[i] = 49) ∨ ∃ k, ∃ hk : k < s.size, (∀ i (h : i < s.size), i < k → s[i] = 48 ∨ s[i] = 49) ∧ ¬ (s[k] = 48 ∨ s[k] = 49) := by
    intro n
    induction n with
    | zero => intro _; exact .inl fun i _ h => by omega
    | succ n ih =>
      intro hn
      rcases ih (by omega) with h1 | h1
      · by_cases hb : s[n] = 48 ∨ s[n] = 49
        · refine .inl fun i hi hlt => ?_
          by_cases e : i = n
          · subst e; exact hb
          · exact h1 i hi (by omega)
        · exact .inr ⟨n, by omega, h1, hb⟩
      · exact .inr h1
  rcases key s.size (Nat.le_refl _) with h1 | h1
  · exact absurd (fun i hi => h1 i hi hi) h
  · exact h1

/-- the bits that a text spells -/
def textBits (s : ByteArray) : List Bool := s.data.toList.map (· == 49)
theorem textBits_len (s : ByteArray) : (textBits s).length = s.size := by simp [textBits]
theorem textBits_take (s : ByteArray) (i : Nat) (h : i < s.size) : (textBits s).take (i + 1) = (textBits s).take i ++ [s[i] == 49] := by
  rw [List.take_add_one, List.getElem?_eq_getElem (by rw [textBits_len]; exact h)]
  simp [textBits]
  rfl
def allB (s : ByteArray) : Bool := s.data.toList.all fun z => z == 48 || z == 49
theorem allB_iff (s : ByteArray) : allB s = true ↔ AllBits s := by
  unfold allB AllBits
  rw [List.all_eq_true]
  constructor
  · intro h i hi
    have := h s[i] (by rw [Array.mem_toList_iff]; exact Array.getElem_mem _)
    simpa using this
  · intro h z hz
    rw [Array.mem_toList_iff] at hz
    obtain ⟨i, hi, rfl⟩ := Array.mem_iff_getElem.1 hz
    have hb : s.data[i] = 48 ∨ s.data[i] = 49 := h i hi
    simpa using hb
def codeE (L : List Bool) (s : ByteArray) : Int := if allB s then (if 16777216 - (L.length : Int) < s.size then 4 else 0) else 14
def codeL (L : List Bool) (s : ByteArray) : List Bool := if codeE L s = 0 then L ++ textBits s else L

theorem bar_iterAt (w : World) (k : Nat) (s : ByteArray) (pos : Nat) : Bar (fun j => j = k) w (w.iterAt k s pos) :=
  ⟨rfl, rfl, rfl, by rw [Lib.iterAt_size]; exact Nat.le_refl _, fun j _ hn => Lib.iterAt_other w k j s pos hn⟩

end Go.Proofs.Ytpmdeoiajnfabaa

/- Contracts of slices.Clone at bytes, of (*bits.Pen).Bytes, of the kit's SameBytes and OverBytes. -/
namespace Go.Proofs.Ytpmdeoiajnfabaa
open Go.RowKit Go.Shelf
set_option linter.unusedVariables false

theorem byt_own {w : World} {base n₀ : Nat} {v : Value} {zs : List UInt8} (h : w.ownsRow base 5 1 v zs.length (u8s zs)) (hl : zs.length ≤ 1152921504606846975) (hn : w.heap.size ≤ n₀) : Byt n₀ w v zs := by
  rcases id h.2 with ⟨rfl, hz⟩ | ⟨g, cap, cur, rfl, _, hg, _⟩
  · have : zs = [] := List.eq_nil_of_length_eq_zero hz
    subst this
    exact ⟨none, 0, rfl, hl, .inl rfl⟩
  · refine ⟨_, cap, rfl, hl, .inr ⟨g, 0, rfl, Nat.lt_of_lt_of_le (Array.getElem?_eq_some_iff.1 hg).1 hn, fun j hj => ?_⟩⟩
    have := h.cellAt j (by omega)
    simp only [Nat.zero_add]
    rw [this]
    simp [hj]

def Cloned (w w' : World) (e : Ending) (zs : List UInt8) : Prop := ∃ v, e = .returned v ∧ w'.ownsRow w.heap.size 5 1 v zs.length (u8s zs) ∧ Below w.heap.size w w'

end Go.Proofs.Ytpmdeoiajnfabaa
