/- Contracts of bits.NewPen and of a pen's methods made, room, Len, Put. -/
import Derived.Test.YtdadmoefmaojlaaDoorPen
import Derived.LaidEqlPtr
namespace Go.Proofs.YtdadmoefmaojlaaDoor
open Go.RowKit Go.Shelf
set_option linter.unusedVariables false

theorem push_at {w : World} {b : Nat} {g : Option Nat} {L : List Bool} (y : Int) (x : Bool) (hy : y = x.toNat) (h : IsPen w b g L) (hl : L.length < 16777216) :
    Calls Tryd.prog 46 #[.pointer (some ⟨b, 0, none⟩), .int .i64 y] w fun e w' => e = .returned (.tuple #[]) ∧ Wrote w w' b g (L ++ [x]) := by
  subst hy; exact push_any h x hl
theorem Wrote.refl {w : World} {b : Nat} {g : Option Nat} {L : List Bool} (h : IsPen w b g L) : Wrote w w b g L := ⟨g, h, Bar.refl _ _, fun k e => .inl e⟩
theorem Wrote.trans {w w1 w2 : World} {b : Nat} {g g' : Option Nat} {L' : List Bool} (hb : Bar (fun k => k = b ∨ g = some k) w w1) (hg : ∀ k, g' = some k → g = some k ∨ w.heap.size ≤ k) (k : Wrote w1 w2 b g' L') : Wrote w w2 b g L' := by
  obtain ⟨g2, hp, hb2, hg2⟩ := k
  refine ⟨g2, hp, hb.trans hb2 (fun j hj e => ?_), fun j e => ?_⟩
  · rcases e with rfl | e
    · exact .inl rfl
    · rcases hg j e with h | h
      · exact .inr h
      · omega
  · rcases hg2 j e with h | h
    · exact hg j h
    · exact .inr (Nat.le_trans hb.size h)

theorem newPen_any (w : World) : Calls Tryd.prog 25 #[] w fun e w' => e = .returned (.pointer (some ⟨w.heap.size, 0, none⟩)) ∧ IsPen w' w.heap.size none [] ∧ Below w.heap.size w w' := by
  go_enter Tryd.func25, Tryd.ntmps25
  go_wp2
  go_ret
  refine ⟨rfl, ⟨.slice none 0 0, [], rfl, World.alloc_heap_new w _, World.ownsRow_nil _ _ _ _, packed_nil, by simp⟩, (Below.refl _ _).alloc (Nat.le_refl _) _⟩

theorem ptr_eq (a : Addr) (w : World) : (binOp .eql 55 (.pointer (some a)) (.pointer (some a))).run Tryd.prog w = .ok (.bool true) w := by
  obtain ⟨j, hj⟩ : ∃ j, Tryd.prog.info? 84 = some j := Option.isSome_iff_exists.1 (by kernel_rfl)
  exact run_eql_ptr_same w a Tryd.underlying55 hj
theorem made_any {w : World} {b : Nat} {g : Option Nat} {L : List Bool} (h : IsPen w b g L) :
    Calls Tryd.prog 42 #[.pointer (some ⟨b, 0, none⟩)] w fun e w' => e = .returned (.bool true) ∧ w = w' := by
  obtain ⟨v, zs, rfl, hb, _⟩ := h
  obtain ⟨c0, c1, c2, f0, f1, f2⟩ := pen_cells hb
  clear hb
  have he := ptr_eq ⟨b, 0, none⟩ w
  go_enter Tryd.func42, Tryd.ntmps42
  go_wp2
  go_ret
  exact ⟨rfl, rfl⟩

theorem room_any {w : World} {b : Nat} {g : Option Nat} {L : List Bool} (h : IsPen w b g L) :
    Calls Tryd.prog 45 #[.pointer (some ⟨b, 0, none⟩)] w fun e w' => e = .returned (.int .i64 (16777216 - L.length)) ∧ w = w' := by
  obtain ⟨v, zs, rfl, hb, _, _, hl⟩ := h
  obtain ⟨c0, c1, c2, f0, f1, f2⟩ := pen_cells hb
  clear hb
  go_enter Tryd.func45, Tryd.ntmps45
  go_wp2
  go_ret
  exact ⟨rfl, rfl⟩

/-- the bits of a number -/
def numBits (n k : Nat) : List Bool := (List.range k).map fun i => decide (n / 2 ^ (k - 1 - i) % 2 = 1)
def putE (L : List Bool) (n k : Int) : Int :=
  if k < 0 ∨ 32 < k ∨ n < 0 ∨ n / 2 ^ k.toNat ≠ 0 then 3 else if 16777216 - (L.length : Int) < k then 4 else 0
def putL (L : List Bool) (n k : Int) : List Bool := if putE L n k = 0 then L ++ numBits n.toNat k.toNat else L

theorem numBits_take (n k j : Nat) (hj : j < k) : (numBits n k).take (j + 1) = (numBits n k).take j ++ [decide (n / 2 ^ (k - 1 - j) % 2 = 1)] := by
  rw [List.take_add_one]
  simp [numBits, hj]
theorem toNat_decide (m : Nat) : ((m : Int) % 2) = ((decide (m % 2 = 1)).toNat : Int) := by
  by_cases h : m % 2 = 1
  · simp [h]; omega
  · simp [h]; omega

end Go.Proofs.YtdadmoefmaojlaaDoor
