/- The walk of CoeffList (praxinoscopelaw08): pairs, and an end, one behind the other. -/
import Derived.Test.YtejcgkplcbapfaaDoorEBack
namespace Go.Proofs.YtejcgkplcbapfaaDoor
open Go.RowKit Go.Shelf
set_option linter.unusedVariables false

/-- the pairs by two lists of numbers -/
def prun8 (xs : List Int) (k : Nat) : Int := xs[k]?.getD 0 % 64
def plev8 (ys : List Int) (k : Nat) : Int := lvE (ys[k]?.getD 0)
def pcells8 (xs ys : List Int) (k : Nat) : List Value := (List.range k).flatMap fun i => [.int .i64 (prun8 xs i), .int .i64 (plev8 ys i)]
theorem pcells8_succ (xs ys : List Int) (k : Nat) : pcells8 xs ys k ++ [.int .i64 (prun8 xs k), .int .i64 (plev8 ys k)] = pcells8 xs ys (k + 1) := by simp [pcells8, List.range_succ]
theorem pcells8_length (xs ys : List Int) (k : Nat) : (pcells8 xs ys k).length = k * 2 := by
  induction k with
  | zero => rfl
  | succ k ih => rw [← pcells8_succ, List.length_append, ih]; simp; omega
theorem pcells8_at (xs ys : List Int) : ∀ (n : Nat) {k : Nat}, k < n → (pcells8 xs ys n)[2 * k]? = some (.int .i64 (prun8 xs k)) ∧ (pcells8 xs ys n)[2 * k + 1]? = some (.int .i64 (plev8 ys k))
  | n + 1, k, h => by
    rw [← pcells8_succ]
    have hl := pcells8_length xs ys n
    by_cases hk : k < n
    · obtain ⟨e1, e2⟩ := pcells8_at xs ys n hk
      exact ⟨by rw [List.getElem?_append_left (by omega)]; exact e1, by rw [List.getElem?_append_left (by omega)]; exact e2⟩
    · obtain rfl : k = n := by omega
      exact ⟨by rw [List.getElem?_append_right (by omega), show 2 * k - (pcells8 xs ys k).length = 0 by omega]; rfl, by rw [List.getElem?_append_right (by omega), show 2 * k + 1 - (pcells8 xs ys k).length = 1 by omega]; rfl⟩
/-- a pair's code, at first the first one's -/
def pcode8 (first : Bool) (xs ys : List Int) (k : Nat) : ByteArray := putP (first && decide (k = 0)) (prun8 xs k) (plev8 ys k)
/-- the codes, one behind the other -/
def ptxt8 (first : Bool) (xs ys : List Int) : Nat → ByteArray
  | 0 => ⟨#[]⟩
  | k + 1 => ptxt8 first xs ys k ++ pcode8 first xs ys k
theorem pcode8_size (first : Bool) (xs ys : List Int) (k : Nat) : 1 ≤ (pcode8 first xs ys k).size ∧ (pcode8 first xs ys k).size ≤ 20 := by
  obtain ⟨h1, h2, _⟩ := putP_size (first && decide (k = 0)) (prun8 xs k) (plev8 ys k)
  exact ⟨h1, h2⟩
theorem ptxt8_size (first : Bool) (xs ys : List Int) : ∀ k, (ptxt8 first xs ys k).size ≤ 20 * k
  | 0 => Nat.le_refl _
  | k + 1 => by
    have h1 := ptxt8_size first xs ys k
    have h2 := (pcode8_size first xs ys k).2
    show (ptxt8 first xs ys k ++ pcode8 first xs ys k).size ≤ _
    rw [ByteArray.size_append]
    omega
theorem ptxt8_bits (first : Bool) (xs ys : List Int) : ∀ k, allB (ptxt8 first xs ys k) = true
  | 0 => rfl
  | k + 1 => allBits_append (ptxt8_bits first xs ys k) (putP_bits _ _ _)
theorem ptxt8_split (first : Bool) (xs ys : List Int) (k : Nat) : ∀ d, ∃ rest, ptxt8 first xs ys (k + 1 + d) = ptxt8 first xs ys k ++ pcode8 first xs ys k ++ rest
  | 0 => ⟨⟨#[]⟩, by
      show ptxt8 first xs ys k ++ pcode8 first xs ys k = _
      exact (ByteArray.append_empty).symm⟩
  | d + 1 => by
    obtain ⟨rest, h⟩ := ptxt8_split first xs ys k d
    refine ⟨rest ++ pcode8 first xs ys (k + 1 + d), ?_⟩
    show ptxt8 first xs ys (k + 1 + d) ++ pcode8 first xs ys (k + 1 + d) = _
    rw [h, ByteArray.append_assoc]
theorem stands_code {first : Bool} {xs ys : List Int} {zs : List UInt8} {n k : Nat} (h : Stands zs 0 (ptxt8 first xs ys n ++ end8)) (hk : k < n) : Stands zs (ptxt8 first xs ys k).size (pcode8 first xs ys k) := by
  obtain ⟨rest, e⟩ := ptxt8_split first xs ys k (n - (k + 1))
  rw [show k + 1 + (n - (k + 1)) = n by omega] at e
  rw [e] at h
  have h2 := h.split.1.split.1.split.2
  rwa [Nat.zero_add] at h2
theorem stands_end {first : Bool} {xs ys : List Int} {zs : List UInt8} {n : Nat} (h : Stands zs 0 (ptxt8 first xs ys n ++ end8)) : Stands zs (ptxt8 first xs ys n).size end8 := by
  have h2 := h.split.2
  rwa [Nat.zero_add] at h2

abbrev ListS (w2 w' : World) (g1 g2 : Nat) (o1 o2 : Nat) (x y : Int) : Prop := Below w2.heap.size w2 w' ∧ w'.cell? ⟨g1, o1, none⟩ = some (.int .i64 x) ∧ w'.cell? ⟨g2, o2, none⟩ = some (.int .i64 y)
theorem rfl_txt (first : Bool) (xs ys : List Int) (t : Nat) : ptxt8 first xs ys (t + 1) = ptxt8 first xs ys t ++ pcode8 first xs ys t := rfl
theorem rfl_cells (xs ys : List Int) (t : Nat) : pcells8 xs ys (t + 1) = pcells8 xs ys t ++ [.int .i64 (prun8 xs t), .int .i64 (plev8 ys t)] := (pcells8_succ xs ys t).symm
theorem ownsRow_below2 {w w' : World} {base n sz : Nat} {e : TypeId} {v : Value} {xs : List Value} (h : w.ownsRow base e sz v n xs) (hb : Below w.heap.size w w') : w'.ownsRow base e sz v n xs := by
  have hlt := h.lt
  refine ⟨h.1, ?_⟩
  rcases h.2 with hn | ⟨g', cap, cur, rfl, hbb, hg, rest⟩
  · exact .inl hn
  · exact .inr ⟨g', cap, cur, rfl, hbb, (hb.block g' (hlt g' rfl).2).trans hg, rest⟩
theorem row_form2 {w : World} {base n sz : Nat} {e : TypeId} {v : Value} {xs : List Value} (h : w.ownsRow base e sz v n xs) : ∃ av cap, v = .slice av n cap := by
  rcases h.2 with ⟨rfl, rfl⟩ | ⟨g, cap, cur, rfl, _⟩
  · exact ⟨_, _, rfl⟩
  · exact ⟨_, _, rfl⟩
theorem row_cells8 {w : World} {base n : Nat} {xs ys : List Int} {av : Option Addr} {cap k : Nat} (h : w.ownsRow base 26 2 (.slice av n cap) n (pcells8 xs ys n)) (hk : k < n) : ∃ g, av = some ⟨g, 0, none⟩ ∧ g < w.heap.size ∧ w.cell? ⟨g, k * 2, none⟩ = some (.int .i64 (prun8 xs k)) ∧ w.cell? ⟨g, k * 2 + 1, none⟩ = some (.int .i64 (plev8 ys k)) := by
  have hl := pcells8_length xs ys n
  rcases id h.2 with ⟨_, h0⟩ | ⟨g, cap', cur, e, hb, hg, _⟩
  · rw [h0] at hl
    simp at hl
    omega
  · injection e with e1 e2 e3
    subst e1
    subst e3
    obtain ⟨q1, q2⟩ := pcells8_at xs ys n hk
    refine ⟨g, rfl, (Array.getElem?_eq_some_iff.1 hg).1, ?_, ?_⟩
    · rw [Nat.mul_comm]; exact (h.cellAt (2 * k) (by omega)).trans q1
    · rw [Nat.mul_comm]; exact (h.cellAt (2 * k + 1) (by omega)).trans q2
theorem set_two {w : World} {g : Nat} {a b c d : Value} (h0 : w.cell? ⟨g, 0, none⟩ = some a) (h1 : w.cell? ⟨g, 1, none⟩ = some b) :
    ((w.setCell ⟨g, 0, none⟩ c).setCell ⟨g, 1, none⟩ d).cell? ⟨g, 0, none⟩ = some c ∧ ((w.setCell ⟨g, 0, none⟩ c).setCell ⟨g, 1, none⟩ d).cell? ⟨g, 1, none⟩ = some d ∧ ((w.setCell ⟨g, 0, none⟩ c).setCell ⟨g, 1, none⟩ d).heap.size = w.heap.size := by
  refine ⟨?_, ?_, ?_⟩
  · go_simp
  · go_simp
  · simp
theorem ptxt8_pos (first : Bool) (xs ys : List Int) : ∀ k, k ≤ (ptxt8 first xs ys k).size
  | 0 => Nat.zero_le _
  | k + 1 => by
    have h1 := ptxt8_pos first xs ys k
    have h2 := (pcode8_size first xs ys k).1
    show _ ≤ (ptxt8 first xs ys k ++ pcode8 first xs ys k).size
    rw [ByteArray.size_append]
    omega
theorem intV_get8 {xs : List Int} {j : Nat} (h : j < xs.length) : (intV xs)[j]? = some (.int .i64 (xs[j]?.getD 0)) := by simp [h]

end Go.Proofs.YtejcgkplcbapfaaDoor
