/- Contracts of address's Get, Put, Next, Row. -/
import Derived.Test.YtmampneedmodeaaDoorACode2
import Derived.Test.YtmampneedmodeaaDoorAFmt
namespace Go.Proofs.YtmampneedmodeaaDoor
open Go.RowKit Go.Shelf
set_option linter.unusedVariables false

/-- a code of the table -/
def cd (k : Nat) : Nat × Nat := tab4[k]?.getD (0, 0)
/-- the table's codes as texts, and their numbers -/
def codes4 : List ByteArray := tab4.map fun c => binS c.1 c.2
def nums4 : List Int := (List.range 35).map fun (k : Nat) => (k : Int)
theorem codes4_length : codes4.length = 35 := by simp [codes4, tab4_length]
theorem codes4_at {k : Nat} (h : k < 35) : codes4[k]?.getD ⟨#[]⟩ = binS (cd k).1 (cd k).2 := by
  have h2 : k < tab4.length := by rw [tab4_length]; exact h
  simp [codes4, cd, h2]
theorem nums4_at {k : Nat} (h : k < 35) : nums4[k]?.getD 0 = k := by simp [nums4, h]
theorem cd_mem {k : Nat} (h : k < 35) : cd k ∈ tab4 := by
  have h2 : k < tab4.length := by rw [tab4_length]; exact h
  simp [cd, h2]

theorem cellsA_at (l : List (Nat × Nat)) : ∀ k, k < l.length → (cellsA l)[k * 2]? = some (.int .i64 ((l[k]?.getD (0, 0)).1 : Nat)) ∧ (cellsA l)[k * 2 + 1]? = some (.int .i64 ((l[k]?.getD (0, 0)).2 : Nat)) := by
  induction l with
  | nil => intro k h; simp at h
  | cons c l ih =>
    intro k h
    have e : cellsA (c :: l) = .int .i64 (c.1 : Nat) :: .int .i64 (c.2 : Nat) :: cellsA l := by simp [cellsA]
    rw [e]
    cases k with
    | zero => simp
    | succ k =>
      have := ih k (by simpa using h)
      rw [show (k + 1) * 2 = k * 2 + 1 + 1 by omega]
      simpa using this
theorem tab_cells {w : World} {base : Nat} {v : Value} (h : w.ownsRow base 47 2 v 35 (cellsA tab4)) :
    ∃ g cap, v = .slice (some ⟨g, 0, none⟩) 35 cap ∧ base ≤ g ∧ g < w.heap.size ∧ ∀ k, k < 35 → w.cell? ⟨g, k * 2, none⟩ = some (.int .i64 ((cd k).1 : Nat)) ∧ w.cell? ⟨g, k * 2 + 1, none⟩ = some (.int .i64 ((cd k).2 : Nat)) := by
  rcases id h.2 with ⟨_, h0⟩ | ⟨g, cap, cur, rfl, hb, hg, _⟩
  · omega
  · refine ⟨g, cap, rfl, hb, (Array.getElem?_eq_some_iff.1 hg).1, fun k hk => ?_⟩
    obtain ⟨c0, c1⟩ := cellsA_at tab4 k (by rw [tab4_length]; exact hk)
    exact ⟨(h.cellAt (g := g) (k * 2) (by omega)).trans c0, (h.cellAt (g := g) (k * 2 + 1) (by omega)).trans c1⟩

/-! ### Put -/
def putS4 (d : Int) : ByteArray := if d < 0 ∨ 33 < d then ⟨#[]⟩ else binS (cd d.toNat).1 (cd d.toNat).2
def putE4 (d : Int) : Int := if d < 0 ∨ 33 < d then 3 else 0

set_option maxRecDepth 100000 in
set_option maxHeartbeats 1000000 in
theorem aput_any (d : Int) (w : World) (hT : Tab2 w) :
    Calls Tryd.prog 14 #[.int .i64 d] w fun e w' => e = .returned (.tuple #[.string (putS4 d), .int .i64 (putE4 d)]) ∧ Below w.heap.size w w' := by
  unfold putS4 putE4
  by_cases h1 : d < 0
  · rw [if_pos (.inl h1), if_pos (.inl h1)]
    go_enter Tryd.func14, Tryd.ntmps14
    go_wp2
    go_ret2
    exact ⟨rfl, Below.refl _ _⟩
  · by_cases h2 : 33 < d
    · rw [if_pos (.inr h2), if_pos (.inr h2)]
      go_enter Tryd.func14, Tryd.ntmps14
      go_wp2
      go_ret2
      exact ⟨rfl, Below.refl _ _⟩
    · rw [if_neg (by omega), if_neg (by omega)]
      obtain ⟨k, rfl⟩ := Int.eq_ofNat_of_zero_le (a := d) (by omega)
      have hk : k < 35 := by omega
      rw [Int.toNat_natCast]
      have HT := Lib.hid hT
      have HM := Lib.hid (cd_mem hk)
      clear hT
      go_enter Tryd.func14, Tryd.ntmps14
      go_wp2_with (go_at_call 25; refine (codes4_any w).mono ?_; rintro e w1 ⟨v, rfl, hown, hb⟩; obtain ⟨g, cap, rfl, hg0, hg1, hc⟩ := tab_cells hown; obtain ⟨c0, c1⟩ := hc k hk; have HX := Lib.hid (atext_any HM.out w1 (HT.out.below hb)); clear hown hc; refine Hid.out ?_)
      refine Lib.hid ?_
      go_wp2_with (go_at_call 33; refine HX.out.mono ?_; rintro e w2 ⟨rfl, hb2⟩)
      go_ret2
      exact ⟨rfl, hb.trans (hb2.mono hb.size)⟩

/-! ### Next and Row -/
def nextN (a d : Int) : Int := if a < 0 ∨ 33 < a ∨ d < 1 ∨ 33 < d then 0 else if 33 < a + d then 0 else a + d
def nextE (a d : Int) : Int := if a < 0 ∨ 33 < a ∨ d < 1 ∨ 33 < d then 3 else if 33 < a + d then 13 else 0
set_option maxHeartbeats 1000000 in
theorem anext_any (a d : Int) (w : World) :
    Calls Tryd.prog 16 #[.int .i64 a, .int .i64 d] w fun e w' => e = .returned (.tuple #[.int .i64 (nextN a d), .int .i64 (nextE a d)]) ∧ w = w' := by
  unfold nextN nextE
  by_cases h : a < 0 ∨ 33 < a ∨ d < 1 ∨ 33 < d
  · rw [if_pos h, if_pos h]
    by_cases h1 : a < 0
    · clear h
      go_enter Tryd.func16, Tryd.ntmps16
      go_wp2
      go_ret2
      exact ⟨rfl, rfl⟩
    · by_cases h2 : 33 < a
      · clear h
        go_enter Tryd.func16, Tryd.ntmps16
        go_wp2
        go_ret2
        exact ⟨rfl, rfl⟩
      · by_cases h3 : d < 1
        · clear h
          go_enter Tryd.func16, Tryd.ntmps16
          go_wp2
          go_ret2
          exact ⟨rfl, rfl⟩
        · have h4 : 33 < d := by omega
          clear h
          go_enter Tryd.func16, Tryd.ntmps16
          go_wp2
          go_ret2
          exact ⟨rfl, rfl⟩
  · rw [if_neg h, if_neg h]
    have h1 : ¬ a < 0 := by omega
    have h2 : ¬ 33 < a := by omega
    have h3 : ¬ d < 1 := by omega
    have h4 : ¬ 33 < d := by omega
    clear h
    by_cases hs : 33 < a + d
    · rw [if_pos hs, if_pos hs]
      go_enter Tryd.func16, Tryd.ntmps16
      go_wp2
      go_ret2
      exact ⟨rfl, rfl⟩
    · rw [if_neg hs, if_neg hs]
      go_enter Tryd.func16, Tryd.ntmps16
      go_wp2
      go_ret2
      exact ⟨rfl, rfl⟩

def rowR (a : Int) : Int := if a < 1 ∨ 33 < a then 0 else (a - 1) / 11
def rowC (a : Int) : Int := if a < 1 ∨ 33 < a then 0 else (a - 1) % 11
def rowE (a : Int) : Int := if a < 1 ∨ 33 < a then 3 else 0
set_option maxHeartbeats 1000000 in
theorem arow_any (a : Int) (w : World) :
    Calls Tryd.prog 18 #[.int .i64 a] w fun e w' => e = .returned (.tuple #[.int .i64 (rowR a), .int .i64 (rowC a), .int .i64 (rowE a)]) ∧ w = w' := by
  unfold rowR rowC rowE
  by_cases h1 : a < 1
  · rw [if_pos (.inl h1), if_pos (.inl h1), if_pos (.inl h1)]
    go_enter Tryd.func18, Tryd.ntmps18
    go_wp2
    go_ret3
    exact ⟨rfl, rfl⟩
  · by_cases h2 : 33 < a
    · rw [if_pos (.inr h2), if_pos (.inr h2), if_pos (.inr h2)]
      go_enter Tryd.func18, Tryd.ntmps18
      go_wp2
      go_ret3
      exact ⟨rfl, rfl⟩
    · rw [if_neg (by omega), if_neg (by omega), if_neg (by omega)]
      have e1 : (a - 1).tdiv 11 = (a - 1) / 11 := Int.tdiv_eq_ediv_of_nonneg (by omega)
      have e2 : (a - 1).tmod 11 = (a - 1) % 11 := Int.tmod_eq_emod_of_nonneg (by omega)
      go_enter Tryd.func18, Tryd.ntmps18
      go_wp2
      go_ret3
      exact ⟨rfl, rfl⟩

/-! ### Get -/
theorem map_range_prefix {α : Type} (f g : Nat → α) (m n : Nat) : ((List.range m).map f <+: (List.range n).map g) ↔ (m ≤ n ∧ ∀ i, i < m → f i = g i) := by
  constructor
  · intro h
    have hl := h.length_le
    simp at hl
    refine ⟨hl, fun i hi => ?_⟩
    obtain ⟨t, ht⟩ := h
    have h1 : ((List.range n).map g)[i]? = some (f i) := by
      rw [← ht, List.getElem?_append_left (by simpa using hi)]
      simp [hi]
    rw [List.getElem?_map, List.getElem?_range (by omega)] at h1
    simpa using h1.symm
  · rintro ⟨h1, h2⟩
    refine ⟨((List.range (n - m)).map fun i => g (m + i)), ?_⟩
    rw [show (List.range m).map f = (List.range m).map g from List.map_congr_left (fun i hi => h2 i (by simpa using hi))]
    conv => rhs; rw [show n = m + (n - m) by omega, List.range_add, List.map_append, List.map_map]
    rfl
theorem bit8 {a b : Nat} (ha : a < 2) (hb : b < 2) : UInt8.ofNat (48 + a) = UInt8.ofNat (48 + b) ↔ a = b := by
  have h : ∀ a b : Fin 2, UInt8.ofNat (48 + a.val) = UInt8.ofNat (48 + b.val) ↔ a.val = b.val := by decide +kernel
  exact h ⟨a, ha⟩ ⟨b, hb⟩
theorem seen_begins (zs : List UInt8) (A n b m : Nat) : begins (seenB zs A n) (binS b m) = true ↔ (m ≤ n ∧ ∀ i, i < m → bt zs (A + i) = cbit b m i) := by
  unfold begins
  rw [decide_eq_true_iff]
  show (binL b m <+: seenL zs A n) ↔ _
  unfold binL seenL
  rw [map_range_prefix]
  have hb : ∀ i, bt zs i < 2 := fun i => by have := bt_le zs i; omega
  exact and_congr Iff.rfl (forall_congr' fun i => imp_congr Iff.rfl ((bit8 (cbit_le _ _ _) (hb _)).trans eq_comm))
theorem begins_seen4 (zs : List UInt8) (A n b m : Nat) : begins (binS b m) (seenB zs A n) = true ↔ (n ≤ m ∧ ∀ i, i < n → bt zs (A + i) = cbit b m i) := by
  unfold begins
  rw [decide_eq_true_iff]
  show (seenL zs A n <+: binL b m) ↔ _
  unfold binL seenL
  rw [map_range_prefix]
  have hb : ∀ i, bt zs i < 2 := fun i => by have := bt_le zs i; omega
  exact and_congr Iff.rfl (forall_congr' fun i => imp_congr Iff.rfl (bit8 (hb _) (cbit_le _ _ _)))

/-- the bits at a place agree with the first ones of a code -/
def Agrees (zs : List UInt8) (A b m j : Nat) : Prop := ∀ i, i < j → A + i < 8 * zs.length ∧ bt zs (A + i) = cbit b m i
theorem Agrees.succ {zs : List UInt8} {A b m j : Nat} (h : Agrees zs A b m j) (h1 : A + j < 8 * zs.length) (h2 : bt zs (A + j) = cbit b m j) : Agrees zs A b m (j + 1) := by
  intro i hi
  by_cases e : i = j
  · subst e; exact ⟨h1, h2⟩
  · exact h i (by omega)
theorem agrees_all {zs : List UInt8} {A b m : Nat} (h : Agrees zs A b m m) (hm : m ≤ 15) : begins (seenB zs A (seenN zs A)) (binS b m) = true := by
  rw [seen_begins]
  refine ⟨?_, fun i hi => (h i hi).2⟩
  unfold seenN
  by_cases e : m = 0
  · omega
  · have := (h (m - 1) (by omega)).1
    omega
theorem agrees_short {zs : List UInt8} {A b m j : Nat} (h : Agrees zs A b m j) (hj : j < m) (hm : m ≤ 15) (hs : 8 * zs.length ≤ A + j) :
    begins (seenB zs A (seenN zs A)) (binS b m) = false ∧ begins (binS b m) (seenB zs A (seenN zs A)) = true := by
  have hn : seenN zs A ≤ j := by unfold seenN; omega
  constructor
  · rw [Bool.eq_false_iff, ne_eq, seen_begins]
    rintro ⟨h1, _⟩
    omega
  · rw [begins_seen4]
    exact ⟨by omega, fun i hi => (h i (by omega)).2⟩
theorem agrees_miss {zs : List UInt8} {A b m j : Nat} (hj : j < m) (hm : m ≤ 15) (h1 : A + j < 8 * zs.length) (h2 : bt zs (A + j) ≠ cbit b m j) :
    begins (seenB zs A (seenN zs A)) (binS b m) = false ∧ begins (binS b m) (seenB zs A (seenN zs A)) = false := by
  have hn : j < seenN zs A := by unfold seenN; omega
  constructor
  · rw [Bool.eq_false_iff, ne_eq, seen_begins]
    rintro ⟨_, h⟩
    exact h2 (h j hj)
  · rw [Bool.eq_false_iff, ne_eq, begins_seen4]
    rintro ⟨_, h⟩
    exact h2 (h j hn)

/-- what Get answers -/
def gN (zs : List UInt8) (x : Int) : Int := if x < 0 then 0 else getX codes4 nums4 (seenB zs x.toNat (seenN zs x.toNat))
def gM (zs : List UInt8) (x : Int) : Int := if x < 0 then 0 else if getX codes4 nums4 (seenB zs x.toNat (seenN zs x.toNat)) = 34 then 0 else getN codes4 (seenB zs x.toNat (seenN zs x.toNat))
def gE (zs : List UInt8) (x : Int) : Int := if x < 0 then 3 else getE3 codes4 (seenB zs x.toNat (seenN zs x.toNat))

/-- whether one of the first k codes goes on behind the bits that there are -/
def more4 (S : ByteArray) (k : Nat) : Bool := (codes4.take k).any fun c => begins c S
theorem more4_succ (S : ByteArray) {k : Nat} (hk : k < 35) : more4 S (k + 1) = (more4 S k || begins (binS (cd k).1 (cd k).2) S) := by
  have h2 : k < codes4.length := by rw [codes4_length]; exact hk
  unfold more4
  rw [List.take_succ_eq_append_getElem h2, List.any_append]
  simp only [List.any_cons, List.any_nil, Bool.or_false]
  rw [← codes4_at hk]
  simp [h2]
theorem more4_all (S : ByteArray) : more4 S 35 = getMore codes4 S := by
  unfold more4 getMore
  rw [List.take_of_length_le (by rw [codes4_length]; omega)]

end Go.Proofs.YtmampneedmodeaaDoor
