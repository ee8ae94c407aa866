/- Plainly: a tree of codes as the list of its paths; the number that bits are; what Get and Put answer, in words of bits. Plainly: what Make, Get and Put of a tree answer, in words of bits. -/
import Derived.Test.YtichkoilhnkmkaaDoorPTree
/- Plainly: a tree of codes as the list of its paths; the number that bits are; what Get and Put answer, in words of bits. -/
namespace Go.Proofs.YtichkoilhnkmkaaDoor
open Go.RowKit Go.Shelf
set_option linter.unusedVariables false

/-! ### paths -/
/-- the place of a path in a tree; 0, if it has none -/
def place (P : List (List Nat)) (q : List Nat) : Nat := if q ∈ P then P.idxOf q else 0
structure Paths (P : List (List Nat)) : Prop where
  root : P[0]? = some []
  nd : P.Nodup
  closed : ∀ p b, p ++ [b] ∈ P → p ∈ P
  low : ∀ p ∈ P, ∀ b ∈ p, b < 2
theorem place_get {P : List (List Nat)} {q : List Nat} (h : q ∈ P) : P[place P q]? = some q := by
  unfold place
  rw [if_pos h, List.getElem?_eq_getElem (List.idxOf_lt_length_iff.2 h), List.getElem_idxOf]
theorem place_lt {P : List (List Nat)} {q : List Nat} (h : q ∈ P) : place P q < P.length := by
  unfold place
  rw [if_pos h]
  exact List.idxOf_lt_length_iff.2 h
theorem place_no {P : List (List Nat)} {q : List Nat} (h : q ∉ P) : place P q = 0 := by unfold place; rw [if_neg h]
theorem Paths.place_of {P : List (List Nat)} (h : Paths P) {q : List Nat} {i : Nat} (hi : P[i]? = some q) : place P q = i := by
  have hm : q ∈ P := List.mem_of_getElem? hi
  have h1 := place_get hm
  have h2 := place_lt hm
  obtain ⟨hi1, hi2⟩ := List.getElem?_eq_some_iff.1 hi
  obtain ⟨hj1, hj2⟩ := List.getElem?_eq_some_iff.1 h1
  exact (List.getElem_inj h.nd).1 (hj2.trans hi2.symm)
theorem Paths.zero {P : List (List Nat)} (h : Paths P) {q : List Nat} (hq : q ≠ []) : place P q = 0 ↔ q ∉ P := by
  refine ⟨fun e hm => ?_, place_no⟩
  have h1 := place_get hm
  rw [e, h.root] at h1
  exact hq (by simpa using h1.symm)
theorem Paths.pos {P : List (List Nat)} (h : Paths P) : 0 < P.length := by
  obtain ⟨h1, _⟩ := List.getElem?_eq_some_iff.1 h.root
  exact h1
theorem Paths.nil_mem {P : List (List Nat)} (h : Paths P) : [] ∈ P := List.mem_of_getElem? h.root
theorem place_snoc {P : List (List Nat)} {q : List Nat} (hq : q ∉ P) (r : List Nat) : place (P ++ [q]) r = if r = q then P.length else place P r := by
  unfold place
  by_cases e : r = q
  · subst e
    rw [if_pos rfl, if_pos (by simp), List.idxOf_append, if_neg hq]
    simp
  · rw [if_neg e]
    by_cases hr : r ∈ P
    · rw [if_pos hr, if_pos (by simp [hr]), List.idxOf_append, if_pos hr]
    · rw [if_neg hr, if_neg (by simp [hr, e])]
theorem Paths.snoc {P : List (List Nat)} (h : Paths P) {p : List Nat} {b : Nat} (hp : p ∈ P) (hb : b < 2) (hq : p ++ [b] ∉ P) : Paths (P ++ [p ++ [b]]) := by
  refine ⟨?_, ?_, ?_, ?_⟩
  · rw [List.getElem?_append_left h.pos]; exact h.root
  · rw [List.nodup_append]
    exact ⟨h.nd, by simp, fun a ha c hc => by simp at hc; subst hc; exact fun e => hq (e ▸ ha)⟩
  · intro r c hr
    rcases List.mem_append.1 hr with hr | hr
    · exact List.mem_append_left _ (h.closed r c hr)
    · have e := List.mem_singleton.1 hr
      have e1 := (List.append_inj' e rfl).1
      subst e1
      exact List.mem_append_left _ hp
  · intro r hr c hc
    rcases List.mem_append.1 hr with hr | hr
    · exact h.low r hr c hc
    · have e := List.mem_singleton.1 hr
      subst e
      rcases List.mem_append.1 hc with hc | hc
      · exact h.low p hp c hc
      · simp at hc; omega

/-- what stands at a node's place: where its child by a bit is -/
def kid (P : List (List Nat)) (i b : Nat) : Nat := place P ((P[i]?.getD []) ++ [b])
/-- the cells of a tree's nodes -/
def Cells (P : List (List Nat)) (xs : List Value) : Prop := xs.length = P.length * 2 ∧ ∀ i b, i < P.length → b < 2 → xs[i * 2 + b]? = some (.int .i64 (kid P i b))
theorem Cells.snoc {P : List (List Nat)} {xs : List Value} (h : Cells P xs) (hP : Paths P) {p : List Nat} {b k : Nat} (hk : P[k]? = some p) (hb : b < 2) (hq : p ++ [b] ∉ P) :
    Cells (P ++ [p ++ [b]]) ((xs ++ [Value.int .i64 0, Value.int .i64 0]).set (k * 2 + b) (.int .i64 P.length)) := by
  have hkl := (List.getElem?_eq_some_iff.1 hk).1
  refine ⟨by simp [h.1]; omega, fun i c hi hc => ?_⟩
  rw [List.length_append, List.length_singleton] at hi
  by_cases hin : i < P.length
  · have e1 : kid (P ++ [p ++ [b]]) i c = if P[i]?.getD [] ++ [c] = p ++ [b] then P.length else kid P i c := by
      unfold kid
      rw [place_snoc hq, List.getElem?_append_left hin]
    have e2 : (P[i]?.getD [] ++ [c] = p ++ [b]) ↔ (i = k ∧ c = b) := by
      constructor
      · intro e
        have := List.append_inj' e rfl
        refine ⟨?_, by simpa using this.2⟩
        have h1 : P[i]? = some p := by rw [← this.1, List.getElem?_eq_getElem hin]; rfl
        exact (hP.place_of h1).symm.trans (hP.place_of hk)
      · rintro ⟨rfl, rfl⟩
        rw [hk]; rfl
    rw [e1]
    by_cases e : i = k ∧ c = b
    · rw [if_pos (e2.2 e)]
      obtain ⟨rfl, rfl⟩ := e
      rw [List.getElem?_set_self (by simp [h.1]; omega)]
    · rw [if_neg (fun x => e (e2.1 x)), List.getElem?_set_ne (by omega), List.getElem?_append_left (by rw [h.1]; omega)]
      exact h.2 i c hin hc
  · have e : i = P.length := by omega
    subst e
    have hkid : kid (P ++ [p ++ [b]]) P.length c = 0 := by
      unfold kid
      have e0 : (P ++ [p ++ [b]])[P.length]?.getD [] = p ++ [b] := by simp
      rw [e0, place_snoc hq, if_neg (by intro e; have := congrArg List.length e; simp at this), place_no]
      exact fun hm => hq (hP.closed _ _ hm)
    rw [hkid, List.getElem?_set_ne (by omega), List.getElem?_append_right (by rw [h.1]; omega), h.1]
    have hc2 : c = 0 ∨ c = 1 := by omega
    rcases hc2 with rfl | rfl
    · simp
    · rw [show P.length * 2 + 1 - P.length * 2 = 1 by omega]; rfl

/-! ### codes -/
/-- no code begins another one, and none is empty -/
def Free (cs : List (List Nat)) : Prop := (∀ c ∈ cs, c ≠ []) ∧ cs.Pairwise fun a b => ¬ a <+: b ∧ ¬ b <+: a
/-- a tree's paths are what codes begin with -/
structure Holds (P cs : List (List Nat)) : Prop where
  paths : Paths P
  mem : ∀ p, p ∈ P ↔ p = [] ∨ ∃ c ∈ cs, p <+: c
theorem Free.not_prefix {cs : List (List Nat)} (h : Free cs) {a b : List Nat} (ha : a ∈ cs) (hb : b ∈ cs) (hp : a <+: b) : a = b := by
  obtain ⟨i, hi, rfl⟩ := List.getElem_of_mem ha
  obtain ⟨j, hj, rfl⟩ := List.getElem_of_mem hb
  have := List.pairwise_iff_getElem.1 h.2
  rcases Nat.lt_trichotomy i j with hl | rfl | hl
  · exact absurd hp (this i j hi hj hl).1
  · rfl
  · exact absurd hp (this j i hj hi hl).2
theorem Free.nodup {cs : List (List Nat)} (h : Free cs) : cs.Nodup := h.2.imp fun ⟨h1, _⟩ e => h1 (e ▸ List.prefix_refl _)
/-- a node without children is the end of a code -/
theorem Holds.leaf {P cs : List (List Nat)} (h : Holds P cs) (hf : Free cs) {q : List Nat} (hq : q ∈ P) (h0 : q ≠ []) : (place P (q ++ [0]) = 0 ∧ place P (q ++ [1]) = 0) ↔ q ∈ cs := by
  rw [h.paths.zero (by simp), h.paths.zero (by simp)]
  constructor
  · rintro ⟨a, b⟩
    rcases (h.mem q).1 hq with rfl | ⟨c, hc, t, rfl⟩
    · exact absurd rfl h0
    · cases t with
      | nil => simpa using hc
      | cons x t =>
        have hx : q ++ [x] ∈ P := (h.mem _).2 (.inr ⟨_, hc, t, by simp⟩)
        have := h.paths.low _ hx x (by simp)
        have hx2 : x = 0 ∨ x = 1 := by omega
        rcases hx2 with rfl | rfl
        · exact absurd hx a
        · exact absurd hx b
  · intro hc
    have no : ∀ x, q ++ [x] ∉ P := fun x hx => by
      rcases (h.mem _).1 hx with e | ⟨c, hc', hp⟩
      · simp at e
      · have hqc : q <+: c := (List.prefix_append q [x]).trans hp
        have := hf.not_prefix hc hc' hqc
        subst this
        have := hp.length_le
        simp at this
        omega
    exact ⟨no 0, no 1⟩
theorem holds_root : Holds [[]] [] := ⟨⟨rfl, by simp, by simp, by simp⟩, by simp⟩
theorem cells_root : Cells [[]] [.int .i64 0, .int .i64 0] := by
  refine ⟨rfl, fun i b hi hb => ?_⟩
  simp at hi
  subst hi
  have hk : kid [[]] 0 b = 0 := by unfold kid; exact place_no (by simp)
  rw [hk]
  have hb2 : b = 0 ∨ b = 1 := by omega
  rcases hb2 with rfl | rfl <;> rfl

/-! ### growing by a code -/
/-- how a tree is, behind k bits of a text were laid -/
structure Grown (P0 cs : List (List Nat)) (T : List Nat) (k : Nat) (P : List (List Nat)) (fresh : Bool) : Prop where
  paths : Paths P
  mem : ∀ p, p ∈ P ↔ p ∈ P0 ∨ p <+: T.take k
  no : ∀ c ∈ cs, ¬ c <+: T.take k
  new : fresh = decide (0 < k ∧ T.take k ∉ P0)
  many : P.length ≤ P0.length + k
  ext : ∃ R, P = P0 ++ R
theorem grown_start {P0 cs : List (List Nat)} (h : Holds P0 cs) (hf : Free cs) (T : List Nat) : Grown P0 cs T 0 P0 false :=
  ⟨h.paths, fun p => by simp; intro e; subst e; exact h.paths.nil_mem, fun c hc hp => hf.1 c hc (by simpa using hp), by simp, by omega, [], by simp⟩
theorem Grown.here {P0 cs P : List (List Nat)} {T : List Nat} {k : Nat} {f : Bool} (h : Grown P0 cs T k P f) : T.take k ∈ P := (h.mem _).2 (.inr (List.prefix_refl _))
theorem take_succ' {T : List Nat} {k b : Nat} (hk : T[k]? = some b) : T.take (k + 1) = T.take k ++ [b] := by
  rw [List.take_add_one, hk]; rfl
theorem Grown.old {P0 cs P : List (List Nat)} {T : List Nat} {k b : Nat} {f : Bool} (h : Grown P0 cs T k P f) (hk : T[k]? = some b) (hm : T.take k ++ [b] ∈ P) : T.take k ++ [b] ∈ P0 := by
  rcases (h.mem _).1 hm with h1 | h1
  · exact h1
  · have := h1.length_le
    simp at this
    omega
/-- a new node -/
theorem Grown.lay {P0 cs P : List (List Nat)} {T : List Nat} {k b : Nat} {f : Bool} (h : Grown P0 cs T k P f) (hH : Holds P0 cs) (hk : T[k]? = some b) (hb : b < 2) (hm : T.take k ++ [b] ∉ P) : Grown P0 cs T (k + 1) (P ++ [T.take k ++ [b]]) true := by
  have e := take_succ' hk
  have h0 : T.take (k + 1) ∉ P0 := by rw [e]; exact fun hx => hm ((h.mem _).2 (.inl hx))
  obtain ⟨R, hR⟩ := h.ext
  refine ⟨h.paths.snoc h.here hb hm, fun p => ?_, fun c hc hp => ?_, ?_, ?_, R ++ [T.take k ++ [b]], by rw [hR, List.append_assoc]⟩
  · rw [List.mem_append, List.mem_singleton, h.mem, e, List.prefix_concat_iff, or_assoc]
    constructor
    · rintro (h1 | h1 | h1)
      · exact .inl h1
      · exact .inr (.inr h1)
      · exact .inr (.inl h1)
    · rintro (h1 | h1 | h1)
      · exact .inl h1
      · exact .inr (.inr h1)
      · exact .inr (.inl h1)
  · rw [e, List.prefix_concat_iff] at hp
    rcases hp with rfl | hp
    · exact hm ((h.mem _).2 (.inl ((hH.mem _).2 (.inr ⟨_, hc, List.prefix_refl _⟩))))
    · exact h.no c hc hp
  · have : decide (0 < k + 1 ∧ T.take (k + 1) ∉ P0) = true := decide_eq_true ⟨by omega, h0⟩
    exact this.symm
  · have := h.many; simp; omega
/-- a node that is there, and is no end -/
theorem Grown.go {P0 cs P : List (List Nat)} {T : List Nat} {k b : Nat} {f : Bool} (h : Grown P0 cs T k P f) (hk : T[k]? = some b) (hm : T.take k ++ [b] ∈ P) (hne : T.take k ++ [b] ∉ cs) : Grown P0 cs T (k + 1) P false := by
  have e := take_succ' hk
  have h0 := h.old hk hm
  refine ⟨h.paths, fun p => ?_, fun c hc hp => ?_, ?_, by have := h.many; omega, h.ext⟩
  · rw [h.mem, e, List.prefix_concat_iff]
    constructor
    · rintro (h1 | h1)
      · exact .inl h1
      · exact .inr (.inr h1)
    · rintro (h1 | h1 | h1)
      · exact .inl h1
      · subst h1; exact .inl h0
      · exact .inr h1
  · rw [e, List.prefix_concat_iff] at hp
    rcases hp with rfl | hp
    · exact hne hc
    · exact h.no c hc hp
  · have : decide (0 < k + 1 ∧ T.take (k + 1) ∉ P0) = false := decide_eq_false (by rw [e]; exact fun ⟨_, h2⟩ => h2 h0)
    exact this.symm
/-- is the node an end? -/
theorem Grown.leaf {P0 cs P : List (List Nat)} {T : List Nat} {k b : Nat} {f : Bool} (h : Grown P0 cs T k P f) (hH : Holds P0 cs) (hf : Free cs) (hk : T[k]? = some b) (hm : T.take k ++ [b] ∈ P) :
    (place P (T.take k ++ [b] ++ [0]) = 0 ∧ place P (T.take k ++ [b] ++ [1]) = 0) ↔ T.take k ++ [b] ∈ cs := by
  rw [← hH.leaf hf (h.old hk hm) (by simp)]
  have same : ∀ x, T.take k ++ [b] ++ [x] ∈ P ↔ T.take k ++ [b] ++ [x] ∈ P0 := fun x => by
    rw [h.mem]
    refine ⟨fun h1 => h1.elim id fun h1 => ?_, .inl⟩
    have := h1.length_le
    simp at this
    omega
  rw [h.paths.zero (by simp), h.paths.zero (by simp), hH.paths.zero (by simp), hH.paths.zero (by simp), same, same]
theorem Grown.place_old {P0 cs P : List (List Nat)} {T : List Nat} {k : Nat} {f : Bool} (h : Grown P0 cs T k P f) {q : List Nat} (hq : q ∈ P0) : place P q = place P0 q := by
  obtain ⟨R, rfl⟩ := h.ext
  unfold place
  rw [if_pos hq, if_pos (by simp [hq]), List.idxOf_append, if_pos hq]
theorem Grown.done {P0 cs P : List (List Nat)} {T : List Nat} (h : Grown P0 cs T T.length P true) (hH : Holds P0 cs) (hf : Free cs) : Holds P (cs ++ [T]) ∧ Free (cs ++ [T]) := by
  have hm := h.mem
  have hno := h.no
  have hnew := h.new
  rw [List.take_length] at hm hno hnew
  obtain ⟨h1, h2⟩ : 0 < T.length ∧ T ∉ P0 := of_decide_eq_true hnew.symm
  refine ⟨⟨h.paths, fun p => ?_⟩, ?_, ?_⟩
  · rw [hm, hH.mem]
    simp only [List.mem_append, List.mem_singleton]
    constructor
    · rintro ((h | ⟨c, hc, hp⟩) | h)
      · exact .inl h
      · exact .inr ⟨c, .inl hc, hp⟩
      · exact .inr ⟨T, .inr rfl, h⟩
    · rintro (h | ⟨c, (hc | rfl), hp⟩)
      · exact .inl (.inl h)
      · exact .inl (.inr ⟨c, hc, hp⟩)
      · exact .inr hp
  · intro c hc
    rcases List.mem_append.1 hc with hc | hc
    · exact hf.1 c hc
    · simp at hc; subst hc; intro e; subst e; simp at h1
  · rw [List.pairwise_append]
    refine ⟨hf.2, by simp, fun a ha b hb => ?_⟩
    simp at hb
    subst hb
    exact ⟨hno a ha, fun hp => h2 ((hH.mem _).2 (.inr ⟨a, ha, hp⟩))⟩
theorem Grown.stale {P0 cs P : List (List Nat)} {T : List Nat} (h : Grown P0 cs T T.length P false) (hH : Holds P0 cs) (h0 : T ≠ []) : ∃ c ∈ cs, T <+: c := by
  have hnew := h.new
  rw [List.take_length] at hnew
  have h1 : ¬ (0 < T.length ∧ T ∉ P0) := of_decide_eq_false hnew.symm
  have hl : 0 < T.length := List.length_pos_iff.2 h0
  have hT : T ∈ P0 := by
    false_or_by_contra
    rename_i hx
    exact h1 ⟨hl, hx⟩
  rcases (hH.mem T).1 hT with e | e
  · exact absurd e h0
  · exact e

/-! ### texts -/
/-- the bits that a text spells -/
def bitsL (s : ByteArray) : List Nat := s.data.toList.map fun c => c.toNat - 48
theorem bitsL_len (s : ByteArray) : (bitsL s).length = s.size := by simp [bitsL]
theorem bitsL_low {s : ByteArray} (h : AllBits s) : ∀ b ∈ bitsL s, b < 2 := by
  intro b hb
  unfold bitsL at hb
  rw [List.mem_map] at hb
  obtain ⟨c, hc, rfl⟩ := hb
  obtain ⟨i, hi, rfl⟩ := List.getElem_of_mem hc
  have e0 : s.data.toList[i] = s[i]'(by simpa using hi) := by simp; rfl
  rw [e0]
  rcases h i (by simpa using hi) with e | e
  · rw [e]; decide
  · rw [e]; decide
theorem map_prefix_inj {l l' : List UInt8} (h : ∀ c ∈ l, c = 48 ∨ c = 49) (h' : ∀ c ∈ l', c = 48 ∨ c = 49) (hp : (l.map fun c => c.toNat - 48) <+: (l'.map fun c => c.toNat - 48)) : l <+: l' := by
  induction l generalizing l' with
  | nil => exact List.nil_prefix
  | cons x l ih =>
    cases l' with
    | nil => simp at hp
    | cons y l' =>
      simp only [List.map_cons, List.cons_prefix_cons] at hp
      have hx := h x (by simp)
      have hy := h' y (by simp)
      have e : x = y := by
        have h1 := hp.1
        rcases hx with rfl | rfl <;> rcases hy with rfl | rfl <;> first | rfl | exact absurd h1 (by decide)
      rw [e, List.cons_prefix_cons]
      exact ⟨rfl, ih (fun c hc => h c (by simp [hc])) (fun c hc => h' c (by simp [hc])) hp.2⟩
theorem allBits_list {s : ByteArray} (h : AllBits s) : ∀ c ∈ s.data.toList, c = 48 ∨ c = 49 := by
  intro c hc
  obtain ⟨i, hi, rfl⟩ := List.getElem_of_mem hc
  have e0 : s.data.toList[i] = s[i]'(by simpa using hi) := by simp; rfl
  rw [e0]
  exact h i (by simpa using hi)
theorem begins_iff {s t : ByteArray} (hs : AllBits s) (ht : AllBits t) : begins s t = true ↔ bitsL t <+: bitsL s := by
  unfold begins
  rw [decide_eq_true_eq]
  exact ⟨fun h => h.map _, map_prefix_inj (allBits_list ht) (allBits_list hs)⟩
theorem codeB_all {s : ByteArray} (h : codeB s = true) : AllBits s ∧ 1 ≤ s.size ∧ s.size ≤ 24 := by
  unfold codeB at h
  simp only [Bool.and_eq_true, decide_eq_true_eq] at h
  exact ⟨(allB_iff s).1 h.1.1, h.1.2, h.2⟩

/-! ### the number that bits are -/
theorem list_snoc {α : Type} {motive : List α → Prop} (l : List α) (nil : motive []) (snoc : ∀ l b, motive l → motive (l ++ [b])) : motive l := by
  have h : ∀ l : List α, motive l.reverse := fun l => by
    induction l with
    | nil => exact nil
    | cons x l ih => rw [List.reverse_cons]; exact snoc _ _ ih
  have := h l.reverse
  rwa [List.reverse_reverse] at this
def numOf (l : List Nat) : Nat := l.foldl (fun x b => 2 * x + b) 0
theorem numOf_snoc (l : List Nat) (b : Nat) : numOf (l ++ [b]) = 2 * numOf l + b := by simp [numOf]
theorem numOf_lt {l : List Nat} (h : ∀ b ∈ l, b < 2) : numOf l < 2 ^ l.length := by
  induction l using list_snoc with
  | nil => decide
  | snoc l b ih =>
    have := ih (fun c hc => h c (by simp [hc]))
    have hb := h b (by simp)
    rw [numOf_snoc, List.length_append, List.length_singleton, Nat.pow_succ]
    omega
theorem numOf_bit {l : List Nat} (h : ∀ b ∈ l, b < 2) (i : Nat) (hi : i < l.length) : numOf l / 2 ^ (l.length - 1 - i) % 2 = l[i] := by
  induction l using list_snoc generalizing i with
  | nil => simp at hi
  | snoc l b ih =>
    have hb := h b (by simp)
    rw [numOf_snoc, List.length_append, List.length_singleton]
    by_cases e : i < l.length
    · rw [List.getElem_append_left e, ← ih (fun c hc => h c (by simp [hc])) i e]
      rw [show l.length + 1 - 1 - i = (l.length - 1 - i) + 1 by omega, Nat.pow_succ, Nat.mul_comm (2 ^ _) 2, ← Nat.div_div_eq_div_mul]
      congr 2
      omega
    · have : i = l.length := by simp at hi; omega
      subst this
      simp
      omega

end Go.Proofs.YtichkoilhnkmkaaDoor

/- Plainly: what Make, Get and Put of a tree answer, in words of bits. -/
namespace Go.Proofs.YtichkoilhnkmkaaDoor
open Go.RowKit Go.Shelf
set_option linter.unusedVariables false

/-- the bits from a place on: so many of them -/
def zbits (zs : List UInt8) (a n : Nat) : List Nat := (List.range n).map fun k => bt zs (a + k)
theorem zbits_len (zs : List UInt8) (a n : Nat) : (zbits zs a n).length = n := by simp [zbits]
theorem zbits_succ (zs : List UInt8) (a n : Nat) : zbits zs a (n + 1) = zbits zs a n ++ [bt zs (a + n)] := by simp [zbits, List.range_succ]
theorem zbits_take (zs : List UInt8) (a n m : Nat) (h : m ≤ n) : (zbits zs a n).take m = zbits zs a m := by
  simp [zbits, ← List.map_take, List.take_range, Nat.min_eq_left h]
theorem prefix_zbits {zs : List UInt8} {a n : Nat} {p : List Nat} (h : p <+: zbits zs a n) : p = zbits zs a p.length ∧ p.length ≤ n := by
  have hl := h.length_le
  rw [zbits_len] at hl
  exact ⟨(List.prefix_iff_eq_take.1 h).trans (zbits_take zs a n _ hl), hl⟩
theorem zbits_prefix {zs : List UInt8} {a m n : Nat} (h : m ≤ n) : zbits zs a m <+: zbits zs a n := by rw [← zbits_take zs a n m h]; exact List.take_prefix _ _
theorem seen_bits (zs : List UInt8) (a n : Nat) : bitsL (seenB zs a n) = zbits zs a n := by
  unfold bitsL seenB seenL zbits
  simp only [List.map_map]
  apply List.map_congr_left
  intro k _
  have := bt_le zs (a + k)
  show (UInt8.ofNat (48 + bt zs (a + k))).toNat - 48 = _
  rw [UInt8.toNat_ofNat', Nat.mod_eq_of_lt (by omega)]
  omega
theorem seen_all (zs : List UInt8) (a n : Nat) : AllBits (seenB zs a n) := by
  intro i hi
  have e : (seenB zs a n)[i] = UInt8.ofNat (48 + bt zs (a + i)) := by
    show (seenL zs a n).toArray[i]'(by simpa [seenB, ByteArray.size] using hi) = _
    simp [seenL]
  rw [e]
  have := bt_le zs (a + i)
  rcases (by omega : bt zs (a + i) = 0 ∨ bt zs (a + i) = 1) with h | h
  · left; rw [h]; rfl
  · right; rw [h]; rfl

/-- codes that a tree may have -/
def CodesOk (codes : List ByteArray) : Prop := (∀ s ∈ codes, codeB s = true) ∧ Free (codes.map bitsL)
theorem CodesOk.at_ {codes : List ByteArray} (h : CodesOk codes) {i : Nat} (hi : i < codes.length) : AllBits codes[i] ∧ 1 ≤ codes[i].size ∧ codes[i].size ≤ 24 := codeB_all (h.1 _ (List.getElem_mem hi))
theorem CodesOk.mem {codes : List ByteArray} {i : Nat} (hi : i < codes.length) : bitsL codes[i] ∈ codes.map bitsL := List.mem_map_of_mem (List.getElem_mem hi)
theorem CodesOk.inj {codes : List ByteArray} (h : CodesOk codes) {i j : Nat} (hi : i < codes.length) (hj : j < codes.length) (e : bitsL codes[i] = bitsL codes[j]) : i = j := by
  have hn := h.2.nodup
  have h1 : (codes.map bitsL)[i]'(by simpa using hi) = (codes.map bitsL)[j]'(by simpa using hj) := by simpa using e
  exact (List.getElem_inj hn).1 h1
/-- of no code the bits begin with one -/
def Open (cs : List (List Nat)) (p : List Nat) : Prop := ∀ c ∈ cs, ¬ c <+: p

theorem getT_nat (codes : List ByteArray) (nums : List Int) (zs : List UInt8) (a : Nat) : getT codes nums zs (a : Int) =
    .tuple #[.int .i64 (getX codes nums (seenB zs a (seenN zs a))), .int .i64 (getN codes (seenB zs a (seenN zs a))), .int .i64 (getE3 codes (seenB zs a (seenN zs a)))] := by
  unfold getT
  rw [if_neg (by omega), Int.toNat_natCast]
theorem getI_bits {codes : List ByteArray} (h : CodesOk codes) {s : ByteArray} (hs : AllBits s) {i : Nat} (hi : i < codes.length) (hp : bitsL codes[i] <+: bitsL s) : getI codes s = some i := by
  unfold getI
  rw [List.findIdx?_eq_some_iff_getElem]
  refine ⟨hi, (begins_iff hs (h.at_ hi).1).2 hp, fun j hj => ?_⟩
  intro hx
  have hj' : j < codes.length := by omega
  have hpj := (begins_iff hs (h.at_ hj').1).1 hx
  have : bitsL codes[i] = bitsL codes[j] := by
    rcases Nat.le_total (bitsL codes[i]).length (bitsL codes[j]).length with hl | hl
    · exact h.2.not_prefix (CodesOk.mem hi) (CodesOk.mem hj') (List.prefix_of_prefix_length_le hp hpj hl)
    · exact (h.2.not_prefix (CodesOk.mem hj') (CodesOk.mem hi) (List.prefix_of_prefix_length_le hpj hp hl)).symm
  have := h.inj hi hj' this
  omega
theorem getI_open {codes : List ByteArray} (h : CodesOk codes) {s : ByteArray} (hs : AllBits s) (ho : Open (codes.map bitsL) (bitsL s)) : getI codes s = none := by
  unfold getI
  rw [List.findIdx?_eq_none_iff]
  intro c hc
  obtain ⟨i, hi, rfl⟩ := List.getElem_of_mem hc
  rw [Bool.eq_false_iff]
  intro hx
  exact ho _ (CodesOk.mem hi) ((begins_iff hs (h.at_ hi).1).1 hx)
theorem getT_found {codes : List ByteArray} {nums : List Int} {zs : List UInt8} {a n i : Nat} (h : CodesOk codes) (hi : i < codes.length) (hn : n ≤ 8 * zs.length - a) (he : bitsL codes[i] = zbits zs a n) :
    getT codes nums zs (a : Int) = .tuple #[.int .i64 (nums[i]?.getD 0), .int .i64 n, .int .i64 0] := by
  have h24 := h.at_ hi
  have hlen : codes[i].size = n := by rw [← bitsL_len, he, zbits_len]
  have hg : getI codes (seenB zs a (seenN zs a)) = some i := by
    refine getI_bits h (seen_all _ _ _) hi ?_
    rw [seen_bits, he]
    exact zbits_prefix (by unfold seenN; omega)
  rw [getT_nat]
  unfold getX getN getE3
  rw [hg]
  simp [hi, hlen]
theorem getT_none {codes : List ByteArray} {nums : List Int} {zs : List UInt8} {a : Nat} (h : CodesOk codes) (ho : Open (codes.map bitsL) (zbits zs a (seenN zs a))) :
    getT codes nums zs (a : Int) = .tuple #[.int .i64 0, .int .i64 0, .int .i64 (if getMore codes (seenB zs a (seenN zs a)) then 5 else 7)] := by
  have hg : getI codes (seenB zs a (seenN zs a)) = none := getI_open h (seen_all _ _ _) (by rw [seen_bits]; exact ho)
  rw [getT_nat]
  unfold getX getN getE3
  rw [hg]
theorem getT_more {codes : List ByteArray} {nums : List Int} {zs : List UInt8} {a n : Nat} (h : CodesOk codes) (hn : n = 8 * zs.length - a) (ho : Open (codes.map bitsL) (zbits zs a n))
    (hp : ∃ c ∈ codes.map bitsL, zbits zs a n <+: c) : getT codes nums zs (a : Int) = .tuple #[.int .i64 0, .int .i64 0, .int .i64 5] := by
  obtain ⟨c, hc, hp⟩ := hp
  obtain ⟨i, hi, rfl⟩ := List.getElem_of_mem hc
  rw [List.length_map] at hi
  rw [List.getElem_map] at hp hc
  have h24 := h.at_ hi
  have hl := hp.length_le
  rw [zbits_len, bitsL_len] at hl
  have hs : seenN zs a = n := by unfold seenN; omega
  rw [getT_none h (by rw [hs]; exact ho), hs]
  have : getMore codes (seenB zs a n) = true := by
    unfold getMore
    rw [List.any_eq_true]
    exact ⟨codes[i], List.getElem_mem hi, (begins_iff h24.1 (seen_all _ _ _)).2 (by rw [seen_bits]; exact hp)⟩
  rw [this, if_pos rfl]
theorem getT_code {codes : List ByteArray} {nums : List Int} {zs : List UInt8} {a n : Nat} (h : CodesOk codes) (h0 : 0 < codes.length) (hn : n < 8 * zs.length - a) (ho : Open (codes.map bitsL) (zbits zs a n))
    (hp : n = 0 ∨ ∃ c ∈ codes.map bitsL, zbits zs a n <+: c) (hno : ∀ c ∈ codes.map bitsL, ¬ zbits zs a (n + 1) <+: c) : getT codes nums zs (a : Int) = .tuple #[.int .i64 0, .int .i64 0, .int .i64 7] := by
  have hn24 : n < 24 := by
    rcases hp with rfl | ⟨c, hc, hp⟩
    · omega
    · obtain ⟨i, hi, rfl⟩ := List.getElem_of_mem hc
      rw [List.length_map] at hi
      rw [List.getElem_map] at hp hc
      have h24 := h.at_ hi
      have hl := hp.length_le
      rw [zbits_len, bitsL_len] at hl
      by_cases e : n = codes[i].size
      · have := hp.eq_of_length (by rw [zbits_len, bitsL_len]; exact e)
        exact absurd (by rw [← this]; exact List.prefix_refl _) (ho _ hc)
      · omega
  have hs : n + 1 ≤ seenN zs a := by unfold seenN; omega
  have hopen : Open (codes.map bitsL) (zbits zs a (seenN zs a)) := by
    intro c hc hx
    obtain ⟨e, hl⟩ := prefix_zbits hx
    by_cases hcn : c.length ≤ n
    · exact ho c hc (by rw [e]; exact zbits_prefix hcn)
    · exact hno c hc (by rw [e]; exact zbits_prefix (by omega))
  rw [getT_none h hopen]
  have : getMore codes (seenB zs a (seenN zs a)) = false := by
    unfold getMore
    rw [List.any_eq_false]
    intro c hc
    obtain ⟨i, hi, rfl⟩ := List.getElem_of_mem hc
    intro hx
    have := (begins_iff (h.at_ hi).1 (seen_all _ _ _)).1 hx
    rw [seen_bits] at this
    exact hno _ (CodesOk.mem hi) ((zbits_prefix hs).trans this)
  rw [this]
  rfl

/-! ### Make -/
theorem makeE_free {codes : List ByteArray} {nums : List Int} (hl : codes.length = nums.length) (h0 : 0 < codes.length) (h3 : codes.length ≤ 300) (h : CodesOk codes) : makeE codes nums = 0 := by
  unfold makeE
  rw [if_neg (by omega), if_pos (List.all_eq_true.2 h.1), if_neg]
  intro hc
  have : clash codes = false := clash_false fun i hi k hk => by
    unfold clashAt
    by_cases e : i = k
    · subst e; simp
    · rw [decide_eq_true e, Bool.true_and, Bool.eq_false_iff]
      intro hx
      simp only [List.getElem?_eq_getElem hi, List.getElem?_eq_getElem hk, Option.getD_some] at hx
      have := (begins_iff (h.at_ hi).1 (h.at_ hk).1).1 hx
      exact e (h.inj hi hk (h.2.not_prefix (CodesOk.mem hk) (CodesOk.mem hi) this).symm)
  rw [this] at hc
  cases hc
theorem makeE_clash {codes : List ByteArray} {nums : List Int} (hl : codes.length = nums.length) (h3 : codes.length ≤ 300) (h : ∀ s ∈ codes, codeB s = true) {i : Nat} (hi : i < codes.length)
    (hc : ∃ c ∈ (codes.take i).map bitsL, c <+: bitsL codes[i] ∨ bitsL codes[i] <+: c) : makeE codes nums = 14 := by
  obtain ⟨c, hc, hp⟩ := hc
  obtain ⟨k, hk, rfl⟩ := List.getElem_of_mem hc
  rw [List.length_map, List.length_take] at hk
  have hk2 : k < codes.length := by omega
  have e : ((codes.take i).map bitsL)[k]'(by simpa using hk) = bitsL codes[k] := by simp
  rw [e] at hp
  have ai := codeB_all (h _ (List.getElem_mem hi))
  have ak := codeB_all (h _ (List.getElem_mem hk2))
  have hcl : clash codes = true := by
    rcases hp with hp | hp
    · refine clash_true hi hk2 ?_
      unfold clashAt
      rw [decide_eq_true (by omega : i ≠ k), Bool.true_and]
      simp only [List.getElem?_eq_getElem hi, List.getElem?_eq_getElem hk2, Option.getD_some]
      exact (begins_iff ai.1 ak.1).2 hp
    · refine clash_true hk2 hi ?_
      unfold clashAt
      rw [decide_eq_true (by omega : k ≠ i), Bool.true_and]
      simp only [List.getElem?_eq_getElem hi, List.getElem?_eq_getElem hk2, Option.getD_some]
      exact (begins_iff ak.1 ai.1).2 hp
  unfold makeE
  rw [if_neg (by omega), if_pos (List.all_eq_true.2 h), if_pos hcl]
theorem makeE_len {codes : List ByteArray} {nums : List Int} (h : codes.length ≠ nums.length ∨ codes.length = 0 ∨ 300 < codes.length) : makeE codes nums = 2 := by
  unfold makeE
  rw [if_pos h]
theorem makeE_bad {codes : List ByteArray} {nums : List Int} (h : codes.all codeB = false) : makeE codes nums = 2 := by
  unfold makeE
  rw [h]
  by_cases hb : codes.length ≠ nums.length ∨ codes.length = 0 ∨ 300 < codes.length
  · rw [if_pos hb]
  · rw [if_neg hb]; rfl

/-! ### Put -/
theorem putI_snoc (nums : List Int) (n x : Int) : putI (nums ++ [n]) x = match putI nums x with | some i => some i | none => if n = x then some nums.length else none := by
  unfold putI
  rw [List.findIdx?_append]
  cases h : nums.findIdx? (fun n => n == x) with
  | some i => rfl
  | none =>
    simp only [Option.none_or, List.findIdx?_cons]
    by_cases e : n = x
    · simp [e]
    · simp [e]

end Go.Proofs.YtichkoilhnkmkaaDoor
