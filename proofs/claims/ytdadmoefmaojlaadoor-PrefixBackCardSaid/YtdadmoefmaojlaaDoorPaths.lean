/- Plainly: a tree of codes as the list of its paths; the number that bits are; what Get and Put answer, in words of bits. -/
import Derived.Test.YtdadmoefmaojlaaDoorPTree
namespace Go.Proofs.YtdadmoefmaojlaaDoor
open Go.RowKit Go.Shelf
set_option linter.unusedVariables false

/-! ### paths -/
/-- the place of a path in a tree; 0, if it has none -/
def place (P : List (List Nat)) (q : List Nat) : Nat := if q ∈ P then P.idxOf q else 0
structure Paths (P : List (List Nat)) : Prop where
  root : P[0]? = some []
  nd : P.Nodup
  closed : ∀ p b, p ++ [b] ∈ P → p ∈ P
  low : ∀ p ∈ P, ∀ b ∈ p, b < 2
theorem place_get {P : List (List Nat)} {q : List Nat} (h : q ∈ P) : P[place P q]? = some q := by
  unfold place
  rw [if_pos h, List.getElem?_eq_getElem (List.idxOf_lt_length_iff.2 h), List.getElem_idxOf]
theorem place_lt {P : List (List Nat)} {q : List Nat} (h : q ∈ P) : place P q < P.length := by
  unfold place
  rw [if_pos h]
  exact List.idxOf_lt_length_iff.2 h
theorem place_no {P : List (List Nat)} {q : List Nat} (h : q ∉ P) : place P q = 0 := by unfold place; rw [if_neg h]
theorem Paths.place_of {P : List (List Nat)} (h : Paths P) {q : List Nat} {i : Nat} (hi : P[i]? = some q) : place P q = i := by
  have hm : q ∈ P := List.mem_of_getElem? hi
  have h1 := place_get hm
  have h2 := place_lt hm
  obtain ⟨hi1, hi2⟩ := List.getElem?_eq_some_iff.1 hi
  obtain ⟨hj1, hj2⟩ := List.getElem?_eq_some_iff.1 h1
  exact (List.getElem_inj h.nd).1 (hj2.trans hi2.symm)
theorem Paths.zero {P : List (List Nat)} (h : Paths P) {q : List Nat} (hq : q ≠ []) : place P q = 0 ↔ q ∉ P := by
  refine ⟨fun e hm => ?_, place_no⟩
  have h1 := place_get hm
  rw [e, h.root] at h1
  exact hq (by simpa using h1.symm)
theorem Paths.pos {P : List (List Nat)} (h : Paths P) : 0 < P.length := by
  obtain ⟨h1, _⟩ := List.getElem?_eq_some_iff.1 h.root
  exact h1
theorem Paths.nil_mem {P : List (List Nat)} (h : Paths P) : [] ∈ P := List.mem_of_getElem? h.root
theorem place_snoc {P : List (List Nat)} {q : List Nat} (hq : q ∉ P) (r : List Nat) : place (P ++ [q]) r = if r = q then P.length else place P r := by
  unfold place
  by_cases e : r = q
  · subst e
    rw [if_pos rfl, if_pos (by simp), List.idxOf_append, if_neg hq]
    simp
  · rw [if_neg e]
    by_cases hr : r ∈ P
    · rw [if_pos hr, if_pos (by simp [hr]), List.idxOf_append, if_pos hr]
    · rw [if_neg hr, if_neg (by simp [hr, e])]
theorem Paths.snoc {P : List (List Nat)} (h : Paths P) {p : List Nat} {b : Nat} (hp : p ∈ P) (hb : b < 2) (hq : p ++ [b] ∉ P) : Paths (P ++ [p ++ [b]]) := by
  refine ⟨?_, ?_, ?_, ?_⟩
  · rw [List.getElem?_append_left h.pos]; exact h.root
  · rw [List.nodup_append]
    exact ⟨h.nd, by simp, fun a ha c hc => by simp at hc; subst hc; exact fun e => hq (e ▸ ha)⟩
  · intro r c hr
    rcases List.mem_append.1 hr with hr | hr
    · exact List.mem_append_left _ (h.closed r c hr)
    · have e := List.mem_singleton.1 hr
      have e1 := (List.append_inj' e rfl).1
      subst e1
      exact List.mem_append_left _ hp
  · intro r hr c hc
    rcases List.mem_append.1 hr with hr | hr
    · exact h.low r hr c hc
    · have e := List.mem_singleton.1 hr
      subst e
      rcases List.mem_append.1 hc with hc | hc
      · exact h.low p hp c hc
      · simp at hc; omega

/-- what stands at a node's place: where its child by a bit is -/
def kid (P : List (List Nat)) (i b : Nat) : Nat := place P ((P[i]?.getD []) ++ [b])
/-- the cells of a tree's nodes -/
def Cells (P : List (List Nat)) (xs : List Value) : Prop := xs.length = P.length * 2 ∧ ∀ i b, i < P.length → b < 2 → xs[i * 2 + b]? = some (.int .i64 (kid P i b))
theorem Cells.snoc {P : List (List Nat)} {xs : List Value} (h : Cells P xs) (hP : Paths P) {p : List Nat} {b k : Nat} (hk : P[k]? = some p) (hb : b < 2) (hq : p ++ [b] ∉ P) :
    Cells (P ++ [p ++ [b]]) ((xs ++ [Value.int .i64 0, Value.int .i64 0]).set (k * 2 + b) (.int .i64 P.length)) := by
  have hkl := (List.getElem?_eq_some_iff.1 hk).1
  refine ⟨by simp [h.1]; omega, fun i c hi hc => ?_⟩
  rw [List.length_append, List.length_singleton] at hi
  by_cases hin : i < P.length
  · have e1 : kid (P ++ [p ++ [b]]) i c = if P[i]?.getD [] ++ [c] = p ++ [b] then P.length else kid P i c := by
      unfold kid
      rw [place_snoc hq, List.getElem?_append_left hin]
    have e2 : (P[i]?.getD [] ++ [c] = p ++ [b]) ↔ (i = k ∧ c = b) := by
      constructor
      · intro e
        have := List.append_inj' e rfl
        refine ⟨?_, by simpa using this.2⟩
        have h1 : P[i]? = some p := by rw [← this.1, List.getElem?_eq_getElem hin]; rfl
        exact (hP.place_of h1).symm.trans (hP.place_of hk)
      · rintro ⟨rfl, rfl⟩
        rw [hk]; rfl
    rw [e1]
    by_cases e : i = k ∧ c = b
    · rw [if_pos (e2.2 e)]
      obtain ⟨rfl, rfl⟩ := e
      rw [List.getElem?_set_self (by simp [h.1]; omega)]
    · rw [if_neg (fun x => e (e2.1 x)), List.getElem?_set_ne (by omega), List.getElem?_append_left (by rw [h.1]; omega)]
      exact h.2 i c hin hc
  · have e : i = P.length := by omega
    subst e
    have hkid : kid (P ++ [p ++ [b]]) P.length c = 0 := by
      unfold kid
      have e0 : (P ++ [p ++ [b]])[P.length]?.getD [] = p ++ [b] := by simp
      rw [e0, place_snoc hq, if_neg (by intro e; have := congrArg List.length e; simp at this), place_no]
      exact fun hm => hq (hP.closed _ _ hm)
    rw [hkid, List.getElem?_set_ne (by omega), List.getElem?_append_right (by rw [h.1]; omega), h.1]
    have hc2 : c = 0 ∨ c = 1 := by omega
    rcases hc2 with rfl | rfl
    · simp
    · rw [show P.length * 2 + 1 - P.length * 2 = 1 by omega]; rfl

/-! ### codes -/
/-- no code begins another one, and none is empty -/
def Free (cs : List (List Nat)) : Prop := (∀ c ∈ cs, c ≠ []) ∧ cs.Pairwise fun a b => ¬ a <+: b ∧ ¬ b <+: a
/-- a tree's paths are what codes begin with -/
structure Holds (P cs : List (List Nat)) : Prop where
  paths : Paths P
  mem : ∀ p, p ∈ P ↔ p = [] ∨ ∃ c ∈ cs, p <+: c
theorem Free.not_prefix {cs : List (List Nat)} (h : Free cs) {a b : List Nat} (ha : a ∈ cs) (hb : b ∈ cs) (hp : a <+: b) : a = b := by
  obtain ⟨i, hi, rfl⟩ := List.getElem_of_mem ha
  obtain ⟨j, hj, rfl⟩ := List.getElem_of_mem hb
  have := List.pairwise_iff_getElem.1 h.2
  rcases Nat.lt_trichotomy i j with hl | rfl | hl
  · exact absurd hp (this i j hi hj hl).1
  · rfl
  · exact absurd hp (this j i hj hi hl).2
theorem Free.nodup {cs : List (List Nat)} (h : Free cs) : cs.Nodup := h.2.imp fun ⟨h1, _⟩ e => h1 (e ▸ List.prefix_refl _)
/-- a node without children is the end of a code -/
theorem Holds.leaf {P cs : List (List Nat)} (h : Holds P cs) (hf : Free cs) {q : List Nat} (hq : q ∈ P) (h0 : q ≠ []) : (place P (q ++ [0]) = 0 ∧ place P (q ++ [1]) = 0) ↔ q ∈ cs := by
  rw [h.paths.zero (by simp), h.paths.zero (by simp)]
  constructor
  · rintro ⟨a, b⟩
    rcases (h.mem q).1 hq with rfl | ⟨c, hc, t, rfl⟩
    · exact absurd rfl h0
    · cases t with
      | nil => simpa using hc
      | cons x t =>
        have hx : q ++ [x] ∈ P := (h.mem _).2 (.inr ⟨_, hc, t, by simp⟩)
        have := h.paths.low _ hx x (by simp)
        have hx2 : x = 0 ∨ x = 1 := by omega
        rcases hx2 with rfl | rfl
        · exact absurd hx a
        · exact absurd hx b
  · intro hc
    have no : ∀ x, q ++ [x] ∉ P := fun x hx => by
      rcases (h.mem _).1 hx with e | ⟨c, hc', hp⟩
      · simp at e
      · have hqc : q <+: c := (List.prefix_append q [x]).trans hp
        have := hf.not_prefix hc hc' hqc
        subst this
        have := hp.length_le
        simp at this
        omega
    exact ⟨no 0, no 1⟩
theorem holds_root : Holds [[]] [] := ⟨⟨rfl, by simp, by simp, by simp⟩, by simp⟩
theorem cells_root : Cells [[]] [.int .i64 0, .int .i64 0] := by
  refine ⟨rfl, fun i b hi hb => ?_⟩
  simp at hi
  subst hi
  have hk : kid [[]] 0 b = 0 := by unfold kid; exact place_no (by simp)
  rw [hk]
  have hb2 : b = 0 ∨ b = 1 := by omega
  rcases hb2 with rfl | rfl <;> rfl

/-! ### growing by a code -/
/-- how a tree is, behind k bits of a text were laid -/
structure Grown (P0 cs : List (List Nat)) (T : List Nat) (k : Nat) (P : List (List Nat)) (fresh : Bool) : Prop where
  paths : Paths P
  mem : ∀ p, p ∈ P ↔ p ∈ P0 ∨ p <+: T.take k
  no : ∀ c ∈ cs, ¬ c <+: T.take k
  new : fresh = decide (0 < k ∧ T.take k ∉ P0)
  many : P.length ≤ P0.length + k
  ext : ∃ R, P = P0 ++ R
theorem grown_start {P0 cs : List (List Nat)} (h : Holds P0 cs) (hf : Free cs) (T : List Nat) : Grown P0 cs T 0 P0 false :=
  ⟨h.paths, fun p => by simp; intro e; subst e; exact h.paths.nil_mem, fun c hc hp => hf.1 c hc (by simpa using hp), by simp, by omega, [], by simp⟩
theorem Grown.here {P0 cs P : List (List Nat)} {T : List Nat} {k : Nat} {f : Bool} (h : Grown P0 cs T k P f) : T.take k ∈ P := (h.mem _).2 (.inr (List.prefix_refl _))
theorem take_succ' {T : List Nat} {k b : Nat} (hk : T[k]? = some b) : T.take (k + 1) = T.take k ++ [b] := by
  rw [List.take_add_one, hk]; rfl
theorem Grown.old {P0 cs P : List (List Nat)} {T : List Nat} {k b : Nat} {f : Bool} (h : Grown P0 cs T k P f) (hk : T[k]? = some b) (hm : T.take k ++ [b] ∈ P) : T.take k ++ [b] ∈ P0 := by
  rcases (h.mem _).1 hm with h1 | h1
  · exact h1
  · have := h1.length_le
    simp at this
    omega
/-- a new node -/
theorem Grown.lay {P0 cs P : List (List Nat)} {T : List Nat} {k b : Nat} {f : Bool} (h : Grown P0 cs T k P f) (hH : Holds P0 cs) (hk : T[k]? = some b) (hb : b < 2) (hm : T.take k ++ [b] ∉ P) : Grown P0 cs T (k + 1) (P ++ [T.take k ++ [b]]) true := by
  have e := take_succ' hk
  have h0 : T.take (k + 1) ∉ P0 := by rw [e]; exact fun hx => hm ((h.mem _).2 (.inl hx))
  obtain ⟨R, hR⟩ := h.ext
  refine ⟨h.paths.snoc h.here hb hm, fun p => ?_, fun c hc hp => ?_, ?_, ?_, R ++ [T.take k ++ [b]], by rw [hR, List.append_assoc]⟩
  · rw [List.mem_append, List.mem_singleton, h.mem, e, List.prefix_concat_iff, or_assoc]
    constructor
    · rintro (h1 | h1 | h1)
      · exact .inl h1
      · exact .inr (.inr h1)
      · exact .inr (.inl h1)
    · rintro (h1 | h1 | h1)
      · exact .inl h1
      · exact .inr (.inr h1)
      · exact .inr (.inl h1)
  · rw [e, List.prefix_concat_iff] at hp
    rcases hp with rfl | hp
    · exact hm ((h.mem _).2 (.inl ((hH.mem _).2 (.inr ⟨_, hc, List.prefix_refl _⟩))))
    · exact h.no c hc hp
  · have : decide (0 < k + 1 ∧ T.take (k + 1) ∉ P0) = true := decide_eq_true ⟨by omega, h0⟩
    exact this.symm
  · have := h.many; simp; omega
/-- a node that is there, and is no end -/
theorem Grown.go {P0 cs P : List (List Nat)} {T : List Nat} {k b : Nat} {f : Bool} (h : Grown P0 cs T k P f) (hk : T[k]? = some b) (hm : T.take k ++ [b] ∈ P) (hne : T.take k ++ [b] ∉ cs) : Grown P0 cs T (k + 1) P false := by
  have e := take_succ' hk
  have h0 := h.old hk hm
  refine ⟨h.paths, fun p => ?_, fun c hc hp => ?_, ?_, by have := h.many; omega, h.ext⟩
  · rw [h.mem, e, List.prefix_concat_iff]
    constructor
    · rintro (h1 | h1)
      · exact .inl h1
      · exact .inr (.inr h1)
    · rintro (h1 | h1 | h1)
      · exact .inl h1
      · subst h1; exact .inl h0
      · exact .inr h1
  · rw [e, List.prefix_concat_iff] at hp
    rcases hp with rfl | hp
    · exact hne hc
    · exact h.no c hc hp
  · have : decide (0 < k + 1 ∧ T.take (k + 1) ∉ P0) = false := decide_eq_false (by rw [e]; exact fun ⟨_, h2⟩ => h2 h0)
    exact this.symm
/-- is the node an end? -/
theorem Grown.leaf {P0 cs P : List (List Nat)} {T : List Nat} {k b : Nat} {f : Bool} (h : Grown P0 cs T k P f) (hH : Holds P0 cs) (hf : Free cs) (hk : T[k]? = some b) (hm : T.take k ++ [b] ∈ P) :
    (place P (T.take k ++ [b] ++ [0]) = 0 ∧ place P (T.take k ++ [b] ++ [1]) = 0) ↔ T.take k ++ [b] ∈ cs := by
  rw [← hH.leaf hf (h.old hk hm) (by simp)]
  have same : ∀ x, T.take k ++ [b] ++ [x] ∈ P ↔ T.take k ++ [b] ++ [x] ∈ P0 := fun x => by
    rw [h.mem]
    refine ⟨fun h1 => h1.elim id fun h1 => ?_, .inl⟩
    have := h1.length_le
    simp at this
    omega
  rw [h.paths.zero (by simp), h.paths.zero (by simp), hH.paths.zero (by simp), hH.paths.zero (by simp), same, same]
theorem Grown.place_old {P0 cs P : List (List Nat)} {T : List Nat} {k : Nat} {f : Bool} (h : Grown P0 cs T k P f) {q : List Nat} (hq : q ∈ P0) : place P q = place P0 q := by
  obtain ⟨R, rfl⟩ := h.ext
  unfold place
  rw [if_pos hq, if_pos (by simp [hq]), List.idxOf_append, if_pos hq]
theorem Grown.done {P0 cs P : List (List Nat)} {T : List Nat} (h : Grown P0 cs T T.length P true) (hH : Holds P0 cs) (hf : Free cs) : Holds P (cs ++ [T]) ∧ Free (cs ++ [T]) := by
  have hm := h.mem
  have hno := h.no
  have hnew := h.new
  rw [List.take_length] at hm hno hnew
  obtain ⟨h1, h2⟩ : 0 < T.length ∧ T ∉ P0 := of_decide_eq_true hnew.symm
  refine ⟨⟨h.paths, fun p => ?_⟩, ?_, ?_⟩
  · rw [hm, hH.mem]
    simp only [List.mem_append, List.mem_singleton]
    constructor
    · rintro ((h | ⟨c, hc, hp⟩) | h)
      · exact .inl h
      · exact .inr ⟨c, .inl hc, hp⟩
      · exact .inr ⟨T, .inr rfl, h⟩
    · rintro (h | ⟨c, (hc | rfl), hp⟩)
      · exact .inl (.inl h)
      · exact .inl (.inr ⟨c, hc, hp⟩)
      · exact .inr hp
  · intro c hc
    rcases List.mem_append.1 hc with hc | hc
    · exact hf.1 c hc
    · simp at hc; subst hc; intro e; subst e; simp at h1
  · rw [List.pairwise_append]
    refine ⟨hf.2, by simp, fun a ha b hb => ?_⟩
    simp at hb
    subst hb
    exact ⟨hno a ha, fun hp => h2 ((hH.mem _).2 (.inr ⟨a, ha, hp⟩))⟩
theorem Grown.stale {P0 cs P : List (List Nat)} {T : List Nat} (h : Grown P0 cs T T.length P false) (hH : Holds P0 cs) (h0 : T ≠ []) : ∃ c ∈ cs, T <+: c := by
  have hnew := h.new
  rw [List.take_length] at hnew
  have h1 : ¬ (0 < T.length ∧ T ∉ P0) := of_decide_eq_false hnew.symm
  have hl : 0 < T.length := List.length_pos_iff.2 h0
  have hT : T ∈ P0 := by
    false_or_by_contra
    rename_i hx
    exact h1 ⟨hl, hx⟩
  rcases (hH.mem T).1 hT with e | e
  · exact absurd e h0
  · exact e

/-! ### texts -/
/-- the bits that a text spells -/
def bitsL (s : ByteArray) : List Nat := s.data.toList.map fun c => c.toNat - 48
theorem bitsL_len (s : ByteArray) : (bitsL s).length = s.size := by simp [bitsL]
theorem bitsL_low {s : ByteArray} (h : AllBits s) : ∀ b ∈ bitsL s, b < 2 := by
  intro b hb
  unfold bitsL at hb
  rw [List.mem_map] at hb
  obtain ⟨c, hc, rfl⟩ := hb
  obtain ⟨i, hi, rfl⟩ := List.getElem_of_mem hc
  have e0 : s.data.toList[i] = s[i]'(by simpa using hi) := by simp; rfl
  rw [e0]
  rcases h i (by simpa using hi) with e | e
  · rw [e]; decide
  · rw [e]; decide
theorem map_prefix_inj {l l' : List UInt8} (h : ∀ c ∈ l, c = 48 ∨ c = 49) (h' : ∀ c ∈ l', c = 48 ∨ c = 49) (hp : (l.map fun c => c.toNat - 48) <+: (l'.map fun c => c.toNat - 48)) : l <+: l' := by
  induction l generalizing l' with
  | nil => exact List.nil_prefix
  | cons x l ih =>
    cases l' with
    | nil => simp at hp
    | cons y l' =>
      simp only [List.map_cons, List.cons_prefix_cons] at hp
      have hx := h x (by simp)
      have hy := h' y (by simp)
      have e : x = y := by
        have h1 := hp.1
        rcases hx with rfl | rfl <;> rcases hy with rfl | rfl <;> first | rfl | exact absurd h1 (by decide)
      rw [e, List.cons_prefix_cons]
      exact ⟨rfl, ih (fun c hc => h c (by simp [hc])) (fun c hc => h' c (by simp [hc])) hp.2⟩
theorem allBits_list {s : ByteArray} (h : AllBits s) : ∀ c ∈ s.data.toList, c = 48 ∨ c = 49 := by
  intro c hc
  obtain ⟨i, hi, rfl⟩ := List.getElem_of_mem hc
  have e0 : s.data.toList[i] = s[i]'(by simpa using hi) := by simp; rfl
  rw [e0]
  exact h i (by simpa using hi)
theorem begins_iff {s t : ByteArray} (hs : AllBits s) (ht : AllBits t) : begins s t = true ↔ bitsL t <+: bitsL s := by
  unfold begins
  rw [decide_eq_true_eq]
  exact ⟨fun h => h.map _, map_prefix_inj (allBits_list ht) (allBits_list hs)⟩
theorem codeB_all {s : ByteArray} (h : codeB s = true) : AllBits s ∧ 1 ≤ s.size ∧ s.size ≤ 24 := by
  unfold codeB at h
  simp only [Bool.and_eq_true, decide_eq_true_eq] at h
  exact ⟨(allB_iff s).1 h.1.1, h.1.2, h.2⟩

/-! ### the number that bits are -/
theorem list_snoc {α : Type} {motive : List α → Prop} (l : List α) (nil : motive []) (snoc : ∀ l b, motive l → motive (l ++ [b])) : motive l := by
  have h : ∀ l : List α, motive l.reverse := fun l => by
    induction l with
    | nil => exact nil
    | cons x l ih => rw [List.reverse_cons]; exact snoc _ _ ih
  have := h l.reverse
  rwa [List.reverse_reverse] at this
def numOf (l : List Nat) : Nat := l.foldl (fun x b => 2 * x + b) 0
theorem numOf_snoc (l : List Nat) (b : Nat) : numOf (l ++ [b]) = 2 * numOf l + b := by simp [numOf]
theorem numOf_lt {l : List Nat} (h : ∀ b ∈ l, b < 2) : numOf l < 2 ^ l.length := by
  induction l using list_snoc with
  | nil => decide
  | snoc l b ih =>
    have := ih (fun c hc => h c (by simp [hc]))
    have hb := h b (by simp)
    rw [numOf_snoc, List.length_append, List.length_singleton, Nat.pow_succ]
    omega
theorem numOf_bit {l : List Nat} (h : ∀ b ∈ l, b < 2) (i : Nat) (hi : i < l.length) : numOf l / 2 ^ (l.length - 1 - i) % 2 = l[i] := by
  induction l using list_snoc generalizing i with
  | nil => simp at hi
  | snoc l b ih =>
    have hb := h b (by simp)
    rw [numOf_snoc, List.length_append, List.length_singleton]
    by_cases e : i < l.length
    · rw [List.getElem_append_left e, ← ih (fun c hc => h c (by simp [hc])) i e]
      rw [show l.length + 1 - 1 - i = (l.length - 1 - i) + 1 by omega, Nat.pow_succ, Nat.mul_comm (2 ^ _) 2, ← Nat.div_div_eq_div_mul]
      congr 2
      omega
    · have : i = l.length := by simp at hi; omega
      subst this
      simp
      omega

end Go.Proofs.YtdadmoefmaojlaaDoor
