/- cosine, plainly: sums, weights, lines and blocks, what functions answer; what follows: turned, mirrored, a sum of blocks. -/
import Derived.Test.YtpmdeoiajnfabaaKit
namespace Go.Proofs.Ytpmdeoiajnfabaa
open Go.RowKit Go.Shelf
set_option linter.unusedVariables false

/-! ### sums -/
/-- the sum of so many -/
def smC : Nat → (Nat → Int) → Int
  | 0, _ => 0
  | n + 1, f => smC n f + f n
theorem smC_zero (f : Nat → Int) : smC 0 f = 0 := rfl
theorem smC_succ (n : Nat) (f : Nat → Int) : smC (n + 1) f = smC n f + f n := rfl
theorem smC_congr {n : Nat} {f g : Nat → Int} (h : ∀ i, i < n → f i = g i) : smC n f = smC n g := by
  induction n with
  | zero => rfl
  | succ n ih => rw [smC_succ, smC_succ, ih (fun i hi => h i (by omega)), h n (by omega)]
theorem smC_add (n : Nat) (f g : Nat → Int) : smC n (fun i => f i + g i) = smC n f + smC n g := by
  induction n with
  | zero => rfl
  | succ n ih => rw [smC_succ, smC_succ, smC_succ, ih]; omega
theorem smC_mul (n : Nat) (a : Int) (f : Nat → Int) : smC n (fun i => a * f i) = a * smC n f := by
  induction n with
  | zero => simp [smC]
  | succ n ih => rw [smC_succ, smC_succ, ih, Int.mul_add]
theorem smC_none (n : Nat) : smC n (fun _ => 0) = 0 := by
  induction n with
  | zero => rfl
  | succ n ih => rw [smC_succ, ih]; rfl
theorem smC_swap (m n : Nat) (f : Nat → Nat → Int) : smC m (fun i => smC n fun j => f i j) = smC n (fun j => smC m fun i => f i j) := by
  induction m with
  | zero => exact (smC_none n).symm
  | succ m ih =>
    rw [smC_succ, ih, ← smC_add]
    exact smC_congr (fun j _ => (smC_succ m _).symm)
theorem smC_app (m n : Nat) (f : Nat → Int) : smC (m + n) f = smC m f + smC n (fun i => f (m + i)) := by
  induction n with
  | zero => simp [smC]
  | succ n ih => rw [show m + (n + 1) = (m + n) + 1 from rfl, smC_succ, ih, smC_succ]; omega
theorem smC_rows (n : Nat) (f : Nat → Int) : smC (8 * n) f = smC n (fun v => smC 8 fun u => f (8 * v + u)) := by
  induction n with
  | zero => rfl
  | succ n ih => rw [show 8 * (n + 1) = 8 * n + 8 from rfl, smC_app, ih]; exact (smC_succ n _).symm
theorem smC_le {n : Nat} {f : Nat → Int} {M : Int} (h : ∀ i, i < n → -M ≤ f i ∧ f i ≤ M) : -(n * M) ≤ smC n f ∧ smC n f ≤ n * M := by
  induction n with
  | zero => simp [smC]
  | succ n ih =>
    have h1 := ih (fun i hi => h i (by omega))
    have h2 := h n (by omega)
    have e : ((n + 1 : Nat) : Int) * M = n * M + M := by rw [Int.natCast_add, Int.add_mul]; simp
    rw [smC_succ, e]
    omega

/-! ### weights -/
def wtL : List Int := [1448, 1448, 1448, 1448, 1448, 1448, 1448, 1448, 2009, 1703, 1138, 400, -400, -1138, -1703, -2009, 1892, 784, -784, -1892, -1892, -784, 784, 1892, 1703, -400, -2009, -1138, 1138, 2009, 400, -1703, 1448, -1448, -1448, 1448, 1448, -1448, -1448, 1448, 1138, -2009, 400, 1703, -1703, -400, 2009, -1138, 784, -1892, 1892, -784, -784, 1892, -1892, 784, 400, -1138, 1703, -2009, 2009, -1703, 1138, -400]
def wt (u x : Nat) : Int := wtL[8 * u + x]?.getD 0
/-- c of so many steps -/
def cK (k : Nat) : Int := [2048, 2009, 1892, 1703, 1448, 1138, 784, 400, 0, -400, -784, -1138, -1448, -1703, -1892, -2009, -2048, -2009, -1892, -1703, -1448, -1138, -784, -400, 0, 400, 784, 1138, 1448, 1703, 1892, 2009][k]?.getD 0
theorem wt_zero : ∀ x : Fin 8, wt 0 x = 1448 := by decide +kernel
theorem wt_cK : ∀ u x : Fin 8, 1 ≤ u.val → wt u x = cK ((2 * x.val + 1) * u.val % 32) := by decide +kernel
theorem wt_le : ∀ u x : Fin 8, -2048 ≤ wt u x ∧ wt u x ≤ 2048 := by decide +kernel
theorem wt_in {u x : Nat} (hu : u < 8) (hx : x < 8) : -2048 ≤ wt u x ∧ wt u x ≤ 2048 := wt_le ⟨u, hu⟩ ⟨x, hx⟩
theorem wt_mirror' : ∀ u x : Fin 8, wt u (7 - x.val) = wt u x * (1 - 2 * ((u.val % 2 : Nat) : Int)) := by decide +kernel
theorem wt_mirror {u x : Nat} (hu : u < 8) (hx : x < 8) : wt u (7 - x) = wt u x * (1 - 2 * ((u % 2 : Nat) : Int)) := wt_mirror' ⟨u, hu⟩ ⟨x, hx⟩

/-! ### lines and blocks -/
/-- which line a place lies on, and which place of it it is; the place, by these -/
def coC (d : Bool) (j : Nat) : Nat := if d then j % 8 else j / 8
def ixC (d : Bool) (j : Nat) : Nat := if d then j / 8 else j % 8
def plC (d : Bool) (f i : Nat) : Nat := if d then 8 * i + f else 8 * f + i
theorem pl_lt (d : Bool) {f i : Nat} (hf : f < 8) (hi : i < 8) : plC d f i < 64 := by unfold plC; cases d <;> simp <;> omega
theorem co_pl (d : Bool) {f i : Nat} (hf : f < 8) (hi : i < 8) : coC d (plC d f i) = f := by unfold coC plC; cases d <;> simp <;> omega
theorem ix_pl (d : Bool) {f i : Nat} (hf : f < 8) (hi : i < 8) : ixC d (plC d f i) = i := by unfold ixC plC; cases d <;> simp <;> omega
theorem pl_co (d : Bool) {j : Nat} : plC d (coC d j) (ixC d j) = j := by unfold ixC coC plC; cases d <;> simp <;> omega
theorem co_lt (d : Bool) {j : Nat} (h : j < 64) : coC d j < 8 := by unfold coC; cases d <;> simp <;> omega
theorem ix_lt (d : Bool) {j : Nat} (h : j < 64) : ixC d j < 8 := by unfold ixC; cases d <;> simp <;> omega

abbrev nthC (b : List Int) (j : Nat) : Int := b[j]?.getD 0
/-- a list of so many, told place by place -/
def ofC (n : Nat) (f : Nat → Int) : List Int := (List.range n).map f
theorem ofC_length (n : Nat) (f : Nat → Int) : (ofC n f).length = n := by simp [ofC]
theorem ofC_get {n : Nat} {f : Nat → Int} {j : Nat} (h : j < n) : nthC (ofC n f) j = f j := by simp [nthC, ofC, h]
theorem ofC_out {n : Nat} {f : Nat → Int} {j : Nat} (h : n ≤ j) : nthC (ofC n f) j = 0 := by simp [nthC, ofC, h]
theorem listC_ext {n : Nat} {a b : List Int} (ha : a.length = n) (hb : b.length = n) (h : ∀ j, j < n → nthC a j = nthC b j) : a = b := by
  apply List.ext_getElem?
  intro j
  by_cases hj : j < n
  · have := h j hj
    simp only [nthC] at this
    rw [List.getElem?_eq_getElem (by omega), List.getElem?_eq_getElem (by omega)] at this ⊢
    simpa using this
  · rw [List.getElem?_eq_none (by omega), List.getElem?_eq_none (by omega)]
theorem ofC_self {n : Nat} {b : List Int} (h : b.length = n) : ofC n (nthC b) = b := listC_ext (ofC_length _ _) h (fun j hj => ofC_get hj)
theorem ofC_congr {n : Nat} {f g : Nat → Int} (h : ∀ j, j < n → f j = g j) : ofC n f = ofC n g := listC_ext (ofC_length _ _) (ofC_length _ _) (fun j hj => by rw [ofC_get hj, ofC_get hj, h j hj])
theorem nth_set {b : List Int} {k j : Nat} {x : Int} (hk : k < b.length) : nthC (b.set k x) j = if j = k then x else nthC b j := by
  unfold nthC
  rw [List.getElem?_set]
  by_cases h : k = j
  · subst h; simp [hk]
  · rw [if_neg h, if_neg (by omega)]
theorem ofC_set {n : Nat} {f : Nat → Int} {k : Nat} {x : Int} (hk : k < n) : (ofC n f).set k x = ofC n (fun j => if j = k then x else f j) :=
  listC_ext (by simp [ofC]) (ofC_length _ _) (fun j hj => by
    rw [nth_set (by rw [ofC_length]; exact hk), ofC_get hj, ofC_get hj])

/-- the sums of eight numbers -/
def lineS (l : List Int) : List Int := ofC 8 fun x => smC 8 fun u => wt u x * nthC l u
/-- what a place of a block is worth by its line -/
def lnS (d : Bool) (b : List Int) (j : Nat) : Int := smC 8 fun u => wt u (ixC d j) * nthC b (plC d (coC d j) u)
/-- a block of which so many lines are summed, and so many places of one more -/
def mixC (d : Bool) (base b : List Int) (f k : Nat) : List Int := ofC 64 fun j => if coC d j < f ∨ (coC d j = f ∧ ixC d j < k) then lnS d b j else nthC base j
def linesC (d : Bool) (b : List Int) : List Int := ofC 64 (lnS d b)
/-- one line of a block is summed, so many places of it -/
def turnC (d : Bool) (b : List Int) (f k : Nat) : List Int := ofC 64 fun j => if coC d j = f ∧ ixC d j < k then lnS d b j else nthC b j
/-- a line of a block -/
def pickC (d : Bool) (b : List Int) (f k : Nat) : List Int := ofC 8 fun i => if i < k then nthC b (plC d f i) else 0
theorem lineS_length (l : List Int) : (lineS l).length = 8 := ofC_length _ _
theorem mix_length (d : Bool) (base b : List Int) (f k : Nat) : (mixC d base b f k).length = 64 := ofC_length _ _
theorem turn_length (d : Bool) (b : List Int) (f k : Nat) : (turnC d b f k).length = 64 := ofC_length _ _
theorem lines_length (d : Bool) (b : List Int) : (linesC d b).length = 64 := ofC_length _ _
theorem pick_length (d : Bool) (b : List Int) (f k : Nat) : (pickC d b f k).length = 8 := ofC_length _ _
theorem lineS_get {l : List Int} {x : Nat} (hx : x < 8) : nthC (lineS l) x = smC 8 fun u => wt u x * nthC l u := ofC_get hx
/-- the sums of a line that was picked -/
theorem lineS_pick (d : Bool) (b : List Int) {f i : Nat} (hf : f < 8) (hi : i < 8) : nthC (lineS (pickC d b f 8)) i = lnS d b (plC d f i) := by
  rw [lineS_get hi]
  unfold lnS
  rw [ix_pl d hf hi, co_pl d hf hi]
  exact smC_congr (fun u hu => by unfold pickC; rw [ofC_get hu, if_pos hu])
theorem pick_step (d : Bool) (b : List Int) {f k : Nat} (hk : k < 8) : (pickC d b f k).set k (nthC b (plC d f k)) = pickC d b f (k + 1) := by
  unfold pickC
  rw [ofC_set hk]
  apply ofC_congr
  intro j hj
  by_cases h : j = k
  · rw [if_pos h, if_pos (by omega), h]
  · rw [if_neg h]
    by_cases h2 : j < k
    · rw [if_pos h2, if_pos (by omega)]
    · rw [if_neg h2, if_neg (by omega)]
theorem pick_zero (d : Bool) (b : List Int) (f : Nat) : pickC d b f 0 = List.replicate 8 0 := listC_ext (pick_length _ _ _ _) (by simp) (fun j hj => by unfold pickC; rw [ofC_get hj, if_neg (by omega)]; unfold nthC; rw [List.getElem?_replicate, if_pos hj]; rfl)
theorem pl_ne (d : Bool) {f k j : Nat} (hf : f < 8) (hk : k < 8) : j = plC d f k ↔ (coC d j = f ∧ ixC d j = k) := by
  constructor
  · rintro rfl
    exact ⟨co_pl d hf hk, ix_pl d hf hk⟩
  · rintro ⟨h1, h2⟩
    rw [← h1, ← h2, pl_co]
theorem turn_step (d : Bool) (b : List Int) {f k : Nat} (hf : f < 8) (hk : k < 8) : (turnC d b f k).set (plC d f k) (lnS d b (plC d f k)) = turnC d b f (k + 1) := by
  unfold turnC
  rw [ofC_set (pl_lt d hf hk)]
  apply ofC_congr
  intro j hj
  by_cases h : j = plC d f k
  · obtain ⟨h1, h2⟩ := (pl_ne d hf hk).1 h
    rw [if_pos h, if_pos ⟨h1, by omega⟩, h]
  · rw [if_neg h]
    have h' : ¬ (coC d j = f ∧ ixC d j = k) := fun e => h ((pl_ne d hf hk).2 e)
    by_cases h2 : coC d j = f ∧ ixC d j < k
    · rw [if_pos h2, if_pos ⟨h2.1, by omega⟩]
    · rw [if_neg h2, if_neg (by omega)]
theorem turn_zero (d : Bool) {b : List Int} (f : Nat) (hb : b.length = 64) : turnC d b f 0 = b := listC_ext (turn_length _ _ _ _) hb (fun j hj => by unfold turnC; rw [ofC_get hj, if_neg (by omega)])
theorem mix_step (d : Bool) (base b : List Int) {f k : Nat} (hf : f < 8) (hk : k < 8) : (mixC d base b f k).set (plC d f k) (lnS d b (plC d f k)) = mixC d base b f (k + 1) := by
  unfold mixC
  rw [ofC_set (pl_lt d hf hk)]
  apply ofC_congr
  intro j hj
  by_cases h : j = plC d f k
  · obtain ⟨h1, h2⟩ := (pl_ne d hf hk).1 h
    rw [if_pos h, if_pos (by omega), h]
  · rw [if_neg h]
    have h' : ¬ (coC d j = f ∧ ixC d j = k) := fun e => h ((pl_ne d hf hk).2 e)
    by_cases h2 : coC d j < f ∨ (coC d j = f ∧ ixC d j < k)
    · rw [if_pos h2, if_pos (by omega)]
    · rw [if_neg h2, if_neg (by omega)]
theorem mix_zero (d : Bool) {base : List Int} (b : List Int) (hb : base.length = 64) : mixC d base b 0 0 = base := listC_ext (mix_length _ _ _ _ _) hb (fun j hj => by unfold mixC; rw [ofC_get hj, if_neg (by omega)])
theorem mix_next (d : Bool) (base b : List Int) (f : Nat) : mixC d base b f 8 = mixC d base b (f + 1) 0 := by
  unfold mixC
  apply ofC_congr
  intro j hj
  have := ix_lt d hj
  by_cases h2 : coC d j < f + 1
  · rw [if_pos (by omega), if_pos (by omega)]
  · rw [if_neg (by omega), if_neg (by omega)]
theorem mix_all (d : Bool) (base b : List Int) : mixC d base b 8 0 = linesC d b := by
  unfold mixC linesC
  apply ofC_congr
  intro j hj
  rw [if_pos (.inl (co_lt d hj))]
/-- a line of the block that is half summed, summed -/
theorem turn_mix (d : Bool) (b : List Int) {f : Nat} (hf : f < 8) : turnC d (mixC d b b f 0) f 8 = mixC d b b (f + 1) 0 := by
  unfold turnC
  rw [← mix_next]
  conv => rhs; unfold mixC
  apply ofC_congr
  intro j hj
  have h8 := ix_lt d hj
  have hm : ∀ u, u < 8 → nthC (mixC d b b f 0) (plC d f u) = nthC b (plC d f u) := by
    intro u hu
    unfold mixC
    rw [ofC_get (pl_lt d hf hu), co_pl d hf hu, if_neg (by omega)]
  by_cases h : coC d j = f
  · rw [if_pos ⟨h, h8⟩, if_pos (.inr ⟨h, h8⟩)]
    unfold lnS
    exact smC_congr (fun u hu => by rw [h, hm u hu])
  · rw [if_neg (by omega)]
    unfold mixC
    rw [ofC_get hj]
    by_cases h2 : coC d j < f
    · rw [if_pos (.inl h2), if_pos (.inl h2)]
    · rw [if_neg (by omega), if_neg (by omega)]

/-! ### a block's sums -/
/-- the sum of 64 products -/
def invS (b : List Int) (k : Nat) : Int := smC 64 fun i => wt (i % 8) (k % 8) * wt (i / 8) (k / 8) * nthC b i
theorem invS_rows (b : List Int) (k : Nat) : invS b k = smC 8 fun v => smC 8 fun u => wt u (k % 8) * wt v (k / 8) * nthC b (8 * v + u) := by
  unfold invS
  rw [show (64 : Nat) = 8 * 8 from rfl, smC_rows]
  exact smC_congr (fun v _ => smC_congr (fun u hu => by rw [show (8 * v + u) % 8 = u by omega, show (8 * v + u) / 8 = v by omega]))
theorem lines_rc (b : List Int) {k : Nat} (hk : k < 64) : lnS true (linesC false b) k = invS b k := by
  rw [invS_rows]
  unfold lnS
  apply smC_congr
  intro v hv
  have e : plC true (coC true k) v = 8 * v + k % 8 := by simp [plC, coC]
  rw [e]
  unfold linesC
  rw [ofC_get (by omega)]
  unfold lnS
  rw [← smC_mul]
  apply smC_congr
  intro u hu
  simp only [ixC, coC, plC, if_true, Bool.false_eq_true, if_false]
  rw [show (8 * v + k % 8) % 8 = k % 8 by omega, show (8 * v + k % 8) / 8 = v by omega]
  rw [Int.mul_comm (wt u (k % 8)) (wt v (k / 8)), Int.mul_assoc]
theorem lines_cr (b : List Int) {k : Nat} (hk : k < 64) : lnS false (linesC true b) k = invS b k := by
  rw [invS_rows, smC_swap]
  unfold lnS
  apply smC_congr
  intro u hu
  have e : plC false (coC false k) u = 8 * (k / 8) + u := by simp [plC, coC]
  rw [e]
  unfold linesC
  rw [ofC_get (by omega)]
  unfold lnS
  rw [← smC_mul]
  apply smC_congr
  intro v hv
  simp only [ixC, coC, plC, if_true, Bool.false_eq_true, if_false]
  rw [show (8 * (k / 8) + u) % 8 = u by omega, show (8 * (k / 8) + u) / 8 = k / 8 by omega]
  rw [← Int.mul_assoc]
theorem lines_two (b : List Int) : linesC true (linesC false b) = ofC 64 (invS b) := ofC_congr (fun _ hk => lines_rc b hk)
theorem lines_two' (b : List Int) : linesC false (linesC true b) = ofC 64 (invS b) := ofC_congr (fun _ hk => lines_cr b hk)

/-! ### how great they are -/
theorem mul_in {a x A M : Int} (ha : -A ≤ a ∧ a ≤ A) (hx : -M ≤ x ∧ x ≤ M) (hA : 0 ≤ A) (hM : 0 ≤ M) : -(A * M) ≤ a * x ∧ a * x ≤ A * M := by
  have h1 : (a * x).natAbs ≤ A.toNat * M.toNat := by
    rw [Int.natAbs_mul]
    exact Nat.mul_le_mul (by omega) (by omega)
  have h2 : ((A.toNat * M.toNat : Nat) : Int) = A * M := by rw [Int.natCast_mul, Int.toNat_of_nonneg hA, Int.toNat_of_nonneg hM]
  omega
theorem nth_in {b : List Int} {M : Int} (hM : 0 ≤ M) (h : ∀ x ∈ b, -M ≤ x ∧ x ≤ M) (j : Nat) : -M ≤ nthC b j ∧ nthC b j ≤ M := by
  unfold nthC
  cases e : b[j]? with
  | none => simp; omega
  | some x => simpa using h x (List.mem_of_getElem? e)
theorem lnS_in (d : Bool) {b : List Int} {M : Int} (hM : 0 ≤ M) (h : ∀ j, -M ≤ nthC b j ∧ nthC b j ≤ M) {j : Nat} (hj : j < 64) : -(8 * (2048 * M)) ≤ lnS d b j ∧ lnS d b j ≤ 8 * (2048 * M) :=
  smC_le (n := 8) (fun u hu => mul_in (wt_in hu (ix_lt d hj)) (h _) (by omega) hM)
theorem lines_in (d : Bool) {b : List Int} {M : Int} (hM : 0 ≤ M) (h : ∀ j, -M ≤ nthC b j ∧ nthC b j ≤ M) (j : Nat) : -(8 * (2048 * M)) ≤ nthC (linesC d b) j ∧ nthC (linesC d b) j ≤ 8 * (2048 * M) := by
  unfold linesC
  by_cases hj : j < 64
  · rw [ofC_get hj]; exact lnS_in d hM h hj
  · rw [ofC_out (by omega)]; omega
theorem mix_in (d : Bool) {b : List Int} {M : Int} (hM : 0 ≤ M) (h : ∀ j, -M ≤ nthC b j ∧ nthC b j ≤ M) (f k j : Nat) : -(8 * (2048 * M)) ≤ nthC (mixC d b b f k) j ∧ nthC (mixC d b b f k) j ≤ 8 * (2048 * M) := by
  unfold mixC
  by_cases hj : j < 64
  · rw [ofC_get hj]
    split
    · exact lnS_in d hM h hj
    · have := h j; omega
  · rw [ofC_out (by omega)]; omega
/-- part of a sum -/
theorem part_in {n : Nat} (hn : n ≤ 8) {l : List Int} {M : Int} (hM : 0 ≤ M) (h : ∀ j, -M ≤ nthC l j ∧ nthC l j ≤ M) {x : Nat} (hx : x < 8) :
    -(8 * (2048 * M)) ≤ (smC n fun u => wt u x * nthC l u) ∧ (smC n fun u => wt u x * nthC l u) ≤ 8 * (2048 * M) := by
  have h1 := smC_le (n := n) (f := fun u => wt u x * nthC l u) (M := 2048 * M) (fun u hu => mul_in (wt_in (by omega) hx) (h _) (by omega) hM)
  have h2 : (n : Int) * (2048 * M) ≤ 8 * (2048 * M) := Int.mul_le_mul_of_nonneg_right (by omega) (by omega)
  omega
theorem invP_in {n : Nat} (hn : n ≤ 64) {b : List Int} (h : ∀ j, -2048 ≤ nthC b j ∧ nthC b j ≤ 2048) {k : Nat} (hk : k < 64) :
    -549755813888 ≤ (smC n fun i => wt (i % 8) (k % 8) * wt (i / 8) (k / 8) * nthC b i) ∧ (smC n fun i => wt (i % 8) (k % 8) * wt (i / 8) (k / 8) * nthC b i) ≤ 549755813888 := by
  have h1 := smC_le (n := n) (f := fun i => wt (i % 8) (k % 8) * wt (i / 8) (k / 8) * nthC b i) (M := 2048 * 2048 * 2048)
    (fun i hi => mul_in (A := 2048 * 2048) (mul_in (wt_in (by omega) (by omega)) (wt_in (by omega) (by omega)) (by omega) (by omega)) (h _) (by omega) (by omega))
  have h2 : (n : Int) * (2048 * 2048 * 2048) ≤ 64 * (2048 * 2048 * 2048) := Int.mul_le_mul_of_nonneg_right (by omega) (by omega)
  omega

/-! ### what follows: turned, mirrored, a sum -/
theorem invS_turned (b : List Int) {k : Nat} (hk : k < 64) : invS (ofC 64 fun i => nthC b (i % 8 * 8 + i / 8)) k = invS b (k % 8 * 8 + k / 8) := by
  rw [invS_rows, invS_rows, smC_swap]
  apply smC_congr
  intro u hu
  apply smC_congr
  intro v hv
  rw [ofC_get (by omega), show (8 * v + u) % 8 = u by omega, show (8 * v + u) / 8 = v by omega, show (k % 8 * 8 + k / 8) % 8 = k / 8 by omega, show (k % 8 * 8 + k / 8) / 8 = k % 8 by omega, Int.mul_comm (wt u _) (wt v _), Nat.mul_comm u 8]
theorem invS_across (b : List Int) {k : Nat} (hk : k < 64) : invS (ofC 64 fun i => nthC b i * (1 - 2 * ((i % 2 : Nat) : Int))) k = invS b (k / 8 * 8 + 7 - k % 8) := by
  unfold invS
  apply smC_congr
  intro i hi
  rw [ofC_get hi, show (k / 8 * 8 + 7 - k % 8) % 8 = 7 - k % 8 by omega, show (k / 8 * 8 + 7 - k % 8) / 8 = k / 8 by omega, wt_mirror (by omega) (by omega), show i % 8 % 2 = i % 2 by omega]
  ac_rfl
theorem invS_down (b : List Int) {k : Nat} (hk : k < 64) : invS (ofC 64 fun i => nthC b i * (1 - 2 * ((i / 8 % 2 : Nat) : Int))) k = invS b ((7 - k / 8) * 8 + k % 8) := by
  unfold invS
  apply smC_congr
  intro i hi
  rw [ofC_get hi, show ((7 - k / 8) * 8 + k % 8) % 8 = k % 8 by omega, show ((7 - k / 8) * 8 + k % 8) / 8 = 7 - k / 8 by omega, wt_mirror (u := i / 8) (by omega) (by omega)]
  ac_rfl
theorem invS_sum (a b : List Int) (k : Nat) : invS (ofC 64 fun i => nthC a i + nthC b i) k = invS a k + invS b k := by
  unfold invS
  rw [← smC_add]
  apply smC_congr
  intro i hi
  rw [ofC_get hi, Int.mul_add]
/-- a sum, rounded -/
def rndC (s : Int) : Int := (s + 8388608) / 16777216
theorem rnd_sum (s t : Int) : -1 ≤ rndC (s + t) - rndC s - rndC t ∧ rndC (s + t) - rndC s - rndC t ≤ 1 := by unfold rndC; omega

/-! ### what the functions answer -/
def okPC (n : Int) : Bool := decide (0 ≤ n) && decide (n < 8)
theorem okPC_iff (n : Int) : okPC n = true ↔ 0 ≤ n ∧ n < 8 := by simp [okPC]
def weightR (u x : Int) : Int × Int := if okPC u && okPC x then (wt u.toNat x.toNat, 0) else (0, 3)
def okNC (lo hi n : Int) : Bool := decide (lo ≤ n) && decide (n ≤ hi)
theorem okNC_iff (lo hi n : Int) : okNC lo hi n = true ↔ lo ≤ n ∧ n ≤ hi := by simp [okNC]
def checkR (l : List Int) (m : Nat) (lo hi : Int) : Int := if l.length ≠ m then 2 else if l.all (okNC lo hi) then 0 else 3
def lineR (l : List Int) : Int × List Int := if checkR l 8 (-1099511627776) 1099511627776 = 0 then (0, lineS l) else (checkR l 8 (-1099511627776) 1099511627776, [])
def invL (b : List Int) : List Int := ofC 64 fun k => rndC (invS b k)
def invR (b : List Int) : Int × List Int := if checkR b 64 (-2048) 2047 = 0 then (0, invL b) else (checkR b 64 (-2048) 2047, [])
theorem invL_length (b : List Int) : (invL b).length = 64 := ofC_length _ _
theorem allC_iff (l : List Int) (lo hi : Int) : l.all (okNC lo hi) = true ↔ ∀ j, j < l.length → okNC lo hi (nthC l j) = true := by
  rw [List.all_eq_true]
  constructor
  · intro h j hj
    apply h
    simp [nthC, hj]
  · intro h x hx
    obtain ⟨j, hj, rfl⟩ := List.mem_iff_getElem.1 hx
    have := h j hj
    simpa [nthC, hj] using this
theorem not_allC {l : List Int} {lo hi : Int} {j : Nat} (hj : j < l.length) (h : okNC lo hi (nthC l j) = false) : l.all (okNC lo hi) = false := by
  cases e : l.all (okNC lo hi) with
  | false => rfl
  | true => have := (allC_iff l lo hi).1 e j hj; rw [h] at this; cases this
theorem checkR_len {l : List Int} {m : Nat} {lo hi : Int} (h : l.length ≠ m) : checkR l m lo hi = 2 := by unfold checkR; rw [if_pos h]
theorem checkR_bad {l : List Int} {m : Nat} {lo hi : Int} (h : l.length = m) (h2 : l.all (okNC lo hi) = false) : checkR l m lo hi = 3 := by unfold checkR; rw [if_neg (by omega), h2]; rfl
theorem checkR_ok {l : List Int} {m : Nat} {lo hi : Int} (h : l.length = m) (h2 : l.all (okNC lo hi) = true) : checkR l m lo hi = 0 := by unfold checkR; rw [if_neg (by omega), h2]; rfl
theorem checkR_cases (l : List Int) (m : Nat) (lo hi : Int) : checkR l m lo hi = 2 ∨ checkR l m lo hi = 3 ∨ (checkR l m lo hi = 0 ∧ l.length = m ∧ l.all (okNC lo hi) = true) := by
  by_cases h : l.length = m
  · cases h2 : l.all (okNC lo hi) with
    | true => exact .inr (.inr ⟨checkR_ok h h2, h, rfl⟩)
    | false => exact .inr (.inl (checkR_bad h h2))
  · exact .inl (checkR_len h)
theorem checkR_in {l : List Int} {m : Nat} {lo hi : Int} (h : l.all (okNC lo hi) = true) {M : Int} (hM : 0 ≤ M) (h1 : -M ≤ lo) (h2 : hi ≤ M) (j : Nat) : -M ≤ nthC l j ∧ nthC l j ≤ M := by
  apply nth_in hM
  intro x hx
  have := (okNC_iff lo hi x).1 (List.all_eq_true.1 h x hx)
  omega
theorem lineR_bad {l : List Int} (h : checkR l 8 (-1099511627776) 1099511627776 ≠ 0) : lineR l = (checkR l 8 (-1099511627776) 1099511627776, []) := by unfold lineR; rw [if_neg h]
theorem lineR_ok {l : List Int} (h : checkR l 8 (-1099511627776) 1099511627776 = 0) : lineR l = (0, lineS l) := by unfold lineR; rw [if_pos h]
theorem invR_bad {l : List Int} (h : checkR l 64 (-2048) 2047 ≠ 0) : invR l = (checkR l 64 (-2048) 2047, []) := by unfold invR; rw [if_neg h]
theorem invR_ok {l : List Int} (h : checkR l 64 (-2048) 2047 = 0) : invR l = (0, invL l) := by unfold invR; rw [if_pos h]

/-- two rows of weights, multiplied place by place -/
def rowsC (u v : Nat) : Int := smC 8 fun x => wt u x * wt v x
theorem rows_near : ∀ u v : Fin 8, (u = v → -20000 < rowsC u v - 16777216 ∧ rowsC u v - 16777216 < 20000) ∧ (u ≠ v → -20000 < rowsC u v ∧ rowsC u v < 20000) := by decide +kernel

end Go.Proofs.Ytpmdeoiajnfabaa
