/- loop, plainly: a row, softened; a block, filtered; what follows. -/
import Derived.Test.YtenplmmongphoaaCPlain
namespace Go.Proofs.Ytenplmmongphoaa
open Go.RowKit Go.Shelf
set_option linter.unusedVariables false

/-- the i-th number of eight, softened -/
def sof (g : Nat → Int) (i : Nat) : Int := if i = 0 then 4 * g 0 else if i = 7 then 4 * g 7 else g (i - 1) + 2 * g i + g (i + 1)
theorem sof_congr {g h : Nat → Int} {i : Nat} (hi : i < 8) (e : ∀ j, j < 8 → g j = h j) : sof g i = sof h i := by
  unfold sof
  by_cases h0 : i = 0
  · rw [if_pos h0, if_pos h0, e 0 (by omega)]
  · by_cases h7 : i = 7
    · rw [if_neg h0, if_neg h0, if_pos h7, if_pos h7, e 7 (by omega)]
    · rw [if_neg h0, if_neg h0, if_neg h7, if_neg h7, e _ (show i - 1 < 8 by omega), e i hi, e _ (show i + 1 < 8 by omega)]
theorem sof_in {g : Nat → Int} {lo hi : Int} (h : ∀ j, j < 8 → lo ≤ g j ∧ g j ≤ hi) {i : Nat} (hi8 : i < 8) : 4 * lo ≤ sof g i ∧ sof g i ≤ 4 * hi := by
  unfold sof
  have a0 := h 0 (by omega)
  have a7 := h 7 (by omega)
  by_cases h0 : i = 0
  · rw [if_pos h0]; omega
  · by_cases h7 : i = 7
    · rw [if_neg h0, if_pos h7]; omega
    · rw [if_neg h0, if_neg h7]
      have b0 := h (i - 1) (by omega)
      have b1 := h i hi8
      have b2 := h (i + 1) (by omega)
      omega
/-- rows first or columns first -/
theorem sof_swap (b : Nat → Nat → Int) (x y : Nat) : sof (fun u => sof (fun v => b v u) y) x = sof (fun v => sof (fun u => b v u) x) y := by
  unfold sof
  by_cases x0 : x = 0 <;> by_cases x7 : x = 7 <;> by_cases y0 : y = 0 <;> by_cases y7 : y = 7 <;> simp only [x0, x7, y0, y7, if_true, if_false] <;> (try omega)

theorem ofC_snocL (k : Nat) (f : Nat → Int) : intV (ofC k f) ++ [.int .i64 (f k)] = intV (ofC (k + 1) f) := by unfold ofC intV; rw [List.range_succ]; simp
/-- what Soften answers -/
def sfE (l : List Int) : Int := if l.length = 8 ∧ l.all (okNC (-1099511627776) 1099511627776) = true then 0 else 2
def sfL (l : List Int) : List Int := if sfE l = 0 then ofC 8 (sof (nthC l)) else []
theorem sfL_length (l : List Int) : (sfL l).length = if sfE l = 0 then 8 else 0 := by
  unfold sfL
  split
  · exact ofC_length _ _
  · rfl
theorem sfE_cases (l : List Int) : (l.length ≠ 8 ∧ sfE l = 2) ∨ (l.length = 8 ∧ l.all (okNC (-1099511627776) 1099511627776) = false ∧ sfE l = 2) ∨ (l.length = 8 ∧ l.all (okNC (-1099511627776) 1099511627776) = true ∧ sfE l = 0) := by
  unfold sfE
  by_cases h : l.length = 8
  · cases h2 : l.all (okNC (-1099511627776) 1099511627776) with
    | true => exact .inr (.inr ⟨h, rfl, if_pos ⟨h, rfl⟩⟩)
    | false => exact .inr (.inl ⟨h, rfl, if_neg (fun e => by cases e.2)⟩)
  · exact .inl ⟨h, if_neg (fun e => h e.1)⟩
theorem sf_none {l : List Int} (h : sfE l = 2) : sfL l = [] := by unfold sfL; rw [if_neg (by omega)]
theorem sf_ok {l : List Int} (h : l.length = 8) (hb : ∀ j, j < 8 → -1099511627776 ≤ nthC l j ∧ nthC l j ≤ 1099511627776) : sfE l = 0 ∧ sfL l = ofC 8 (sof (nthC l)) := by
  have e : sfE l = 0 := by
    unfold sfE
    refine if_pos ⟨h, (allC_iff _ _ _).2 fun j hj => ?_⟩
    have := hb j (by omega)
    unfold okNC
    simp
    omega
  exact ⟨e, by unfold sfL; rw [if_pos e]⟩
/-- a byte's number -/
def bN (zs : List UInt8) (k : Nat) : Int := ((zs[k]?.getD 0).toNat : Int)
theorem bN_in (zs : List UInt8) (k : Nat) : 0 ≤ bN zs k ∧ bN zs k ≤ 255 := by
  unfold bN
  have := (zs[k]?.getD 0).toNat_lt
  omega
/-- the k-th number, softened in its row and then in its column -/
def sf2 (b : Nat → Int) (k : Nat) : Int := sof (fun v => sof (fun u => b (8 * v + u)) (k % 8)) (k / 8)
theorem sf2_in {b : Nat → Int} (h : ∀ k, 0 ≤ b k ∧ b k ≤ 255) {k : Nat} (hk : k < 64) : 0 ≤ sf2 b k ∧ sf2 b k ≤ 4080 := by
  unfold sf2
  have := sof_in (g := fun v => sof (fun u => b (8 * v + u)) (k % 8)) (lo := 0) (hi := 1020) (fun v hv => by
    have := sof_in (g := fun u => b (8 * v + u)) (lo := 0) (hi := 255) (fun u hu => h _) (show k % 8 < 8 by omega)
    simpa using this) (show k / 8 < 8 by omega)
  omega
/-- what Filter answers -/
def fbE (n : Nat) : Int := if n = 64 then 0 else 2
def fbB (zs : List UInt8) (k : Nat) : UInt8 := UInt8.ofNat ((sf2 (bN zs) k + 8) / 16).toNat
def fbL (zs : List UInt8) : List UInt8 := if zs.length = 64 then (List.range 64).map (fbB zs) else []
theorem fbB_val {zs : List UInt8} {k : Nat} (hk : k < 64) : ((fbB zs k).toNat : Int) = (sf2 (bN zs) k + 8) / 16 := by
  have := sf2_in (bN_in zs) hk
  unfold fbB
  have h2 : ((sf2 (bN zs) k + 8) / 16).toNat < 256 := by omega
  rw [UInt8.toNat_ofNat_of_lt' (by simpa using h2)]
  omega
theorem fbL_length (zs : List UInt8) : (fbL zs).length = if zs.length = 64 then 64 else 0 := by
  unfold fbL
  split
  · simp
  · rfl
theorem fbL_get {zs : List UInt8} (h : zs.length = 64) {k : Nat} (hk : k < 64) : bN (fbL zs) k = (sf2 (bN zs) k + 8) / 16 := by
  rw [← fbB_val hk]
  unfold bN fbL
  rw [if_pos h]
  simp [hk]

/-- what a place of a block is worth, its line softened -/
def lnL (d : Bool) (b : Nat → Int) (j : Nat) : Int := sof (fun t => b (plC d (coC d j) t)) (ixC d j)
/-- a block of which so many lines are told, and so many places of one more -/
def fillG (d : Bool) (F : Nat → Int) (f k : Nat) : List Int := ofC 64 fun j => if coC d j < f ∨ (coC d j = f ∧ ixC d j < k) then F j else 0
theorem fillG_length (d : Bool) (F : Nat → Int) (f k : Nat) : (fillG d F f k).length = 64 := ofC_length _ _
theorem fillG_zero (d : Bool) (F : Nat → Int) : fillG d F 0 0 = List.replicate 64 0 := listC_ext (fillG_length _ _ _ _) rfl (fun j hj => by
  unfold fillG
  rw [ofC_get hj, if_neg (by omega)]
  unfold nthC
  rw [List.getElem?_replicate, if_pos hj]
  rfl)
theorem fillG_step (d : Bool) (F : Nat → Int) {f k : Nat} (hf : f < 8) (hk : k < 8) : (fillG d F f k).set (plC d f k) (F (plC d f k)) = fillG d F f (k + 1) := by
  unfold fillG
  rw [ofC_set (pl_lt d hf hk)]
  apply ofC_congr
  intro j hj
  by_cases h : j = plC d f k
  · obtain ⟨h1, h2⟩ := (pl_ne d hf hk).1 h
    rw [if_pos h, if_pos (by omega), h]
  · rw [if_neg h]
    have h' : ¬ (coC d j = f ∧ ixC d j = k) := fun e => h ((pl_ne d hf hk).2 e)
    by_cases h2 : coC d j < f ∨ (coC d j = f ∧ ixC d j < k)
    · rw [if_pos h2, if_pos (by omega)]
    · rw [if_neg h2, if_neg (by omega)]
theorem fillG_next (d : Bool) (F : Nat → Int) (f : Nat) : fillG d F f 8 = fillG d F (f + 1) 0 := by
  unfold fillG
  apply ofC_congr
  intro j hj
  have := ix_lt d hj
  by_cases h2 : coC d j < f + 1
  · rw [if_pos (by omega), if_pos (by omega)]
  · rw [if_neg (by omega), if_neg (by omega)]
theorem fillG_all (d : Bool) (F : Nat → Int) : fillG d F 8 0 = ofC 64 F := by
  unfold fillG
  apply ofC_congr
  intro j hj
  rw [if_pos (.inl (co_lt d hj))]
/-- the same of bytes -/
def fillB (d : Bool) (F : Nat → UInt8) (f k : Nat) : List UInt8 := (List.range 64).map fun j => if coC d j < f ∨ (coC d j = f ∧ ixC d j < k) then F j else 0
theorem fillB_length (d : Bool) (F : Nat → UInt8) (f k : Nat) : (fillB d F f k).length = 64 := by simp [fillB]
theorem fillB_get (d : Bool) (F : Nat → UInt8) (f k : Nat) {j : Nat} (hj : j < 64) : (fillB d F f k)[j]? = some (if coC d j < f ∨ (coC d j = f ∧ ixC d j < k) then F j else 0) := by simp [fillB, hj]
theorem listB_ext {n : Nat} {a b : List UInt8} (ha : a.length = n) (hb : b.length = n) (h : ∀ j, j < n → a[j]? = b[j]?) : a = b := by
  apply List.ext_getElem?
  intro j
  by_cases hj : j < n
  · exact h j hj
  · rw [List.getElem?_eq_none (by omega), List.getElem?_eq_none (by omega)]
theorem fillB_zero (d : Bool) (F : Nat → UInt8) : fillB d F 0 0 = List.replicate 64 0 := listB_ext (fillB_length _ _ _ _) (by simp) (fun j hj => by
  rw [fillB_get _ _ _ _ hj, if_neg (by omega), List.getElem?_replicate, if_pos hj])
theorem fillB_step (d : Bool) (F : Nat → UInt8) {f k : Nat} (hf : f < 8) (hk : k < 8) : (fillB d F f k).set (plC d f k) (F (plC d f k)) = fillB d F f (k + 1) := by
  refine listB_ext (n := 64) (by simp [fillB]) (fillB_length _ _ _ _) (fun j hj => ?_)
  rw [fillB_get _ _ _ _ hj, List.getElem?_set]
  by_cases h : plC d f k = j
  · obtain ⟨h1, h2⟩ := (pl_ne d hf hk).1 h.symm
    rw [if_pos h, if_pos (by rw [fillB_length, h]; exact hj), if_pos (by omega), h]
  · rw [if_neg h, fillB_get _ _ _ _ hj]
    have h' : ¬ (coC d j = f ∧ ixC d j = k) := fun e => h ((pl_ne d hf hk).2 e).symm
    by_cases h2 : coC d j < f ∨ (coC d j = f ∧ ixC d j < k)
    · rw [if_pos h2, if_pos (by omega)]
    · rw [if_neg h2, if_neg (by omega)]
theorem fillB_next (d : Bool) (F : Nat → UInt8) (f : Nat) : fillB d F f 8 = fillB d F (f + 1) 0 := listB_ext (fillB_length _ _ _ _) (fillB_length _ _ _ _) (fun j hj => by
  rw [fillB_get _ _ _ _ hj, fillB_get _ _ _ _ hj]
  have := ix_lt d hj
  by_cases h2 : coC d j < f + 1
  · rw [if_pos (by omega), if_pos (by omega)]
  · rw [if_neg (by omega), if_neg (by omega)])
theorem fillB_all (d : Bool) (F : Nat → UInt8) : fillB d F 8 0 = (List.range 64).map F := listB_ext (fillB_length _ _ _ _) (by simp) (fun j hj => by
  rw [fillB_get _ _ _ _ hj, if_pos (.inl (co_lt d hj))]
  simp [hj])
/-- rows, then columns -/
theorem ln_twice (b : Nat → Int) {j : Nat} (hj : j < 64) : lnL true (nthC (ofC 64 (lnL false b))) j = sf2 b j := by
  unfold lnL sf2
  have hx : coC true j = j % 8 := rfl
  have hy : ixC true j = j / 8 := rfl
  rw [hx, hy]
  refine sof_congr (by omega) (fun v hv => ?_)
  have hp : plC true (j % 8) v = 8 * v + j % 8 := rfl
  rw [hp, ofC_get (by omega)]
  have h1 : coC false (8 * v + j % 8) = v := by show (8 * v + j % 8) / 8 = v; omega
  have h2 : ixC false (8 * v + j % 8) = j % 8 := by show (8 * v + j % 8) % 8 = j % 8; omega
  rw [h1, h2]
  exact sof_congr (by omega) (fun u hu => rfl)
/-- columns, then rows -/
theorem ln_twice2 (b : Nat → Int) {j : Nat} (hj : j < 64) : lnL false (nthC (ofC 64 (lnL true b))) j = sf2 b j := by
  unfold lnL sf2
  have hx : coC false j = j / 8 := rfl
  have hy : ixC false j = j % 8 := rfl
  rw [hx, hy]
  rw [← sof_swap (fun v u => b (8 * v + u)) (j % 8) (j / 8)]
  refine sof_congr (by omega) (fun u hu => ?_)
  have hp : plC false (j / 8) u = 8 * (j / 8) + u := rfl
  rw [hp, ofC_get (by omega)]
  have h1 : coC true (8 * (j / 8) + u) = u := by show (8 * (j / 8) + u) % 8 = u; omega
  have h2 : ixC true (8 * (j / 8) + u) = j / 8 := by show (8 * (j / 8) + u) / 8 = j / 8; omega
  rw [h1, h2]
  exact sof_congr (by omega) (fun v hv => rfl)
theorem lnL_in {d : Bool} {b : Nat → Int} {lo hi : Int} (h : ∀ k, lo ≤ b k ∧ b k ≤ hi) {j : Nat} (hj : j < 64) : 4 * lo ≤ lnL d b j ∧ lnL d b j ≤ 4 * hi := sof_in (fun t ht => h _) (ix_lt d hj)

/-- a line of a block, softened -/
theorem soft_line (d : Bool) {b : Nat → Int} (hb : ∀ k, -1099511627776 ≤ b k ∧ b k ≤ 1099511627776) {f : Nat} (hf : f < 8) :
    sfE (ofC 8 fun t => b (plC d f t)) = 0 ∧ (sfL (ofC 8 fun t => b (plC d f t))).length = 8 ∧ ∀ k, k < 8 → nthC (sfL (ofC 8 fun t => b (plC d f t))) k = lnL d b (plC d f k) := by
  obtain ⟨h1, h2⟩ := sf_ok (l := ofC 8 fun t => b (plC d f t)) (ofC_length _ _) (fun j hj => by rw [ofC_get hj]; exact hb _)
  refine ⟨h1, by rw [h2]; exact ofC_length _ _, fun k hk => ?_⟩
  rw [h2, ofC_get hk]
  unfold lnL
  rw [co_pl d hf hk, ix_pl d hf hk]
  exact sof_congr hk (fun j hj => ofC_get hj)

end Go.Proofs.Ytenplmmongphoaa
