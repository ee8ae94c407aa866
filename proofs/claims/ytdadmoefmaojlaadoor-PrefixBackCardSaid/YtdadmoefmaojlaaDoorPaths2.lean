/- Plainly: what Make, Get and Put of a tree answer, in words of bits. -/
import Derived.Test.YtdadmoefmaojlaaDoorPaths
namespace Go.Proofs.YtdadmoefmaojlaaDoor
open Go.RowKit Go.Shelf
set_option linter.unusedVariables false

/-- the bits from a place on: so many of them -/
def zbits (zs : List UInt8) (a n : Nat) : List Nat := (List.range n).map fun k => bt zs (a + k)
theorem zbits_len (zs : List UInt8) (a n : Nat) : (zbits zs a n).length = n := by simp [zbits]
theorem zbits_succ (zs : List UInt8) (a n : Nat) : zbits zs a (n + 1) = zbits zs a n ++ [bt zs (a + n)] := by simp [zbits, List.range_succ]
theorem zbits_take (zs : List UInt8) (a n m : Nat) (h : m ≤ n) : (zbits zs a n).take m = zbits zs a m := by
  simp [zbits, ← List.map_take, List.take_range, Nat.min_eq_left h]
theorem prefix_zbits {zs : List UInt8} {a n : Nat} {p : List Nat} (h : p <+: zbits zs a n) : p = zbits zs a p.length ∧ p.length ≤ n := by
  have hl := h.length_le
  rw [zbits_len] at hl
  exact ⟨(List.prefix_iff_eq_take.1 h).trans (zbits_take zs a n _ hl), hl⟩
theorem zbits_prefix {zs : List UInt8} {a m n : Nat} (h : m ≤ n) : zbits zs a m <+: zbits zs a n := by rw [← zbits_take zs a n m h]; exact List.take_prefix _ _
theorem seen_bits (zs : List UInt8) (a n : Nat) : bitsL (seenB zs a n) = zbits zs a n := by
  unfold bitsL seenB seenL zbits
  simp only [List.map_map]
  apply List.map_congr_left
  intro k _
  have := bt_le zs (a + k)
  show (UInt8.ofNat (48 + bt zs (a + k))).toNat - 48 = _
  rw [UInt8.toNat_ofNat', Nat.mod_eq_of_lt (by omega)]
  omega
theorem seen_all (zs : List UInt8) (a n : Nat) : AllBits (seenB zs a n) := by
  intro i hi
  have e : (seenB zs a n)[i] = UInt8.ofNat (48 + bt zs (a + i)) := by
    show (seenL zs a n).toArray[i]'(by simpa [seenB, ByteArray.size] using hi) = _
    simp [seenL]
  rw [e]
  have := bt_le zs (a + i)
  rcases (by omega : bt zs (a + i) = 0 ∨ bt zs (a + i) = 1) with h | h
  · left; rw [h]; rfl
  · right; rw [h]; rfl

/-- codes that a tree may have -/
def CodesOk (codes : List ByteArray) : Prop := (∀ s ∈ codes, codeB s = true) ∧ Free (codes.map bitsL)
theorem CodesOk.at_ {codes : List ByteArray} (h : CodesOk codes) {i : Nat} (hi : i < codes.length) : AllBits codes[i] ∧ 1 ≤ codes[i].size ∧ codes[i].size ≤ 24 := codeB_all (h.1 _ (List.getElem_mem hi))
theorem CodesOk.mem {codes : List ByteArray} {i : Nat} (hi : i < codes.length) : bitsL codes[i] ∈ codes.map bitsL := List.mem_map_of_mem (List.getElem_mem hi)
theorem CodesOk.inj {codes : List ByteArray} (h : CodesOk codes) {i j : Nat} (hi : i < codes.length) (hj : j < codes.length) (e : bitsL codes[i] = bitsL codes[j]) : i = j := by
  have hn := h.2.nodup
  have h1 : (codes.map bitsL)[i]'(by simpa using hi) = (codes.map bitsL)[j]'(by simpa using hj) := by simpa using e
  exact (List.getElem_inj hn).1 h1
/-- of no code the bits begin with one -/
def Open (cs : List (List Nat)) (p : List Nat) : Prop := ∀ c ∈ cs, ¬ c <+: p

theorem getT_nat (codes : List ByteArray) (nums : List Int) (zs : List UInt8) (a : Nat) : getT codes nums zs (a : Int) =
    .tuple #[.int .i64 (getX codes nums (seenB zs a (seenN zs a))), .int .i64 (getN codes (seenB zs a (seenN zs a))), .int .i64 (getE3 codes (seenB zs a (seenN zs a)))] := by
  unfold getT
  rw [if_neg (by omega), Int.toNat_natCast]
theorem getI_bits {codes : List ByteArray} (h : CodesOk codes) {s : ByteArray} (hs : AllBits s) {i : Nat} (hi : i < codes.length) (hp : bitsL codes[i] <+: bitsL s) : getI codes s = some i := by
  unfold getI
  rw [List.findIdx?_eq_some_iff_getElem]
  refine ⟨hi, (begins_iff hs (h.at_ hi).1).2 hp, fun j hj => ?_⟩
  intro hx
  have hj' : j < codes.length := by omega
  have hpj := (begins_iff hs (h.at_ hj').1).1 hx
  have : bitsL codes[i] = bitsL codes[j] := by
    rcases Nat.le_total (bitsL codes[i]).length (bitsL codes[j]).length with hl | hl
    · exact h.2.not_prefix (CodesOk.mem hi) (CodesOk.mem hj') (List.prefix_of_prefix_length_le hp hpj hl)
    · exact (h.2.not_prefix (CodesOk.mem hj') (CodesOk.mem hi) (List.prefix_of_prefix_length_le hpj hp hl)).symm
  have := h.inj hi hj' this
  omega
theorem getI_open {codes : List ByteArray} (h : CodesOk codes) {s : ByteArray} (hs : AllBits s) (ho : Open (codes.map bitsL) (bitsL s)) : getI codes s = none := by
  unfold getI
  rw [List.findIdx?_eq_none_iff]
  intro c hc
  obtain ⟨i, hi, rfl⟩ := List.getElem_of_mem hc
  rw [Bool.eq_false_iff]
  intro hx
  exact ho _ (CodesOk.mem hi) ((begins_iff hs (h.at_ hi).1).1 hx)
theorem getT_found {codes : List ByteArray} {nums : List Int} {zs : List UInt8} {a n i : Nat} (h : CodesOk codes) (hi : i < codes.length) (hn : n ≤ 8 * zs.length - a) (he : bitsL codes[i] = zbits zs a n) :
    getT codes nums zs (a : Int) = .tuple #[.int .i64 (nums[i]?.getD 0), .int .i64 n, .int .i64 0] := by
  have h24 := h.at_ hi
  have hlen : codes[i].size = n := by rw [← bitsL_len, he, zbits_len]
  have hg : getI codes (seenB zs a (seenN zs a)) = some i := by
    refine getI_bits h (seen_all _ _ _) hi ?_
    rw [seen_bits, he]
    exact zbits_prefix (by unfold seenN; omega)
  rw [getT_nat]
  unfold getX getN getE3
  rw [hg]
  simp [hi, hlen]
theorem getT_none {codes : List ByteArray} {nums : List Int} {zs : List UInt8} {a : Nat} (h : CodesOk codes) (ho : Open (codes.map bitsL) (zbits zs a (seenN zs a))) :
    getT codes nums zs (a : Int) = .tuple #[.int .i64 0, .int .i64 0, .int .i64 (if getMore codes (seenB zs a (seenN zs a)) then 5 else 7)] := by
  have hg : getI codes (seenB zs a (seenN zs a)) = none := getI_open h (seen_all _ _ _) (by rw [seen_bits]; exact ho)
  rw [getT_nat]
  unfold getX getN getE3
  rw [hg]
theorem getT_more {codes : List ByteArray} {nums : List Int} {zs : List UInt8} {a n : Nat} (h : CodesOk codes) (hn : n = 8 * zs.length - a) (ho : Open (codes.map bitsL) (zbits zs a n))
    (hp : ∃ c ∈ codes.map bitsL, zbits zs a n <+: c) : getT codes nums zs (a : Int) = .tuple #[.int .i64 0, .int .i64 0, .int .i64 5] := by
  obtain ⟨c, hc, hp⟩ := hp
  obtain ⟨i, hi, rfl⟩ := List.getElem_of_mem hc
  rw [List.length_map] at hi
  rw [List.getElem_map] at hp hc
  have h24 := h.at_ hi
  have hl := hp.length_le
  rw [zbits_len, bitsL_len] at hl
  have hs : seenN zs a = n := by unfold seenN; omega
  rw [getT_none h (by rw [hs]; exact ho), hs]
  have : getMore codes (seenB zs a n) = true := by
    unfold getMore
    rw [List.any_eq_true]
    exact ⟨codes[i], List.getElem_mem hi, (begins_iff h24.1 (seen_all _ _ _)).2 (by rw [seen_bits]; exact hp)⟩
  rw [this, if_pos rfl]
theorem getT_code {codes : List ByteArray} {nums : List Int} {zs : List UInt8} {a n : Nat} (h : CodesOk codes) (h0 : 0 < codes.length) (hn : n < 8 * zs.length - a) (ho : Open (codes.map bitsL) (zbits zs a n))
    (hp : n = 0 ∨ ∃ c ∈ codes.map bitsL, zbits zs a n <+: c) (hno : ∀ c ∈ codes.map bitsL, ¬ zbits zs a (n + 1) <+: c) : getT codes nums zs (a : Int) = .tuple #[.int .i64 0, .int .i64 0, .int .i64 7] := by
  have hn24 : n < 24 := by
    rcases hp with rfl | ⟨c, hc, hp⟩
    · omega
    · obtain ⟨i, hi, rfl⟩ := List.getElem_of_mem hc
      rw [List.length_map] at hi
      rw [List.getElem_map] at hp hc
      have h24 := h.at_ hi
      have hl := hp.length_le
      rw [zbits_len, bitsL_len] at hl
      by_cases e : n = codes[i].size
      · have := hp.eq_of_length (by rw [zbits_len, bitsL_len]; exact e)
        exact absurd (by rw [← this]; exact List.prefix_refl _) (ho _ hc)
      · omega
  have hs : n + 1 ≤ seenN zs a := by unfold seenN; omega
  have hopen : Open (codes.map bitsL) (zbits zs a (seenN zs a)) := by
    intro c hc hx
    obtain ⟨e, hl⟩ := prefix_zbits hx
    by_cases hcn : c.length ≤ n
    · exact ho c hc (by rw [e]; exact zbits_prefix hcn)
    · exact hno c hc (by rw [e]; exact zbits_prefix (by omega))
  rw [getT_none h hopen]
  have : getMore codes (seenB zs a (seenN zs a)) = false := by
    unfold getMore
    rw [List.any_eq_false]
    intro c hc
    obtain ⟨i, hi, rfl⟩ := List.getElem_of_mem hc
    intro hx
    have := (begins_iff (h.at_ hi).1 (seen_all _ _ _)).1 hx
    rw [seen_bits] at this
    exact hno _ (CodesOk.mem hi) ((zbits_prefix hs).trans this)
  rw [this]
  rfl

/-! ### Make -/
theorem makeE_free {codes : List ByteArray} {nums : List Int} (hl : codes.length = nums.length) (h0 : 0 < codes.length) (h3 : codes.length ≤ 300) (h : CodesOk codes) : makeE codes nums = 0 := by
  unfold makeE
  rw [if_neg (by omega), if_pos (List.all_eq_true.2 h.1), if_neg]
  intro hc
  have : clash codes = false := clash_false fun i hi k hk => by
    unfold clashAt
    by_cases e : i = k
    · subst e; simp
    · rw [decide_eq_true e, Bool.true_and, Bool.eq_false_iff]
      intro hx
      simp only [List.getElem?_eq_getElem hi, List.getElem?_eq_getElem hk, Option.getD_some] at hx
      have := (begins_iff (h.at_ hi).1 (h.at_ hk).1).1 hx
      exact e (h.inj hi hk (h.2.not_prefix (CodesOk.mem hk) (CodesOk.mem hi) this).symm)
  rw [this] at hc
  cases hc
theorem makeE_clash {codes : List ByteArray} {nums : List Int} (hl : codes.length = nums.length) (h3 : codes.length ≤ 300) (h : ∀ s ∈ codes, codeB s = true) {i : Nat} (hi : i < codes.length)
    (hc : ∃ c ∈ (codes.take i).map bitsL, c <+: bitsL codes[i] ∨ bitsL codes[i] <+: c) : makeE codes nums = 14 := by
  obtain ⟨c, hc, hp⟩ := hc
  obtain ⟨k, hk, rfl⟩ := List.getElem_of_mem hc
  rw [List.length_map, List.length_take] at hk
  have hk2 : k < codes.length := by omega
  have e : ((codes.take i).map bitsL)[k]'(by simpa using hk) = bitsL codes[k] := by simp
  rw [e] at hp
  have ai := codeB_all (h _ (List.getElem_mem hi))
  have ak := codeB_all (h _ (List.getElem_mem hk2))
  have hcl : clash codes = true := by
    rcases hp with hp | hp
    · refine clash_true hi hk2 ?_
      unfold clashAt
      rw [decide_eq_true (by omega : i ≠ k), Bool.true_and]
      simp only [List.getElem?_eq_getElem hi, List.getElem?_eq_getElem hk2, Option.getD_some]
      exact (begins_iff ai.1 ak.1).2 hp
    · refine clash_true hk2 hi ?_
      unfold clashAt
      rw [decide_eq_true (by omega : k ≠ i), Bool.true_and]
      simp only [List.getElem?_eq_getElem hi, List.getElem?_eq_getElem hk2, Option.getD_some]
      exact (begins_iff ak.1 ai.1).2 hp
  unfold makeE
  rw [if_neg (by omega), if_pos (List.all_eq_true.2 h), if_pos hcl]
theorem makeE_len {codes : List ByteArray} {nums : List Int} (h : codes.length ≠ nums.length ∨ codes.length = 0 ∨ 300 < codes.length) : makeE codes nums = 2 := by
  unfold makeE
  rw [if_pos h]
theorem makeE_bad {codes : List ByteArray} {nums : List Int} (h : codes.all codeB = false) : makeE codes nums = 2 := by
  unfold makeE
  rw [h]
  by_cases hb : codes.length ≠ nums.length ∨ codes.length = 0 ∨ 300 < codes.length
  · rw [if_pos hb]
  · rw [if_neg hb]; rfl

/-! ### Put -/
theorem putI_snoc (nums : List Int) (n x : Int) : putI (nums ++ [n]) x = match putI nums x with | some i => some i | none => if n = x then some nums.length else none := by
  unfold putI
  rw [List.findIdx?_append]
  cases h : nums.findIdx? (fun n => n == x) with
  | some i => rfl
  | none =>
    simp only [Option.none_or, List.findIdx?_cons]
    by_cases e : n = x
    · simp [e]
    · simp [e]

end Go.Proofs.YtdadmoefmaojlaaDoor
