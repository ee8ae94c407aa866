/- Slice literals, rows of one cell, appends behind a guard: what many packages' texts want. Codes of which none begins another one: what is got of bits that begin with one, and of bits that are cut off. Codes written one behind the other with a pen, plainly: what is got of them. -/
import Derived.Test.YtlcaboddkcpgaaaDoorKit
import Derived.Great.Walk
import Derived.Test.YtlcaboddkcpgaaaDoorPen
/- Slice literals, rows of one cell, appends behind a guard: what many packages' texts want. -/
namespace Go.Proofs.YtlcaboddkcpgaaaDoor
open Go.RowKit Go.Shelf
set_option linter.unusedVariables false

theorem two_cells (w : World) (x y : Value) (t : TypeId) : (w.alloc (.cells #[x, y] t (0, 0))).cell? ⟨w.heap.size, 0, none⟩ = some x ∧ (w.alloc (.cells #[x, y] t (0, 0))).cell? ⟨w.heap.size, 1, none⟩ = some y := by
  have h := World.alloc_heap_new w (.cells #[x, y] t (0, 0))
  generalize w.alloc (.cells #[x, y] t (0, 0)) = w' at h ⊢
  simp [World.cell?, h]
theorem src_two (w : World) (x y : Value) (t : TypeId) : ∀ j u, [x, y][j]? = some u → (w.alloc (.cells #[x, y] t (0, 0))).cell? ((⟨w.heap.size, 0, none⟩ : Addr).add j) = some u := by
  intro j u hu
  obtain ⟨h0, h1⟩ := two_cells w x y t
  match j, hu with
  | 0, hu => cases hu; exact h0
  | 1, hu => cases hu; exact h1
theorem two_one {k : IntKind} {x y : Int} : ∀ u ∈ [Value.int k x, Value.int k y], u.oneCell' = true := by
  intro u hu
  simp at hu
  rcases hu with rfl | rfl <;> rfl
theorem src_row (w : World) (xs : List Value) (t : TypeId) : ∀ j u, xs[j]? = some u → (w.alloc (.cells xs.toArray t (0, 0))).cell? ((⟨w.heap.size, 0, none⟩ : Addr).add j) = some u := by
  intro j u hu
  have h := World.alloc_heap_new w (.cells xs.toArray t (0, 0))
  generalize w.alloc (.cells xs.toArray t (0, 0)) = w' at h ⊢
  have hadd : (⟨w.heap.size, 0, none⟩ : Addr).add j = ⟨w.heap.size, 0 + j, none⟩ := by unfold Addr.add; split <;> simp_all
  rw [hadd, Nat.zero_add]
  simp [World.cell?, h, hu]
theorem stop_slice {P : Program} {ops : Array Oper} {rest : List Oper} {o : Oper} {a : Act} {w : World} {Q : Exit → Act → World → Prop} (t : TypeId) (len : Nat) (parts : Array (Nat × Operand)) (ho : o.op = .buildSlice t len parts) (h : wpList P ops Q (o :: rest) a w) : wpList P ops Q (o :: rest) a w := h
theorem rowV_new (w : World) (xs : List Value) (t : TypeId) (n : Nat) (hn : xs.length = n) (hl : n ≤ 1000) : RowV (w.alloc (.cells xs.toArray t (0, 0))).heap.size (w.alloc (.cells xs.toArray t (0, 0))) (some ⟨w.heap.size, 0, none⟩) n n xs := by
  subst hn
  refine ⟨rfl, Nat.le_refl _, by omega, .inr ⟨w.heap.size, 0, rfl, by simp, fun j u hu => ?_⟩⟩
  have h := src_row w xs t j u hu
  have hadd : (⟨w.heap.size, 0, none⟩ : Addr).add j = ⟨w.heap.size, 0 + j, none⟩ := by unfold Addr.add; split <;> simp_all
  rwa [hadd] at h
theorem src_one (w : World) (x : Value) (t : TypeId) : Src (w.alloc (.cells #[x] t (0, 0))) (some ⟨w.heap.size, 0, none⟩) 1 [x] := ⟨rfl, .inr ⟨_, rfl, src_row w [x] t⟩⟩
theorem rowV_own4 {w : World} {base n : Nat} {e : TypeId} {v : Value} {xs : List Value} (h : w.ownsRow base e 1 v n xs) : ∃ a cap, v = .slice a n cap ∧ RowV w.heap.size w a n cap xs := by
  have hl : xs.length = n := by have := h.1; omega
  subst hl
  rcases id h.2 with ⟨rfl, h0⟩ | ⟨g, cap, cur, rfl, _, hg, hc, hm, _⟩
  · exact ⟨none, 0, by rw [h0], rfl, by omega, by omega, .inl rfl⟩
  · refine ⟨_, cap, rfl, rfl, hc, by unfold maxLen at hm; omega, .inr ⟨g, 0, rfl, (Array.getElem?_eq_some_iff.1 hg).1, fun j u hu => ?_⟩⟩
    have hj : j < xs.length := by
      false_or_by_contra
      rw [List.getElem?_eq_none (by omega)] at hu
      cases hu
    rw [Nat.zero_add, h.cellAt j (by omega), hu]
theorem RowV.mono4 {n₀ n₁ : Nat} {w : World} {a : Option Addr} {len cap : Nat} {vs : List Value} (h : RowV n₀ w a len cap vs) (hn : n₀ ≤ n₁) : RowV n₁ w a len cap vs := by
  obtain ⟨h1, h2, h3, h4⟩ := h
  exact ⟨h1, h2, h3, h4.imp id fun ⟨b, off, e, hlt, hc⟩ => ⟨b, off, e, Nat.lt_of_lt_of_le hlt hn, hc⟩⟩
theorem own_one (w : World) (x : Value) (t : TypeId) : (w.alloc (.cells #[x] t (0, 0))).ownsRow w.heap.size t 1 (.slice (some ⟨w.heap.size, 0, none⟩) 1 1) 1 [x] :=
  ⟨rfl, .inr ⟨w.heap.size, 1, #[x], rfl, Nat.le_refl _, World.alloc_heap_new _ _, Nat.le_refl _, by unfold maxLen; decide, rfl, rfl⟩⟩
theorem wpList_append_src_w {w : World} {ops : Array Oper} {rest : List Oper} {o : Oper} {a : Act} {Q : Exit → Act → World → Prop} (hw : Region.wanted o (yielded ops a.tmps) = true) (s x : Operand)
    (ho : o.op = .call { callee := .builtin .append, args := #[s, x], argTypes := #[22, 22] }) (base : Nat) (v : Value) (n : Nat) (xs : List Value) (hv : a.eval s = v) (hown : w.ownsRow base 5 1 v n xs)
    (A : Option Addr) (m c : Nat) (news : List Value) (hx : a.eval x = .slice A m c) (hs : Src w A m news) (hnc : A = none → c = 0) (h1 : ∀ u ∈ news, u.oneCell' = true) (hfit : n + m ≤ 140737488355328) (hbase : base ≤ w.heap.size)
    (h : ∀ v' w', Appended w w' base v v' (n + m) (xs ++ news) → wpList Tryd.prog ops Q rest (a.put o.dst v') w') : wpList Tryd.prog ops Q (o :: rest) a w := by
  unfold wpList
  rw [if_pos hw]
  exact .inl (wp_append_src s x ho base v n xs hv hown A m c news hx hs hnc h1 hfit hbase h)

end Go.Proofs.YtlcaboddkcpgaaaDoor

/- Codes of which none begins another one: what is got of bits that begin with one, and of bits that are cut off. -/
namespace Go.Proofs.YtlcaboddkcpgaaaDoor
open Go.RowKit Go.Shelf
set_option linter.unusedVariables false

theorem codes_apart {codes : List ByteArray} (hc : clash codes = false) {i j : Nat} (hi : i < codes.length) (hj : j < codes.length) (h : begins (codes[i]?.getD ⟨#[]⟩) (codes[j]?.getD ⟨#[]⟩) = true) : i = j := by
  false_or_by_contra
  rename_i hne
  have := clash_true (codes := codes) (i := i) (k := j) hi hj (by unfold clashAt; rw [h]; simp [hne])
  rw [hc] at this
  cases this
theorem begins_transC {a b c : ByteArray} (h1 : begins a b = true) (h2 : begins b c = true) : begins a c = true := by
  unfold begins at *
  rw [decide_eq_true_iff] at *
  exact h2.trans h1
theorem begins_bothC {s a b : ByteArray} (h1 : begins s a = true) (h2 : begins s b = true) : begins a b = true ∨ begins b a = true := by
  unfold begins at *
  simp only [decide_eq_true_iff] at *
  rcases List.prefix_or_prefix_of_prefix h1 h2 with h | h
  · exact .inr h
  · exact .inl h
theorem codes_one {codes : List ByteArray} (hc : clash codes = false) {S : ByteArray} {k : Nat} (hk : k < codes.length) (h : begins S (codes[k]?.getD ⟨#[]⟩) = true) : getI codes S = some k := by
  refine getI_some hk h (fun j hj => ?_)
  rw [Bool.eq_false_iff]
  intro hb
  rcases begins_bothC h hb with e | e
  · have := codes_apart hc hk (by omega) e; omega
  · have := codes_apart hc (by omega) hk e; omega
theorem codes_cut {codes : List ByteArray} (hc : clash codes = false) {S : ByteArray} {k : Nat} (hk : k < codes.length) (h1 : begins S (codes[k]?.getD ⟨#[]⟩) = false) (h2 : begins (codes[k]?.getD ⟨#[]⟩) S = true) : getI codes S = none ∧ getMore codes S = true := by
  refine ⟨getI_none (fun j hj => ?_), getMore_true hk h2⟩
  rw [Bool.eq_false_iff]
  intro hb
  have := codes_apart hc hk hj (begins_transC h2 hb)
  subst this
  rw [h1] at hb
  cases hb
/-- a code's text, of its bits -/
def bitsT (l : List Nat) : ByteArray := ⟨(l.map fun b => UInt8.ofNat (48 + b)).toArray⟩

end Go.Proofs.YtlcaboddkcpgaaaDoor

/- Codes written one behind the other with a pen, plainly: what is got of them. -/
namespace Go.Proofs.YtlcaboddkcpgaaaDoor
open Go.RowKit Go.Shelf
set_option linter.unusedVariables false

/-- the texts of a list of places, one behind the other -/
def wtexts (K : List ByteArray) (ps : List Nat) : List Bool := ps.flatMap fun n => textBits (K[n]?.getD ⟨#[]⟩)
theorem wtexts_append (K : List ByteArray) (ps qs : List Nat) : wtexts K (ps ++ qs) = wtexts K ps ++ wtexts K qs := by simp [wtexts]
theorem wtexts_one (K : List ByteArray) (n : Nat) : wtexts K [n] = textBits (K[n]?.getD ⟨#[]⟩) := by simp [wtexts]
theorem wtexts_len (K : List ByteArray) (ps : List Nat) (h : ∀ n : Nat, (K[n]?.getD (⟨#[]⟩ : ByteArray)).size ≤ 24) : (wtexts K ps).length ≤ 24 * ps.length := by
  induction ps with
  | nil => simp [wtexts]
  | cons p ps ih =>
    have := h p
    simp only [wtexts, List.flatMap_cons, List.length_append, List.length_cons, textBits_len] at *
    omega
/-- picks of a list of numbers -/
def wpickN (ns : List Int) (m : Nat) (k : Nat) : Nat := ((ns[k]?.getD 0) % (m : Int)).toNat
def wpicks (ns : List Int) (m k : Nat) : List Nat := (List.range k).map (wpickN ns m)
theorem wpicks_succ (ns : List Int) (m k : Nat) : wpicks ns m (k + 1) = wpicks ns m k ++ [wpickN ns m k] := by simp [wpicks, List.range_succ]
theorem wpicks_len (ns : List Int) (m k : Nat) : (wpicks ns m k).length = k := by simp [wpicks]
theorem wpicks_split (ns : List Int) (m k n : Nat) (h : k < n) : ∃ rest, wpicks ns m n = wpicks ns m k ++ ([wpickN ns m k] ++ rest) := by
  obtain ⟨d, rfl⟩ : ∃ d, n = k + 1 + d := ⟨n - (k + 1), by omega⟩
  refine ⟨(List.range d).map (fun j => wpickN ns m (k + 1 + j)), ?_⟩
  unfold wpicks
  rw [List.range_add, List.range_succ]
  simp
theorem wpickN_lt (ns : List Int) {m : Nat} (k : Nat) (h : 0 < m) : wpickN ns m k < m := by
  unfold wpickN
  have := Int.emod_lt_of_pos (ns[k]?.getD 0) (b := (m : Int)) (by omega)
  have := Int.emod_nonneg (ns[k]?.getD 0) (b := (m : Int)) (by omega)
  omega
theorem wpickN_eq (ns : List Int) {m : Nat} (k : Nat) (h : 0 < m) : (ns[k]?.getD 0) % (m : Int) = (wpickN ns m k : Int) := by
  unfold wpickN
  have := Int.emod_nonneg (ns[k]?.getD 0) (b := (m : Int)) (by omega)
  omega

/-- bits that were written are seen -/
theorem packed_begins {zs : List UInt8} {pre post : List Bool} {c : ByteArray} (hp : Packed zs (pre ++ (textBits c ++ post))) (hc : AllBits c) (h24 : c.size ≤ 24) : begins (seenB zs pre.length (seenN zs pre.length)) c = true := by
  have hlen : (pre ++ (textBits c ++ post)).length = pre.length + (c.size + post.length) := by simp [textBits_len]
  have hn : c.size ≤ seenN zs pre.length := by
    unfold seenN
    have := hp.1
    omega
  unfold begins
  rw [decide_eq_true_iff]
  show c.data.toList <+: seenL zs pre.length (seenN zs pre.length)
  rw [List.prefix_iff_eq_take]
  apply List.ext_getElem?
  intro i
  have hcl : c.data.toList.length = c.size := by simp
  by_cases hi : i < c.size
  · have h1 := hp.2 (pre.length + i) (by rw [hp.1, hlen]; omega)
    rw [List.getD_eq_getElem?_getD, List.getElem?_append_right (by omega), show pre.length + i - pre.length = i by omega, List.getElem?_append_left (by rw [textBits_len]; exact hi)] at h1
    have h2 : (textBits c)[i]? = some (c[i] == 49) := by
      unfold textBits
      rw [List.getElem?_map, List.getElem?_eq_getElem (by rw [hcl]; exact hi)]
      rfl
    rw [h2] at h1
    rw [List.getElem?_take, if_pos (by rw [hcl]; exact hi), List.getElem?_eq_getElem (by rw [hcl]; exact hi)]
    have h3 : (seenL zs pre.length (seenN zs pre.length))[i]? = some (UInt8.ofNat (48 + bt zs (pre.length + i))) := by
      unfold seenL
      rw [List.getElem?_map, List.getElem?_range (by omega)]
      rfl
    rw [h3, h1]
    have h4 : c.data.toList[i]'(by rw [hcl]; exact hi) = c[i] := by simp; rfl
    rw [h4]
    rcases hc i hi with e | e
    · rw [e]; rfl
    · rw [e]; rfl
  · rw [List.getElem?_eq_none (by rw [hcl]; omega), List.getElem?_eq_none (by simp; omega)]
theorem got_written {codes : List ByteArray} {nums : List Int} (hcl : clash codes = false) {zs : List UInt8} {pre post : List Bool} {k : Nat} (hk : k < codes.length) (hp : Packed zs (pre ++ (textBits (codes[k]?.getD ⟨#[]⟩) ++ post))) (hc : AllBits (codes[k]?.getD ⟨#[]⟩)) (h24 : (codes[k]?.getD (⟨#[]⟩ : ByteArray)).size ≤ 24) :
    getT codes nums zs (pre.length : Int) = .tuple #[.int .i64 (nums[k]?.getD 0), .int .i64 ((codes[k]?.getD (⟨#[]⟩ : ByteArray)).size : Nat), .int .i64 0] := by
  have hI := codes_one hcl hk (packed_begins hp hc h24)
  unfold getT
  rw [if_neg (by omega), Int.toNat_natCast]
  unfold getX getN getE3
  rw [hI]

end Go.Proofs.YtlcaboddkcpgaaaDoor
