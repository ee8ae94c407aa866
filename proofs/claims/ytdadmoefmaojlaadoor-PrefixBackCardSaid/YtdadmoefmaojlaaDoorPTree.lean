/- What the laws of prefix lean on: a tree's contracts, as one record; the contract of the law's Long. -/
import Derived.Test.YtdadmoefmaojlaaDoorKitInts
namespace Go.Proofs.YtdadmoefmaojlaaDoor
open Go.RowKit Go.Shelf
set_option linter.unusedVariables false

theorem RowV.mono {n₀ n₁ : Nat} {w : World} {a : Option Addr} {len cap : Nat} {vs : List Value} (h : RowV n₀ w a len cap vs) (hn : n₀ ≤ n₁) : RowV n₁ w a len cap vs := by
  obtain ⟨h1, h2, h3, h4⟩ := h
  exact ⟨h1, h2, h3, h4.imp id fun ⟨b, off, e, hlt, hc⟩ => ⟨b, off, e, by omega, hc⟩⟩
theorem rowV_own {w : World} {base n : Nat} {e : TypeId} {v : Value} {xs : List Value} (h : w.ownsRow base e 1 v n xs) : ∃ a cap, v = .slice a n cap ∧ RowV w.heap.size w a n cap xs := by
  have hl : xs.length = n := by have := h.1; omega
  subst hl
  rcases id h.2 with ⟨rfl, h0⟩ | ⟨g, cap, cur, rfl, _, hg, hc, hm, _⟩
  · exact ⟨none, 0, by rw [h0], rfl, by omega, by omega, .inl rfl⟩
  · refine ⟨_, cap, rfl, rfl, hc, by unfold maxLen at hm; omega, .inr ⟨g, 0, rfl, (Array.getElem?_eq_some_iff.1 hg).1, fun j u hu => ?_⟩⟩
    have hj : j < xs.length := by
      false_or_by_contra
      rw [List.getElem?_eq_none (by omega)] at hu
      cases hu
    rw [Nat.zero_add, h.cellAt j (by omega), hu]
theorem IsT.keep {S : Nat → Prop} {n₀ : Nat} {w w' : World} {b : Nat} {codes : List ByteArray} {nums : List Int} (h : IsT n₀ w b codes nums) (hb : Bar S w w') (hS : ∀ k, n₀ ≤ k → ¬ S k) : IsT n₀ w' b codes nums := by
  have hlt := h.lt
  obtain ⟨vc, vn, h1, h2, h3, h4, h5⟩ := h
  exact ⟨vc, vn, h1, (hb.block b hlt (hS b h1)).trans h2, ownsRow_bar h3 hb (fun k e => hS k (h3.lt k e).1), ownsRow_bar h4 hb (fun k e => hS k (h4.lt k e).1), h5⟩

/-- numbers that an int may be -/
def I64s (ns : List Int) : Prop := ∀ n ∈ ns, -9223372036854775808 ≤ n ∧ n ≤ 9223372036854775807
/-- a tree of prefix: what it is in memory, and what its functions answer -/
structure TreeI where
  IsP : Nat → Nat → World → Nat → List ByteArray → List Int → Prop
  keep : ∀ {S : Nat → Prop} {n₀ m₁ : Nat} {w w' : World} {b : Nat} {cs : List ByteArray} {ns : List Int}, IsP n₀ m₁ w b cs ns → Bar S w w' → (∀ k, n₀ ≤ k → k < m₁ → ¬ S k) → IsP n₀ m₁ w' b cs ns
  make : ∀ {w : World} {a a' : Option Addr} {len cap len' cap' : Nat} {cs : List ByteArray} {ns : List Int}, RowV w.heap.size w a len cap (strV cs) → RowV w.heap.size w a' len' cap' (intV ns) → (∀ s ∈ cs, s.size ≤ 9223372036854775807) → I64s ns →
    Calls Tryd.prog 11 #[.slice a len cap, .slice a' len' cap'] w fun e w' => Below w.heap.size w w' ∧
      ((makeE cs ns = 0 ∧ ∃ b, e = .returned (.tuple #[.pointer (some ⟨b, 0, none⟩), .int .i64 0]) ∧ IsP w.heap.size w'.heap.size w' b cs ns) ∨ (makeE cs ns ≠ 0 ∧ e = .returned (.tuple #[.pointer none, .int .i64 (makeE cs ns)])))
  get : ∀ {n₀ m₁ n₁ : Nat} {w : World} {b : Nat} {cs : List ByteArray} {ns : List Int} {sv : Value} {zs : List UInt8}, IsP n₀ m₁ w b cs ns → Byt n₁ w sv zs → n₁ ≤ w.heap.size → zs.length ≤ 1099511627776 → ∀ x : Int, x ≤ 9223372036854775807 →
    Calls Tryd.prog 15 #[.pointer (some ⟨b, 0, none⟩), sv, .int .i64 x] w fun e w' => e = .returned (getT cs ns zs x) ∧ Below w.heap.size w w'
  put : ∀ {n₀ m₁ : Nat} {w : World} {b : Nat} {cs : List ByteArray} {ns : List Int}, IsP n₀ m₁ w b cs ns → ∀ x : Int, -9223372036854775808 ≤ x → x ≤ 9223372036854775807 →
    Calls Tryd.prog 17 #[.pointer (some ⟨b, 0, none⟩), .int .i64 x] w fun e w' => e = .returned (.tuple #[.string (putS cs ns x), .int .i64 (putE3 ns x)]) ∧ Below w.heap.size w w'
  codes : ∀ {n₀ m₁ : Nat} {w : World} {b : Nat} {cs : List ByteArray} {ns : List Int}, IsP n₀ m₁ w b cs ns →
    Calls Tryd.prog 19 #[.pointer (some ⟨b, 0, none⟩)] w fun e w' => e = .returned (.int .i64 cs.length) ∧ Below w.heap.size w w'
theorem TreeI.later (I : TreeI) {n₀ m₁ : Nat} {w w' : World} {b : Nat} {cs : List ByteArray} {ns : List Int} (h : I.IsP n₀ m₁ w b cs ns) (hb : Below w.heap.size w w') : I.IsP n₀ m₁ w' b cs ns :=
  I.keep h (bar_of_below (S := fun _ => False) hb) (fun _ _ _ e => e)

theorem getT_form (cs : List ByteArray) (ns : List Int) (zs : List UInt8) (x : Int) : ∃ g n e : Int, getT cs ns zs x = .tuple #[.int .i64 g, .int .i64 n, .int .i64 e] := by
  unfold getT
  split
  · exact ⟨_, _, _, rfl⟩
  · exact ⟨_, _, _, rfl⟩

/-- more codes than are gone through? -/
def long3B (cs : List ByteArray) : Bool := (cs.take 61).any (fun s => decide (40 < s.size)) || (decide (60 < cs.length) && decide (cs.length ≤ 300))
theorem any_step3 {cs : List ByteArray} {i : Nat} (h : (cs.take i).any (fun s => decide (40 < s.size)) = false) (hi : i < cs.length) : (cs.take (i + 1)).any (fun s => decide (40 < s.size)) = decide (40 < (cs[i]?.getD ⟨#[]⟩).size) := by
  rw [List.take_add_one, List.any_append, h, Bool.false_or, List.getElem?_eq_getElem hi]
  simp
theorem any_mono3 {cs : List ByteArray} {i j : Nat} (h : (cs.take i).any (fun s => decide (40 < s.size)) = true) (hij : i ≤ j) : (cs.take j).any (fun s => decide (40 < s.size)) = true := by
  rw [List.any_eq_true] at h ⊢
  obtain ⟨x, hx, hp⟩ := h
  exact ⟨x, (List.take_subset_take_left cs hij) hx, hp⟩

set_option maxRecDepth 100000 in
set_option maxHeartbeats 1000000 in
theorem long3_any {n₀ : Nat} {w : World} {a : Option Addr} {len cap : Nat} {cs : List ByteArray} (h : RowV n₀ w a len cap (strV cs)) (hsz : ∀ s ∈ cs, s.size ≤ 9223372036854775807) :
    Calls Tryd.prog 8 #[.slice a len cap] w fun e w' => e = .returned (.bool (long3B cs)) ∧ w = w' := by
  have e1 : cs.length = len := by have := h.1; simpa using this
  subst e1
  have h1 := h.2.1
  have h2 := h.2.2.1
  have H := Lib.hid h
  have HSz : Hid (∀ j, j < cs.length → (cs[j]?.getD ⟨#[]⟩).size ≤ 9223372036854775807) := fun j hj => by
    have := hsz cs[j] (List.getElem_mem _)
    simpa [hj] using this
  clear h hsz
  go_enter Tryd.func8, Tryd.ntmps8
  go_wp2
  go_loop [3] (fun i => ∃ k : Nat, k ≤ cs.length ∧ k ≤ 61 ∧ i = .int .i64 k ∧ (cs.take k).any (fun s => decide (40 < s.size)) = false) (fun i => 61 - (intOf i).toNat)
  case atStart => exact ⟨0, by omega, by omega, rfl, rfl⟩
  case round =>
    obtain ⟨k, hk1, hk2, rfl, hany⟩ := hrel
    have HA := Lib.hid hany
    clear hany
    by_cases hlt : k < cs.length ∧ k < 61
    · obtain ⟨h1', h2'⟩ := hlt
      obtain ⟨b, off, rfl, _, hc⟩ := H.out.cells (by omega)
      have hcell := hc k _ (show (strV cs)[k]? = some (.string (cs[k]?.getD ⟨#[]⟩)) by simp [h1'])
      have hok := HSz.out k h1'
      have HN := Lib.hid (any_step3 HA.out h1')
      have hd1 : decide (k < cs.length) = true := by simpa using h1'
      clear hc
      generalize cs[k]?.getD ⟨#[]⟩ = s at *
      by_cases hs : 40 < s.size
      · go_wp2
        go_ret
        refine ⟨ret_bool ?_, rfl⟩
        unfold long3B
        rw [any_mono3 (i := k + 1) (j := 61) (by rw [HN.out]; simpa using hs) (by omega)]
        rfl
      · go_wp2
        go_round
        case rel => exact ⟨k + 1, by omega, by omega, by go_num, by rw [HN.out]; simpa using hs⟩
        case measure => simp [intOf]; omega
    · have HE : Hid ((cs.take 61).any (fun s => decide (40 < s.size)) = false) := by
        show (cs.take 61).any (fun s => decide (40 < s.size)) = false
        by_cases hk : k = 61
        · have := HA.out; rw [hk] at this; exact this
        · have hkl : k = cs.length := by omega
          have := HA.out
          rw [hkl, List.take_of_length_le (Nat.le_refl _)] at this
          rw [List.take_of_length_le (by omega)]
          exact this
      have HL : Hid (long3B cs = (decide (60 < cs.length) && decide (cs.length ≤ 300))) := by
        show long3B cs = _
        unfold long3B; rw [HE.out, Bool.false_or]
      by_cases h60 : 60 < cs.length
      · have HL2 : Hid (long3B cs = decide ((cs.length : Int) ≤ 300)) := by
          show long3B cs = _
          rw [HL.out, decide_eq_true h60, Bool.true_and]
          exact decide_eq_decide.2 (by omega)
        have t60 : decide (60 < (cs.length : Int)) = true := decide_eq_true (by omega)
        by_cases hk3 : k < cs.length
        · have hd1 : decide ((k : Int) < (cs.length : Int)) = true := decide_eq_true (by omega)
          have hd2 : decide ((k : Int) < 61) = false := decide_eq_false (by omega)
          clear HL hlt
          go_wp2
          go_ret
          exact ⟨ret_bool HL2.out.symm, rfl⟩
        · have hd1 : decide ((k : Int) < (cs.length : Int)) = false := decide_eq_false (by omega)
          clear HL hlt
          go_wp2
          go_ret
          exact ⟨ret_bool HL2.out.symm, rfl⟩
      · have HL2 : Hid (long3B cs = false) := by
          show long3B cs = _
          rw [HL.out, decide_eq_false h60, Bool.false_and]
        have t60 : decide (60 < (cs.length : Int)) = false := decide_eq_false (by omega)
        have hkn : k = cs.length := by omega
        subst k
        clear HL hlt
        go_wp2
        go_ret
        exact ⟨ret_bool HL2.out.symm, rfl⟩

end Go.Proofs.YtdadmoefmaojlaaDoor
