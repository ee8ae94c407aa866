/- Contracts of vector's isDifference, isPart, beginsRow, sizeCode, Put, Turn, Diff, Predict; plainly: the codes of sizes, and what is got of them. -/
import Derived.Test.YtmmnnedhoanhnaaDoorVLaw
import Derived.Test.YtmmnnedhoanhnaaDoorARow
import Derived.Deep.LoopGhost
namespace Go.Proofs.YtmmnnedhoanhnaaDoor
open Go.RowKit Go.Shelf
set_option linter.unusedVariables false

/-! ### the codes of sizes -/
def codesZ : List ByteArray := [[1], [0, 1], [0, 0, 1], [0, 0, 0, 1], [0, 0, 0, 0, 1, 1], [0, 0, 0, 0, 1, 0, 1], [0, 0, 0, 0, 1, 0, 0], [0, 0, 0, 0, 0, 1, 1], [0, 0, 0, 0, 0, 1, 0, 1, 1], [0, 0, 0, 0, 0, 1, 0, 1, 0], [0, 0, 0, 0, 0, 1, 0, 0, 1], [0, 0, 0, 0, 0, 1, 0, 0, 0, 1], [0, 0, 0, 0, 0, 1, 0, 0, 0, 0],
  [0, 0, 0, 0, 0, 0, 1, 1, 1, 1], [0, 0, 0, 0, 0, 0, 1, 1, 1, 0], [0, 0, 0, 0, 0, 0, 1, 1, 0, 1], [0, 0, 0, 0, 0, 0, 1, 1, 0, 0]].map bitsT
def numsZ : List Int := (List.range 17).map fun (k : Nat) => (k : Int)
theorem codesZ_length : codesZ.length = 17 := rfl
theorem makeZ : makeE codesZ numsZ = 0 := by decide +kernel
theorem sizesZ : ∀ k : Fin 17, 1 ≤ (codesZ[k.val]?.getD (⟨#[]⟩ : ByteArray)).size ∧ (codesZ[k.val]?.getD (⟨#[]⟩ : ByteArray)).size ≤ 10 := by decide +kernel
theorem codesZ_sizes : ∀ s ∈ codesZ, s.size ≤ 10 := by decide +kernel
theorem codesZ_small : ∀ s ∈ codesZ, s.size ≤ 9223372036854775807 := fun s h => by have := codesZ_sizes s h; omega
theorem numsZ_at {k : Nat} (hk : k < 17) : numsZ[k]?.getD 0 = (k : Int) := by simp [numsZ, hk]
theorem z_minus : ∀ k : Fin 17, 1 ≤ k.val → (codes6[16 - k.val]?.getD (⟨#[]⟩ : ByteArray)).data.toList = (codesZ[k.val]?.getD (⟨#[]⟩ : ByteArray)).data.toList ++ [49] := by decide +kernel
theorem z_plus : ∀ k : Fin 16, 1 ≤ k.val → (codes6[16 + k.val]?.getD (⟨#[]⟩ : ByteArray)).data.toList = (codesZ[k.val]?.getD (⟨#[]⟩ : ByteArray)).data.toList ++ [48] := by decide +kernel
theorem z_zero : (codes6[16]?.getD (⟨#[]⟩ : ByteArray)) = codesZ[0]?.getD (⟨#[]⟩ : ByteArray) := by decide +kernel
theorem z_of : ∀ j : Fin 32, begins (codes6[j.val]?.getD (⟨#[]⟩ : ByteArray)) (codesZ[if j.val < 16 then 16 - j.val else j.val - 16]?.getD (⟨#[]⟩ : ByteArray)) = true := by decide +kernel
theorem z_made : ∀ k : Fin 17, begins (codes6[16 - k.val]?.getD (⟨#[]⟩ : ByteArray)) (codesZ[k.val]?.getD (⟨#[]⟩ : ByteArray)) = true := by decide +kernel
def codeO : ByteArray := bitsT [0, 0, 0, 0, 0, 0, 1, 1, 0, 0, 0]
theorem z_odd : ∀ j : Fin 32, begins (codes6[j.val]?.getD (⟨#[]⟩ : ByteArray)) codeO = false ∧ begins codeO (codes6[j.val]?.getD (⟨#[]⟩ : ByteArray)) = false := by decide +kernel
theorem z_codeO : codeO.data.toList = (codesZ[16]?.getD (⟨#[]⟩ : ByteArray)).data.toList ++ [48] := by decide +kernel

theorem no_of_getI {S : ByteArray} (h : getI codesZ S = none) {k : Nat} (hk : k < 17) : begins S (codesZ[k]?.getD ⟨#[]⟩) = false := by
  unfold getI at h
  rw [List.findIdx?_eq_none_iff] at h
  have hk2 : k < codesZ.length := hk
  have h2 := h codesZ[k] (List.getElem_mem _)
  rw [List.getElem?_eq_getElem hk2]
  exact h2
theorem of_getI {S : ByteArray} {k : Nat} (h : getI codesZ S = some k) : k < 17 ∧ begins S (codesZ[k]?.getD ⟨#[]⟩) = true := by
  unfold getI at h
  rw [List.findIdx?_eq_some_iff_getElem] at h
  obtain ⟨hk, h1, _⟩ := h
  refine ⟨hk, ?_⟩
  rw [List.getElem?_eq_getElem hk]
  exact h1
theorem begins_snoc {S c d : ByteArray} {b : UInt8} (h : begins S c = true) (hd : d.data.toList = c.data.toList ++ [b]) (hb : S.data.toList[c.size]? = some b) : begins S d = true := by
  unfold begins at *
  rw [decide_eq_true_iff] at *
  obtain ⟨t, ht⟩ := h
  have hc : c.data.toList.length = c.size := by simp
  rw [← ht, List.getElem?_append_right (by omega), hc, Nat.sub_self] at hb
  cases t with
  | nil => simp at hb
  | cons b' t =>
    have : b' = b := by simpa using hb
    subst this
    rw [hd, ← ht]
    exact ⟨t, by simp⟩
theorem begins_size {S c : ByteArray} (h : begins S c = true) : c.size ≤ S.size := by
  unfold begins at h
  rw [decide_eq_true_iff] at h
  have := h.length_le
  simpa using this
theorem begins_all {S c : ByteArray} (h : begins S c = true) (hs : S.size = c.size) : S = c := by
  unfold begins at h
  rw [decide_eq_true_iff] at h
  have := h.eq_of_length (by simpa using hs.symm)
  exact ByteArray.ext (Array.toList_inj.1 this.symm)
theorem get6_none {S : ByteArray} (h : getI codesZ S = none) : getI codes6 S = none ∧ getMore codes6 S = getMore codesZ S := by
  have hno : ∀ j, j < 32 → begins S (codes6[j]?.getD ⟨#[]⟩) = false := fun j hj => by
    rw [Bool.eq_false_iff]
    intro hb
    have h1 := begins_transC hb (z_of ⟨j, hj⟩)
    have h2 := no_of_getI h (k := if j < 16 then 16 - j else j - 16) (by split <;> omega)
    simp only at h1
    rw [h2] at h1
    cases h1
  refine ⟨getI_none (fun j hj => hno j hj), ?_⟩
  cases hm : getMore codesZ S with
  | true =>
    unfold getMore at hm
    rw [List.any_eq_true] at hm
    obtain ⟨c, hc, hb⟩ := hm
    obtain ⟨k, hk, rfl⟩ := List.getElem_of_mem hc
    have hk2 : k < 17 := hk
    have hz := z_made ⟨k, hk2⟩
    simp only at hz
    rw [List.getElem?_eq_getElem (l := codesZ) hk] at hz
    exact getMore_true (k := 16 - k) (by rw [codes6_length]; omega) (begins_transC hz hb)
  | false =>
    refine getMore_false (fun j hj => ?_)
    have hj2 : j < 32 := hj
    rw [Bool.eq_false_iff]
    intro hb
    have hz := z_of ⟨j, hj2⟩
    simp only at hz
    have hk : (if j < 16 then 16 - j else j - 16) < 17 := by split <;> omega
    rcases begins_bothC hb hz with e | e
    · have h2 := no_of_getI h hk
      rw [h2] at e
      cases e
    · have := getMore_true (codes := codesZ) (k := if j < 16 then 16 - j else j - 16) (by rw [codesZ_length]; exact hk) e
      rw [hm] at this
      cases this
theorem get6_zero {S : ByteArray} (h : getI codesZ S = some 0) : getI codes6 S = some 16 :=
  codes_one clash6 (by rw [codes6_length]; omega) (by rw [z_zero]; exact (of_getI h).2)
theorem get6_minus {S : ByteArray} {k : Nat} (h : getI codesZ S = some k) (h1 : 1 ≤ k) (hb : S.data.toList[(codesZ[k]?.getD (⟨#[]⟩ : ByteArray)).size]? = some 49) : getI codes6 S = some (16 - k) := by
  obtain ⟨hk, h2⟩ := of_getI h
  exact codes_one clash6 (by rw [codes6_length]; omega) (begins_snoc h2 (z_minus ⟨k, hk⟩ h1) hb)
theorem get6_plus {S : ByteArray} {k : Nat} (h : getI codesZ S = some k) (h1 : 1 ≤ k) (hk : k < 16) (hb : S.data.toList[(codesZ[k]?.getD (⟨#[]⟩ : ByteArray)).size]? = some 48) : getI codes6 S = some (16 + k) := by
  obtain ⟨_, h2⟩ := of_getI h
  exact codes_one clash6 (by rw [codes6_length]; omega) (begins_snoc h2 (z_plus ⟨k, hk⟩ h1) hb)
theorem get6_odd {S : ByteArray} (h : getI codesZ S = some 16) (hb : S.data.toList[(codesZ[16]?.getD (⟨#[]⟩ : ByteArray)).size]? = some 48) : getI codes6 S = none ∧ getMore codes6 S = false := by
  obtain ⟨_, h2⟩ := of_getI h
  have h3 := begins_snoc h2 z_codeO hb
  refine ⟨getI_none (fun j hj => ?_), getMore_false (fun j hj => ?_)⟩
  · have hj2 : j < 32 := hj
    obtain ⟨o1, o2⟩ := z_odd ⟨j, hj2⟩
    rw [Bool.eq_false_iff]
    intro e
    rcases begins_bothC h3 e with e2 | e2
    · rw [o2] at e2; cases e2
    · rw [o1] at e2; cases e2
  · have hj2 : j < 32 := hj
    obtain ⟨o1, o2⟩ := z_odd ⟨j, hj2⟩
    rw [Bool.eq_false_iff]
    intro e
    have e2 := begins_transC e h3
    rw [o1] at e2
    cases e2
theorem get6_cut {S : ByteArray} {k : Nat} (h : getI codesZ S = some k) (h1 : 1 ≤ k) (hs : S.size = (codesZ[k]?.getD (⟨#[]⟩ : ByteArray)).size) : getI codes6 S = none ∧ getMore codes6 S = true := by
  obtain ⟨hk, h2⟩ := of_getI h
  have he := begins_all h2 hs
  have hz := z_made ⟨k, hk⟩
  have hm := congrArg List.length (z_minus ⟨k, hk⟩ h1)
  simp only [List.length_append, List.length_cons, List.length_nil] at hm
  refine codes_cut clash6 (k := 16 - k) (by rw [codes6_length]; omega) ?_ (by rw [he]; exact hz)
  rw [Bool.eq_false_iff]
  intro hb
  have hb2 := begins_size hb
  have e1 : (codes6[16 - k]?.getD (⟨#[]⟩ : ByteArray)).data.toList.length = (codes6[16 - k]?.getD (⟨#[]⟩ : ByteArray)).size := by simp
  have e2 : (codesZ[k]?.getD (⟨#[]⟩ : ByteArray)).data.toList.length = (codesZ[k]?.getD (⟨#[]⟩ : ByteArray)).size := by simp
  omega
theorem size_minus {k : Nat} (hk : k < 17) (h1 : 1 ≤ k) : (codes6[16 - k]?.getD (⟨#[]⟩ : ByteArray)).size = (codesZ[k]?.getD (⟨#[]⟩ : ByteArray)).size + 1 := by
  have hm := congrArg List.length (z_minus ⟨k, hk⟩ h1)
  simpa using hm
theorem size_plus {k : Nat} (hk : k < 16) (h1 : 1 ≤ k) : (codes6[16 + k]?.getD (⟨#[]⟩ : ByteArray)).size = (codesZ[k]?.getD (⟨#[]⟩ : ByteArray)).size + 1 := by
  have hm := congrArg List.length (z_plus ⟨k, hk⟩ h1)
  simpa using hm

/-! ### small functions -/
def difB (n : Int) : Bool := decide (-16 ≤ n ∧ n ≤ 15)
theorem vpart_any (n : Int) (w : World) : Calls Tryd.prog 37 #[.int .i64 n] w fun e w' => e = .returned (.bool (partB n)) ∧ w = w' := by
  by_cases h1 : n < -15
  · rw [part_no (.inl h1)]
    go_enter Tryd.func37, Tryd.ntmps37
    go_wp2
    go_ret
    exact ⟨rfl, rfl⟩
  · by_cases h2 : 15 < n
    · rw [part_no (.inr h2)]
      go_enter Tryd.func37, Tryd.ntmps37
      go_wp2
      go_ret
      exact ⟨ret_bool (decide_eq_false (by omega)), rfl⟩
    · rw [part_yes (by omega) (by omega)]
      go_enter Tryd.func37, Tryd.ntmps37
      go_wp2
      go_ret
      exact ⟨rfl, rfl⟩
theorem dif_yes {n : Int} (h1 : -16 ≤ n) (h2 : n ≤ 15) : difB n = true := decide_eq_true ⟨h1, h2⟩
theorem dif_no {n : Int} (h : n < -16 ∨ 15 < n) : difB n = false := decide_eq_false (by omega)
theorem vdif_any (n : Int) (w : World) : Calls Tryd.prog 31 #[.int .i64 n] w fun e w' => e = .returned (.bool (difB n)) ∧ w = w' := by
  by_cases h1 : n < -16
  · rw [dif_no (.inl h1)]
    go_enter Tryd.func31, Tryd.ntmps31
    go_wp2
    go_ret
    exact ⟨rfl, rfl⟩
  · by_cases h2 : 15 < n
    · rw [dif_no (.inr h2)]
      go_enter Tryd.func31, Tryd.ntmps31
      go_wp2
      go_ret
      exact ⟨ret_bool (decide_eq_false (by omega)), rfl⟩
    · rw [dif_yes (by omega) (by omega)]
      go_enter Tryd.func31, Tryd.ntmps31
      go_wp2
      go_ret
      exact ⟨ret_bool (decide_eq_true (by omega)), rfl⟩

def rowsB (a : Int) : Bool := decide (a = 1 ∨ a = 12 ∨ a = 23)
theorem vbegins_any (a : Int) (w : World) : Calls Tryd.prog 39 #[.int .i64 a] w fun e w' => e = .returned (.bool (rowsB a)) ∧ w = w' := by
  have HR := Lib.hid (arow_any a w)
  by_cases h : a < 1 ∨ 33 < a
  · have e1 : rowE a = 3 := by unfold rowE; rw [if_pos h]
    have e2 : rowsB a = false := decide_eq_false (by omega)
    rw [e1] at HR
    rw [e2]
    generalize rowR a = r at *
    generalize rowC a = c at *
    clear h e1 e2
    go_enter Tryd.func39, Tryd.ntmps39
    go_wp2_with (go_at_call 51; refine HR.out.mono ?_; rintro e w' ⟨rfl, rfl⟩)
    go_ret
    exact ⟨rfl, rfl⟩
  · have e1 : rowE a = 0 := by unfold rowE; rw [if_neg h]
    have e3 : rowC a = (a - 1) % 11 := by unfold rowC; rw [if_neg h]
    have e2 : rowsB a = decide (rowC a = 0) := by
      rw [e3]
      exact decide_eq_decide.2 (by omega)
    rw [e1] at HR
    rw [e2]
    generalize rowR a = r at *
    generalize rowC a = c at *
    clear h e1 e2 e3
    by_cases hc : c = 0
    · subst hc
      go_enter Tryd.func39, Tryd.ntmps39
      go_wp2_with (go_at_call 51; refine HR.out.mono ?_; rintro e w' ⟨rfl, rfl⟩)
      go_ret
      exact ⟨rfl, rfl⟩
    · have t1 : (c == 0) = false := by simpa using hc
      have HC : Hid (decide (c = 0) = false) := decide_eq_false hc
      clear hc
      go_enter Tryd.func39, Tryd.ntmps39
      go_wp2_with (go_at_call 51; refine HR.out.mono ?_; rintro e w' ⟨rfl, rfl⟩)
      go_ret
      exact ⟨ret_bool HC.out.symm, rfl⟩

set_option maxHeartbeats 1000000 in
theorem vpred_any (a d : Int) (had : Bool) (x y : Int) (w : World) :
    Calls Tryd.prog 19 #[.int .i64 a, .int .i64 d, .bool had, .int .i64 x, .int .i64 y] w fun e w' => e = .returned (.tuple #[.int .i64 (predN a d had x), .int .i64 (predN a d had y)]) ∧ w = w' := by
  unfold predN
  have hP : predB a d had = (had && (decide (d = 1) && !rowsB a)) := by
    cases had
    · rfl
    · simp only [predB, rowsB, Bool.true_and]
      by_cases hd : d = 1
      · by_cases ha : a = 1 ∨ a = 12 ∨ a = 23
        · rw [decide_eq_true ha, decide_eq_false (by omega)]; simp
        · rw [decide_eq_false ha, decide_eq_true (by omega), decide_eq_true hd]; rfl
      · rw [decide_eq_false hd, decide_eq_false (by omega)]; rfl
  rw [hP]
  have HB := Lib.hid (vbegins_any a w)
  generalize rowsB a = rb at *
  clear hP
  cases had with
  | false =>
    go_enter Tryd.func19, Tryd.ntmps19
    go_wp2
    go_ret2
    exact ⟨rfl, rfl⟩
  | true =>
    by_cases hd : d = 1
    · subst hd
      cases rb with
      | false =>
        go_enter Tryd.func19, Tryd.ntmps19
        go_wp2_with (go_at_call 39; refine HB.out.mono ?_; rintro e w' ⟨rfl, rfl⟩)
        go_ret2
        exact ⟨rfl, rfl⟩
      | true =>
        go_enter Tryd.func19, Tryd.ntmps19
        go_wp2_with (go_at_call 39; refine HB.out.mono ?_; rintro e w' ⟨rfl, rfl⟩)
        go_ret2
        exact ⟨rfl, rfl⟩
    · rw [decide_eq_false hd]
      have t1 : (d != 1) = true := by simpa using hd
      clear hd
      go_enter Tryd.func19, Tryd.ntmps19
      go_wp2
      go_ret2
      exact ⟨rfl, rfl⟩

set_option maxHeartbeats 1000000 in
theorem vdiff_any (p q : Int) (w : World) :
    Calls Tryd.prog 17 #[.int .i64 p, .int .i64 q] w fun e w' => e = .returned (.tuple #[.int .i64 (diffN p q), .int .i64 (diffE p q)]) ∧ w = w' := by
  cases hp : partB p with
  | false =>
    obtain ⟨hN, hE⟩ := diff_out (p := p) (q := q) (by simp [hp])
    rw [hN, hE]
    clear hN hE
    go_enter Tryd.func17, Tryd.ntmps17
    go_wp2_with (go_at_call 37; refine (vpart_any _ w).mono ?_; rintro e w' ⟨rfl, rfl⟩)
    go_ret2
    exact ⟨rfl, rfl⟩
  | true =>
    cases hq : partB q with
    | false =>
      obtain ⟨hN, hE⟩ := diff_out (p := p) (q := q) (by simp [hq])
      rw [hN, hE]
      clear hN hE
      go_enter Tryd.func17, Tryd.ntmps17
      go_wp2_with (go_at_call 37; refine (vpart_any _ w).mono ?_; rintro e w' ⟨rfl, rfl⟩)
      go_ret2
      exact ⟨rfl, rfl⟩
    | true =>
      obtain ⟨hE, _, _, _⟩ := diff_in hp hq
      have h1 := part_iff.1 hp
      have h2 := part_iff.1 hq
      have hp1 := h1.1
      have hp2 := h1.2
      have hq1 := h2.1
      have hq2 := h2.2
      rw [hE]
      clear hE h1 h2
      rcases diff_three hp hq with ⟨h3, hD⟩ | ⟨h3, hD⟩ | ⟨h3, h4, hD⟩
      · rw [hD]
        clear hD
        go_enter Tryd.func17, Tryd.ntmps17
        go_wp2_with (go_at_call 37; refine (vpart_any _ w).mono ?_; rintro e w' ⟨rfl, rfl⟩)
        go_ret2
        exact ⟨rfl, rfl⟩
      · rw [hD]
        clear hD
        go_enter Tryd.func17, Tryd.ntmps17
        go_wp2_with (go_at_call 37; refine (vpart_any _ w).mono ?_; rintro e w' ⟨rfl, rfl⟩)
        go_ret2
        exact ⟨rfl, rfl⟩
      · rw [hD]
        clear hD
        go_enter Tryd.func17, Tryd.ntmps17
        go_wp2_with (go_at_call 37; refine (vpart_any _ w).mono ?_; rintro e w' ⟨rfl, rfl⟩)
        go_ret2
        exact ⟨rfl, rfl⟩

/-! ### sizeCode -/
set_option maxRecDepth 100000 in
set_option maxHeartbeats 4000000 in
theorem vsize_any {k : Nat} (hk : k < 17) (w : World) (hT : Tails w) :
    Calls Tryd.prog 36 #[.int .i64 k] w fun e w' => e = .returned (.string (codesZ[k]?.getD ⟨#[]⟩)) ∧ w = w' := by
  have hc := hT k hk
  clear hT
  have h17 : k = 0 ∨ k = 1 ∨ k = 2 ∨ k = 3 ∨ k = 4 ∨ k = 5 ∨ k = 6 ∨ k = 7 ∨ k = 8 ∨ k = 9 ∨ k = 10 ∨ k = 11 ∨ k = 12 ∨ k = 13 ∨ k = 14 ∨ k = 15 ∨ k = 16 := by omega
  rcases h17 with rfl | rfl | rfl | rfl | rfl | rfl | rfl | rfl | rfl | rfl | rfl | rfl | rfl | rfl | rfl | rfl | rfl
  all_goals
    clear hk
    go_enter Tryd.func36, Tryd.ntmps36
    go_wp2
    go_ret
    exact ⟨rfl, rfl⟩

theorem z_put : ∀ k : Fin 17, 1 ≤ k.val → (codesZ[k.val]?.getD (⟨#[]⟩ : ByteArray)) ++ ⟨#[49]⟩ = codes6[16 - k.val]?.getD (⟨#[]⟩ : ByteArray) := by decide +kernel
theorem z_put2 : ∀ k : Fin 16, 1 ≤ k.val → (codesZ[k.val]?.getD (⟨#[]⟩ : ByteArray)) ++ ⟨#[48]⟩ = codes6[16 + k.val]?.getD (⟨#[]⟩ : ByteArray) := by decide +kernel
set_option maxRecDepth 100000 in
set_option maxHeartbeats 2000000 in
theorem vput_any (d : Int) (w : World) (hT : Tails w) (hd1 : -9223372036854775808 ≤ d) (hd2 : d ≤ 9223372036854775807) :
    Calls Tryd.prog 13 #[.int .i64 d] w fun e w' => e = .returned (.tuple #[.string (putS6 d), .int .i64 (putE6 d)]) ∧ w = w' := by
  have HD := Lib.hid (vdif_any d w)
  by_cases h : d < -16 ∨ 15 < d
  · rw [dif_no h] at HD
    unfold putS6 putE6
    rw [if_pos h, if_pos h]
    clear h hT
    go_enter Tryd.func13, Tryd.ntmps13
    go_wp2_with (go_at_call 31; refine HD.out.mono ?_; rintro e w' ⟨rfl, rfl⟩)
    go_ret2
    exact ⟨rfl, rfl⟩
  · rw [dif_yes (by omega) (by omega)] at HD
    unfold putS6 putE6
    rw [if_neg h, if_neg h]
    by_cases hneg : d < 0
    · obtain ⟨k, hk⟩ := Int.eq_ofNat_of_zero_le (a := -d) (by omega)
      have hk17 : k < 17 := by omega
      obtain rfl : d = -(k : Int) := by omega
      have HS := Lib.hid (vsize_any hk17 w hT)
      have hz := z_put ⟨k, hk17⟩ (by show 1 ≤ k; omega)
      simp only at hz
      rw [show (-(k : Int) + 16).toNat = 16 - k by omega, ← hz]
      have hsz := (sizesZ ⟨k, hk17⟩).2
      simp only at hsz
      generalize codesZ[k]?.getD (⟨#[]⟩ : ByteArray) = s at *
      have e1 : - -(k : Int) = (k : Int) := by omega
      clear h hT hz hk
      go_enter Tryd.func13, Tryd.ntmps13
      go_wp2_with (first
        | (go_at_call 31; refine HD.out.mono ?_; rintro e w' ⟨rfl, rfl⟩)
        | (go_at_call 36; refine HS.out.mono ?_; rintro e w' ⟨rfl, rfl⟩))
      go_ret2
      exact ⟨rfl, rfl⟩
    · obtain ⟨k, rfl⟩ := Int.eq_ofNat_of_zero_le (a := d) (by omega)
      have hk17 : k < 17 := by omega
      have HS := Lib.hid (vsize_any hk17 w hT)
      by_cases h0 : k = 0
      · subst h0
        have e2 : codes6[((((0 : Nat) : Int)) + 16).toNat]?.getD (⟨#[]⟩ : ByteArray) = codesZ[0]?.getD (⟨#[]⟩ : ByteArray) := z_zero
        rw [e2]
        generalize codesZ[0]?.getD (⟨#[]⟩ : ByteArray) = s at *
        clear h hT hneg e2
        go_enter Tryd.func13, Tryd.ntmps13
        go_wp2_with (first
          | (go_at_call 31; refine HD.out.mono ?_; rintro e w' ⟨rfl, rfl⟩)
          | (go_at_call 36; refine HS.out.mono ?_; rintro e w' ⟨rfl, rfl⟩))
        go_ret2
        exact ⟨rfl, rfl⟩
      · have hk16 : k < 16 := by omega
        have hz := z_put2 ⟨k, hk16⟩ (by show 1 ≤ k; omega)
        simp only at hz
        rw [show ((k : Int) + 16).toNat = 16 + k by omega, ← hz]
        have hsz := (sizesZ ⟨k, hk17⟩).2
        simp only at hsz
        generalize codesZ[k]?.getD (⟨#[]⟩ : ByteArray) = s at *
        have hpos : 0 < (k : Int) := by omega
        clear h hT hz h0
        go_enter Tryd.func13, Tryd.ntmps13
        go_wp2_with (first
          | (go_at_call 31; refine HD.out.mono ?_; rintro e w' ⟨rfl, rfl⟩)
          | (go_at_call 36; refine HS.out.mono ?_; rintro e w' ⟨rfl, rfl⟩))
        go_ret2
        exact ⟨rfl, rfl⟩

/-! ### Turn -/
theorem index3_0 (x y z : Int) (W : World) : (Instr.index 58 (.agg #[.int .i64 x, .int .i64 y, .int .i64 z]) (.int .i64 ((0 : Nat) : Int))).run Tryd.prog W = .ok (.int .i64 x) W := by kernel_rfl
theorem index3_1 (x y z : Int) (W : World) : (Instr.index 58 (.agg #[.int .i64 x, .int .i64 y, .int .i64 z]) (.int .i64 ((1 : Nat) : Int))).run Tryd.prog W = .ok (.int .i64 y) W := by kernel_rfl
theorem index3_2 (x y z : Int) (W : World) : (Instr.index 58 (.agg #[.int .i64 x, .int .i64 y, .int .i64 z]) (.int .i64 ((2 : Nat) : Int))).run Tryd.prog W = .ok (.int .i64 z) W := by kernel_rfl
theorem index3 (x y z : Int) {k : Nat} (hk : k < 3) (W : World) : (Instr.index 58 (.agg #[.int .i64 x, .int .i64 y, .int .i64 z]) (.int .i64 k)).run Tryd.prog W = .ok (.int .i64 (if k = 0 then x else if k = 1 then y else z)) W := by
  have h : k = 0 ∨ k = 1 ∨ k = 2 := by omega
  rcases h with rfl | rfl | rfl
  · exact index3_0 x y z W
  · exact index3_1 x y z W
  · exact index3_2 x y z W
set_option maxHeartbeats 2000000 in
theorem vturn_in (p d : Int) (hp1 : -15 ≤ p) (hp2 : p ≤ 15) (hd1 : -16 ≤ d) (hd2 : d ≤ 15) (f : Nat → Int) (hf : ∀ k, f k = if k = 0 then p + d else if k = 1 then p + d - 32 else p + d + 32) (K : Nat) (hK : K ≤ 3) (hno : ∀ k, k < K → partB (f k) = false) (hyes : K < 3 → partB (f K) = true) (n e0 : Int)
    (hn : K < 3 → n = f K) (he : K < 3 → e0 = 0) (hn3 : K = 3 → n = 0) (he3 : K = 3 → e0 = 12) (w : World) :
    Calls Tryd.prog 15 #[.int .i64 p, .int .i64 d] w fun e w' => e = .returned (.tuple #[.int .i64 n, .int .i64 e0]) ∧ w = w' := by
  have HI := Lib.hid (fun (k : Nat) (hk : k < 3) (W : World) => index3 (p + d) (p + d - 32) (p + d + 32) hk W)
  have HF := Lib.hid hf
  have HNo := Lib.hid hno
  have HYes := Lib.hid hyes
  have HA := Lib.hid (And.intro hn (And.intro he (And.intro hn3 he3)))
  have e1 := part_yes hp1 hp2
  have e2 := dif_yes hd1 hd2
  clear hf hno hyes hn he hn3 he3
  go_enter Tryd.func15, Tryd.ntmps15
  go_wp2_with (first
    | (go_at_call 37; refine (vpart_any _ w).mono ?_; rintro e w' ⟨rfl, rfl⟩)
    | (go_at_call 31; refine (vdif_any _ w).mono ?_; rintro e w' ⟨rfl, rfl⟩))
  go_step3
  go_wp2_with (first
    | (go_at_call 37; refine (vpart_any _ w).mono ?_; rintro e w' ⟨rfl, rfl⟩)
    | (go_at_call 31; refine (vdif_any _ w).mono ?_; rintro e w' ⟨rfl, rfl⟩))
  go_step3
  go_wp2
  go_loopg [6, 7, 28] K (fun gh x y i wr => ∃ k : Nat, k + gh = K ∧ i = .int .i64 k ∧ x = .int .i64 0 ∧ y = .int .i64 12 ∧ wr = w)
  case atStart => exact ⟨0, by omega, rfl, rfl, rfl, rfl⟩
  case round =>
    obtain ⟨k, hkg, rfl, rfl, rfl, rfl⟩ := hrel
    cases gk with
    | zero =>
      obtain rfl : k = K := by omega
      by_cases h3 : k < 3
      · have hi := HI.out k h3
        rw [← HF.out k] at hi
        have hy := HYes.out h3
        obtain ⟨a1, a2, _, _⟩ := HA.out
        have HN := Lib.hid (a1 h3)
        have HE := Lib.hid (a2 h3)
        generalize f k = m at *
        have hk3 : (k : Int) < 3 := by omega
        clear a1 a2 h3
        go_wp2_with (go_at_call 37; refine (vpart_any _ wr).mono ?_; rintro e w' ⟨rfl, rfl⟩)
        try rw [Exit.noGoto_ret]
        go_ret2
        exact ⟨by rw [HN.out, HE.out]; rfl, rfl⟩
      · obtain rfl : k = 3 := by omega
        obtain ⟨_, _, a3, a4⟩ := HA.out
        have HN := Lib.hid (a3 rfl)
        have HE := Lib.hid (a4 rfl)
        clear a3 a4 h3
        go_wp2
        try rw [Exit.noGoto_ret]
        go_ret2
        exact ⟨by rw [HN.out, HE.out]; rfl, rfl⟩
    | succ g2 =>
      have h3 : k < 3 := by omega
      have hi := HI.out k h3
      rw [← HF.out k] at hi
      have hy := HNo.out k (by omega)
      generalize f k = m at *
      have hk3 : (k : Int) < 3 := by omega
      go_wp2_with (go_at_call 37; refine (vpart_any _ wr).mono ?_; rintro e w' ⟨rfl, rfl⟩)
      go_roundg g2
      case rel => exact ⟨k + 1, by omega, by go_num, rfl, rfl, rfl⟩
      case measure => omega

set_option maxHeartbeats 2000000 in
theorem vturn_any (p d : Int) (w : World) :
    Calls Tryd.prog 15 #[.int .i64 p, .int .i64 d] w fun e w' => e = .returned (.tuple #[.int .i64 (turnN p d), .int .i64 (turnE p d)]) ∧ w = w' := by
  by_cases h : p < -15 ∨ 15 < p ∨ d < -16 ∨ 15 < d
  · obtain ⟨hN, hE⟩ := turn_out h
    rw [hN, hE]
    clear hN hE
    by_cases h1 : p < -15 ∨ 15 < p
    · have e1 := part_no h1
      clear h h1
      go_enter Tryd.func15, Tryd.ntmps15
      go_wp2
      go_step3
      go_wp2_with (go_at_call 37; refine (vpart_any _ w).mono ?_; rintro e w' ⟨rfl, rfl⟩)
      try rw [Exit.noGoto_ret]
      go_ret2
      exact ⟨rfl, rfl⟩
    · have e1 := part_yes (n := p) (by omega) (by omega)
      have e2 := dif_no (n := d) (by omega)
      clear h h1
      go_enter Tryd.func15, Tryd.ntmps15
      go_wp2
      go_step3
      go_wp2_with (first
        | (go_at_call 37; refine (vpart_any _ w).mono ?_; rintro e w' ⟨rfl, rfl⟩)
        | (go_at_call 31; refine (vdif_any _ w).mono ?_; rintro e w' ⟨rfl, rfl⟩))
      try rw [Exit.noGoto_ret]
      go_ret2
      exact ⟨rfl, rfl⟩
  · have hf : ∀ k : Nat, (fun k : Nat => if k = 0 then p + d else if k = 1 then p + d - 32 else p + d + 32) k = if k = 0 then p + d else if k = 1 then p + d - 32 else p + d + 32 := fun _ => rfl
    by_cases hs : -15 ≤ p + d ∧ p + d ≤ 15
    · obtain ⟨hN, hE⟩ := turn_in h (near_self hs.1 hs.2)
      have e2 := part_yes hs.1 hs.2
      rw [e2] at hN hE
      exact vturn_in p d (by omega) (by omega) (by omega) (by omega) _ hf 0 (by omega) (by omega) (fun _ => e2) _ _ (fun _ => hN) (fun _ => hE) (by omega) (by omega) w
    · have hs2 : p + d < -15 ∨ 15 < p + d := by omega
      have n0 := part_no hs2
      by_cases hd : d < 0
      · obtain ⟨hN, hE⟩ := turn_in h (near_up hs2 hd)
        have n1 : partB (p + d - 32) = false := part_no (by omega)
        by_cases h3 : p + d + 32 < -15 ∨ 15 < p + d + 32
        · have n2 := part_no h3
          rw [n2] at hN hE
          exact vturn_in p d (by omega) (by omega) (by omega) (by omega) _ hf 3 (by omega) (fun k hk => by
            have h : k = 0 ∨ k = 1 ∨ k = 2 := by omega
            rcases h with rfl | rfl | rfl
            · exact n0
            · exact n1
            · exact n2) (by omega) _ _ (by omega) (by omega) (fun _ => hN) (fun _ => hE) w
        · have n2 := part_yes (n := p + d + 32) (by omega) (by omega)
          rw [n2] at hN hE
          exact vturn_in p d (by omega) (by omega) (by omega) (by omega) _ hf 2 (by omega) (fun k hk => by
            have h : k = 0 ∨ k = 1 := by omega
            rcases h with rfl | rfl
            · exact n0
            · exact n1) (fun _ => n2) _ _ (fun _ => hN) (fun _ => hE) (by omega) (by omega) w
      · obtain ⟨hN, hE⟩ := turn_in h (near_down hs2 hd)
        have n2 : partB (p + d + 32) = false := part_no (by omega)
        by_cases h3 : p + d - 32 < -15 ∨ 15 < p + d - 32
        · have n1 := part_no h3
          rw [n1] at hN hE
          exact vturn_in p d (by omega) (by omega) (by omega) (by omega) _ hf 3 (by omega) (fun k hk => by
            have h : k = 0 ∨ k = 1 ∨ k = 2 := by omega
            rcases h with rfl | rfl | rfl
            · exact n0
            · exact n1
            · exact n2) (by omega) _ _ (by omega) (by omega) (fun _ => hN) (fun _ => hE) w
        · have n1 := part_yes (n := p + d - 32) (by omega) (by omega)
          rw [n1] at hN hE
          exact vturn_in p d (by omega) (by omega) (by omega) (by omega) _ hf 1 (by omega) (fun k hk => by
            have h : k = 0 := by omega
            subst h
            exact n0) (fun _ => n1) _ _ (fun _ => hN) (fun _ => hE) (by omega) (by omega) w

end Go.Proofs.YtmmnnedhoanhnaaDoor
