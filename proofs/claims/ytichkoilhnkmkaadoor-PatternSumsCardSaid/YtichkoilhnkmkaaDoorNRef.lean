/- Contracts of the reference's pattern (praxinoscoperef07): codes, Tree, Get, Put, Has, Count. -/
import Derived.Test.YtichkoilhnkmkaaDoorLit
namespace Go.Proofs.YtichkoilhnkmkaaDoor
open Go.RowKit Go.Shelf
set_option linter.unusedVariables false

def codes7 : List ByteArray := [[0, 1, 0, 1, 1], [0, 1, 0, 0, 1], [0, 0, 1, 1, 0, 1], [1, 1, 0, 1], [0, 0, 1, 0, 1, 1, 1], [0, 0, 1, 0, 0, 1, 1], [0, 0, 0, 1, 1, 1, 1, 1], [1, 1, 0, 0], [0, 0, 1, 0, 1, 1, 0], [0, 0, 1, 0, 0, 1, 0], [0, 0, 0, 1, 1, 1, 1, 0], [1, 0, 0, 1, 1], [0, 0, 0, 1, 1, 0, 1, 1], [0, 0, 0, 1, 0, 1, 1, 1], [0, 0, 0, 1, 0, 0, 1, 1], [1, 0, 1, 1], [0, 0, 1, 0, 1, 0, 1], [0, 0, 1, 0, 0, 0, 1], [0, 0, 0, 1, 1, 1, 0, 1], [1, 0, 0, 0, 1], [0, 0, 0, 1, 1, 0, 0, 1], [0, 0, 0, 1, 0, 1, 0, 1], [0, 0, 0, 1, 0, 0, 0, 1], [0, 0, 1, 1, 1, 1], [0, 0, 0, 0, 1, 1, 1, 1], [0, 0, 0, 0, 1, 1, 0, 1], [0, 0, 0, 0, 0, 0, 0, 1, 1], [0, 1, 1, 1, 1], [0, 0, 0, 0, 1, 0, 1, 1], [0, 0, 0, 0, 0, 1, 1, 1], [0, 0, 0, 0, 0, 0, 1, 1, 1], [1, 0, 1, 0], [0, 0, 1, 0, 1, 0, 0], [0, 0, 1, 0, 0, 0, 0], [0, 0, 0, 1, 1, 1, 0, 0], [0, 0, 1, 1, 1, 0], [0, 0, 0, 0, 1, 1, 1, 0], [0, 0, 0, 0, 1, 1, 0, 0], [0, 0, 0, 0, 0, 0, 0, 1, 0], [1, 0, 0, 0, 0], [0, 0, 0, 1, 1, 0, 0, 0], [0, 0, 0, 1, 0, 1, 0, 0], [0, 0, 0, 1, 0, 0, 0, 0], [0, 1, 1, 1, 0], [0, 0, 0, 0, 1, 0, 1, 0], [0, 0, 0, 0, 0, 1, 1, 0], [0, 0, 0, 0, 0, 0, 1, 1, 0], [1, 0, 0, 1, 0], [0, 0, 0, 1, 1, 0, 1, 0], [0, 0, 0, 1, 0, 1, 1, 0], [0, 0, 0, 1, 0, 0, 1, 0], [0, 1, 1, 0, 1], [0, 0, 0, 0, 1, 0, 0, 1], [0, 0, 0, 0, 0, 1, 0, 1], [0, 0, 0, 0, 0, 0, 1, 0, 1], [0, 1, 1, 0, 0], [0, 0, 0, 0, 1, 0, 0, 0], [0, 0, 0, 0, 0, 1, 0, 0], [0, 0, 0, 0, 0, 0, 1, 0, 0], [1, 1, 1], [0, 1, 0, 1, 0], [0, 1, 0, 0, 0], [0, 0, 1, 1, 0, 0]].map bitsT
def nums7 : List Int := (List.range 63).map fun (k : Nat) => (k : Int) + 1
theorem codes7_length : codes7.length = 63 := rfl
theorem make7 : makeE codes7 nums7 = 0 := by decide +kernel
theorem clash7 : clash codes7 = false := by decide +kernel
theorem codes7_bits : ∀ c ∈ codes7, allB c = true ∧ 3 ≤ c.size ∧ c.size ≤ 9 := by decide +kernel
theorem codes7_small : ∀ s ∈ codes7, s.size ≤ 9223372036854775807 := fun s h => by have := (codes7_bits s h).2.2; omega
theorem codes7_at {k : Nat} (hk : k < 63) : AllBits (codes7[k]?.getD ⟨#[]⟩) ∧ 3 ≤ (codes7[k]?.getD (⟨#[]⟩ : ByteArray)).size ∧ (codes7[k]?.getD (⟨#[]⟩ : ByteArray)).size ≤ 9 := by
  have h : k < codes7.length := hk
  have := codes7_bits codes7[k] (List.getElem_mem _)
  simp only [List.getElem?_eq_getElem h, Option.getD_some]
  exact ⟨(allB_iff _).1 this.1, this.2⟩
theorem codes7_24 (n : Nat) : (codes7[n]?.getD (⟨#[]⟩ : ByteArray)).size ≤ 24 := by
  by_cases h : n < 63
  · have := (codes7_at h).2.2; omega
  · rw [List.getElem?_eq_none (by rw [codes7_length]; omega)]; decide
theorem nums7_at : ∀ k : Fin 63, nums7[k.val]?.getD 0 = 1 + (k.val : Int) ∧ putS codes7 nums7 (1 + (k.val : Int)) = codes7[k.val]?.getD ⟨#[]⟩ ∧ putE3 nums7 (1 + (k.val : Int)) = 0 := by decide +kernel
theorem codes7_apart : ∀ j k : Fin 63, decide (codes7[j.val]?.getD ⟨#[]⟩ = codes7[k.val]?.getD ⟨#[]⟩) = decide (j = k) := by decide +kernel

/-! ### what is answered -/
/-- whether a pattern says a block -/
def hasB (n b : Int) : Bool := decide (1 ≤ n ∧ n ≤ 63 ∧ 1 ≤ b ∧ b ≤ 6) && decide (n.toNat / 2 ^ (6 - b).toNat % 2 = 1)
/-- how many of the first blocks it says -/
def cntTo (n : Int) : Nat → Nat
  | 0 => 0
  | k + 1 => cntTo n k + (if hasB n ((k : Int) + 1) = true then 1 else 0)
def countN (n : Int) : Int := (cntTo n 6 : Nat)
theorem cntTo_le (n : Int) : ∀ k, cntTo n k ≤ k
  | 0 => Nat.le_refl _
  | k + 1 => by
    have := cntTo_le n k
    unfold cntTo
    split <;> omega
theorem hasB_no {n b : Int} (h : n < 1 ∨ 63 < n ∨ b < 1 ∨ 6 < b) : hasB n b = false := by
  unfold hasB
  rw [decide_eq_false (by omega)]
  rfl
theorem hasB_yes {m : Nat} {b : Int} (h : 1 ≤ m ∧ m ≤ 63 ∧ 1 ≤ b ∧ b ≤ 6) : hasB (m : Int) b = decide (m / 2 ^ (6 - b).toNat % 2 = 1) := by
  unfold hasB
  rw [decide_eq_true (by omega), Bool.true_and, Int.toNat_natCast]

/-! ### the reference -/
set_option maxRecDepth 100000 in
set_option maxHeartbeats 1000000 in
theorem r7codes_any (w : World) :
    Calls Tryd.prog 46 #[] w fun e w' => e = .returned (.slice (some ⟨w.heap.size, 0, none⟩) 63 63) ∧ w' = w.alloc (.cells (strV codes7).toArray 9 (0, 0)) := by
  go_enter Tryd.func46, Tryd.ntmps46
  go_wp2_with (with_reducible refine stop_slice 39 63 _ rfl ?_; refine Hid.out ?_)
  refine Lib.hid ?_
  refine Great.wpList_buildSliceTo rfl 39 9 63 _ rfl _ rfl _ rfl Tryd.underlying39x (strV codes7).toArray (by kernel_rfl) ?_
  go_wp2
  go_ret
  exact ⟨rfl, rfl⟩

theorem intV_snoc7 (n : Nat) : intV ((List.range n).map fun (k : Nat) => (k : Int) + 1) ++ [.int .i64 ((n : Int) + 1)] = intV ((List.range (n + 1)).map fun (k : Nat) => (k : Int) + 1) := by simp [List.range_succ]

set_option maxRecDepth 100000 in
set_option maxHeartbeats 1000000 in
theorem r7tree_any (w : World) :
    Calls Tryd.prog 29 #[] w fun e w' => ∃ n₀ b, e = .returned (.pointer (some ⟨b, 0, none⟩)) ∧ IsT n₀ w' b codes7 nums7 ∧ Below w.heap.size w w' := by
  obtain ⟨i2, hi2', hz20, hz21, hz22⟩ := info_parts Tryd.info3y
  go_enter Tryd.func29, Tryd.ntmps29
  go_wp2_with fail
  go_loopw [1, 2] (fun v i wr => ∃ k : Nat, i = .int .i64 ((k : Int) + 1) ∧ k ≤ 63 ∧ wr.ownsRow w.heap.size 3 1 v k (intV ((List.range k).map fun (k : Nat) => (k : Int) + 1)) ∧ Below w.heap.size w wr) (fun _ i _ => (64 - intOf i).toNat)
  case atStart => exact ⟨0, rfl, by omega, World.ownsRow_nil _ _ _ _, Below.refl _ _⟩
  case round =>
    obtain ⟨k, rfl, hk, ho, hb⟩ := hrel
    have HO := Lib.hid ho
    have HB := Lib.hid hb
    have hs := hb.size
    clear ho hb
    by_cases hk2 : k < 63
    · go_wp2_with (at_builtin; go_loud (refine wpList_append_v rfl _ _ 36 3 i2 (.int .i64 0) 8 rfl Tryd.underlying36y hi2' hz20 hz21 hz22 rfl w.heap.size _ k _ rfl (HO.out.alloc _) (some ⟨wr.heap.size, 0, none⟩) 1 1 [.int .i64 ((k : Int) + 1)] rfl (src_one _ _ _) (fun e => nomatch e) (by simp [Value.oneCell']) (by omega) (by omega) (by simp; omega) ?_); intro v1 w1 hap; have HA := Lib.hid hap; clear hap)
      go_roundw
      case rel =>
        refine ⟨k + 1, by go_num, by omega, ?_, ?_⟩
        · rw [← intV_snoc7]
          exact HA.out.1
        · exact (HB.out.alloc (by omega) _).grown HA.out.2.1 (by simp; omega) (fun j e => (HO.out.lt j e).1)
      case measure => simp [intOf]; omega
    · have hkn : k = 63 := by omega
      subst hkn
      have HC := Lib.hid (r7codes_any wr)
      have h1 : Below wr.heap.size wr (wr.alloc (.cells (strV codes7).toArray 9 (0, 0))) := (Below.refl _ wr).alloc (Nat.le_refl _) _
      have HR := Lib.hid (rowV_new wr (strV codes7) 9 63 (by simp [codes7_length]) (by decide))
      have hO2 := HO.out.alloc (.cells (strV codes7).toArray 9 (0, 0))
      generalize wr.alloc (.cells (strV codes7).toArray 9 (0, 0)) = w1 at *
      obtain ⟨a2, c2, rfl, hr2⟩ := rowV_own4 hO2
      have H1 := Lib.hid h1
      have hs1 := h1.size
      have HM := Lib.hid (tmake_any HR.out (hr2.mono4 (by omega)) codes7_small)
      clear h1 hO2 hr2
      go_wp2_with fail
      refine HC.out.mono ?_
      rintro e w' ⟨rfl, rfl⟩
      go_wp2_with fail
      refine HM.out.mono ?_
      rintro e w3 ⟨hb3, hm⟩
      obtain ⟨_, bt, rfl, hT⟩ := hm.resolve_right (fun h => h.1 make7)
      have HB3 := Lib.hid hb3
      have HT := Lib.hid hT
      clear hb3 hT hm
      go_wp2
      go_ret
      exact ⟨_, bt, rfl, HT.out, (HB.out.trans (H1.out.mono hs)).trans (HB3.out.mono (by omega))⟩

theorem getT_form7 (cs : List ByteArray) (ns : List Int) (zs : List UInt8) (x : Int) : ∃ g n e : Int, getT cs ns zs x = .tuple #[.int .i64 g, .int .i64 n, .int .i64 e] := by
  unfold getT
  split
  · exact ⟨_, _, _, rfl⟩
  · exact ⟨_, _, _, rfl⟩

set_option maxHeartbeats 1000000 in
theorem r7get_any {n₁ : Nat} {w : World} {sv : Value} {zs : List UInt8} (hB : Byt n₁ w sv zs) (hn : n₁ ≤ w.heap.size) (hl : zs.length ≤ 1099511627776) (x : Int) (hx : x ≤ 9223372036854775807) :
    Calls Tryd.prog 12 #[sv, .int .i64 x] w fun e w' => e = .returned (getT codes7 nums7 zs x) ∧ Below w.heap.size w w' := by
  have HB := Lib.hid (fun w' (hb : Below w.heap.size w w') => hB.below (hb.mono hn))
  clear hB
  obtain ⟨g, n, e0, hg⟩ := getT_form7 codes7 nums7 zs x
  have HG := Lib.hid hg
  rw [hg]
  clear hg
  go_enter Tryd.func12, Tryd.ntmps12
  go_wp2_with fail
  refine (r7tree_any w).mono ?_
  rintro e w1 ⟨n₀, b, rfl, hT, b1⟩
  have HGt := Lib.hid (tget_any hT (HB.out _ b1) (by have := b1.size; omega) hl x hx)
  rw [HG.out] at HGt
  have HB1 := Lib.hid b1
  clear hT b1
  go_wp2_with (go_at_call 30; refine HGt.out.mono ?_; rintro e w2 ⟨rfl, b2⟩)
  go_ret3
  exact ⟨rfl, below_chain HB1.out (Nat.le_refl _) b2⟩

set_option maxHeartbeats 1000000 in
theorem r7put_any (x : Int) (w : World) :
    Calls Tryd.prog 15 #[.int .i64 x] w fun e w' => e = .returned (.tuple #[.string (putS codes7 nums7 x), .int .i64 (putE3 nums7 x)]) ∧ Below w.heap.size w w' := by
  go_enter Tryd.func15, Tryd.ntmps15
  go_wp2_with fail
  refine (r7tree_any w).mono ?_
  rintro e w1 ⟨n₀, b, rfl, hT, b1⟩
  have HP := Lib.hid (tput_any hT x)
  have HB1 := Lib.hid b1
  clear hT b1
  go_wp2_with (go_at_call 32; refine HP.out.mono ?_; rintro e w2 ⟨rfl, rfl⟩)
  go_ret2
  exact ⟨rfl, HB1.out⟩

set_option maxRecDepth 100000 in
set_option maxHeartbeats 4000000 in
theorem r7has_any (n b : Int) (hn1 : -9223372036854775808 ≤ n) (hn2 : n ≤ 9223372036854775807) (w : World) :
    Calls Tryd.prog 17 #[.int .i64 n, .int .i64 b] w fun e w' => e = .returned (.bool (hasB n b)) ∧ w' = w := by
  by_cases h1 : n < 1
  · rw [hasB_no (.inl h1)]
    go_enter Tryd.func17, Tryd.ntmps17
    go_wp2
    go_ret
    exact ⟨rfl, rfl⟩
  by_cases h2 : 63 < n
  · rw [hasB_no (.inr (.inl h2))]
    go_enter Tryd.func17, Tryd.ntmps17
    go_wp2
    go_ret
    exact ⟨rfl, rfl⟩
  by_cases h3 : b < 1
  · rw [hasB_no (.inr (.inr (.inl h3)))]
    go_enter Tryd.func17, Tryd.ntmps17
    go_wp2
    go_ret
    exact ⟨rfl, rfl⟩
  by_cases h4 : 6 < b
  · rw [hasB_no (.inr (.inr (.inr h4)))]
    go_enter Tryd.func17, Tryd.ntmps17
    go_wp2
    go_ret
    exact ⟨rfl, rfl⟩
  obtain ⟨m, rfl⟩ := Int.eq_ofNat_of_zero_le (show 0 ≤ n by omega)
  rw [hasB_yes (by omega)]
  have h6 : b = 1 ∨ b = 2 ∨ b = 3 ∨ b = 4 ∨ b = 5 ∨ b = 6 := by omega
  clear h3 h4
  rcases h6 with rfl | rfl | rfl | rfl | rfl | rfl
  all_goals
    go_enter Tryd.func17, Tryd.ntmps17
    go_wp2
    go_ret
    exact ⟨ret_bool (by rw [Bool.eq_iff_iff]; simp only [beq_iff_eq, decide_eq_true_iff]; omega), rfl⟩

set_option maxRecDepth 100000 in
set_option maxHeartbeats 4000000 in
theorem r7count_any (n : Int) (hn1 : -9223372036854775808 ≤ n) (hn2 : n ≤ 9223372036854775807) (w : World) :
    Calls Tryd.prog 19 #[.int .i64 n] w fun e w' => e = .returned (.int .i64 (countN n)) ∧ w' = w := by
  go_enter Tryd.func19, Tryd.ntmps19
  go_wp2_with fail
  go_loopw [3, 4] (fun c i wr => ∃ k : Nat, k ≤ 6 ∧ i = .int .i64 ((k : Int) + 1) ∧ c = .int .i64 (cntTo n k : Nat) ∧ wr = w) (fun _ i _ => (7 - intOf i).toNat)
  case atStart => exact ⟨0, by omega, rfl, rfl, rfl⟩
  case round =>
    obtain ⟨k, hk, rfl, rfl, rfl⟩ := hrel
    have hle := cntTo_le n k
    by_cases hk2 : k < 6
    · have HH := Lib.hid (r7has_any n ((k : Int) + 1) hn1 hn2 wr)
      have hsucc : cntTo n (k + 1) = cntTo n k + (if hasB n ((k : Int) + 1) = true then 1 else 0) := rfl
      have HS := Lib.hid hsucc
      clear hsucc
      cases hh : hasB n ((k : Int) + 1) with
      | false =>
        rw [hh] at HH HS
        simp only [Bool.false_eq_true, if_false, Nat.add_zero] at HS
        go_wp2_with (go_at_call 17; refine HH.out.mono ?_; rintro e w2 ⟨rfl, rfl⟩)
        go_roundw
        case rel => exact ⟨k + 1, by omega, by go_num, by rw [HS.out], trivial⟩
        case measure => simp [intOf]; omega
      | true =>
        rw [hh] at HH HS
        simp only [if_true] at HS
        go_wp2_with (go_at_call 17; refine HH.out.mono ?_; rintro e w2 ⟨rfl, rfl⟩)
        go_roundw
        case rel => exact ⟨k + 1, by omega, by go_num, by rw [HS.out]; go_num, trivial⟩
        case measure => simp [intOf]; omega
    · have hkn : k = 6 := by omega
      subst hkn
      go_wp2
      go_ret
      exact ⟨rfl, rfl⟩

end Go.Proofs.YtichkoilhnkmkaaDoor
