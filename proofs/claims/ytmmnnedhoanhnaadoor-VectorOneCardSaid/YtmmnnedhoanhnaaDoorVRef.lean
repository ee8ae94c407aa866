/- Contracts of the reference's vector (praxinoscoperef06): Codes, numbers, Get, Put, Turn, Diff, Predict. What vector's functions must answer, as one record; the laws' helpers gets, puts, turns, diffs, awake (praxinoscopelaw06). -/
import Derived.Test.YtmmnnedhoanhnaaDoorLit
/- Contracts of the reference's vector (praxinoscoperef06). -/
namespace Go.Proofs.YtmmnnedhoanhnaaDoor
open Go.RowKit Go.Shelf
set_option linter.unusedVariables false

def codes6 : List ByteArray := [[0, 0, 0, 0, 0, 0, 1, 1, 0, 0, 1], [0, 0, 0, 0, 0, 0, 1, 1, 0, 1, 1], [0, 0, 0, 0, 0, 0, 1, 1, 1, 0, 1], [0, 0, 0, 0, 0, 0, 1, 1, 1, 1, 1], [0, 0, 0, 0, 0, 1, 0, 0, 0, 0, 1], [0, 0, 0, 0, 0, 1, 0, 0, 0, 1, 1], [0, 0, 0, 0, 0, 1, 0, 0, 1, 1], [0, 0, 0, 0, 0, 1, 0, 1, 0, 1], [0, 0, 0, 0, 0, 1, 0, 1, 1, 1], [0, 0, 0, 0, 0, 1, 1, 1], [0, 0, 0, 0, 1, 0, 0, 1], [0, 0, 0, 0, 1, 0, 1, 1], [0, 0, 0, 0, 1, 1, 1], [0, 0, 0, 1, 1], [0, 0, 1, 1], [0, 1, 1], [1], [0, 1, 0], [0, 0, 1, 0], [0, 0, 0, 1, 0], [0, 0, 0, 0, 1, 1, 0], [0, 0, 0, 0, 1, 0, 1, 0], [0, 0, 0, 0, 1, 0, 0, 0], [0, 0, 0, 0, 0, 1, 1, 0], [0, 0, 0, 0, 0, 1, 0, 1, 1, 0], [0, 0, 0, 0, 0, 1, 0, 1, 0, 0], [0, 0, 0, 0, 0, 1, 0, 0, 1, 0], [0, 0, 0, 0, 0, 1, 0, 0, 0, 1, 0], [0, 0, 0, 0, 0, 1, 0, 0, 0, 0, 0], [0, 0, 0, 0, 0, 0, 1, 1, 1, 1, 0], [0, 0, 0, 0, 0, 0, 1, 1, 1, 0, 0], [0, 0, 0, 0, 0, 0, 1, 1, 0, 1, 0]].map bitsT
def nums6 : List Int := (List.range 32).map fun (k : Nat) => (k : Int) - 16
theorem codes6_length : codes6.length = 32 := rfl
theorem make6 : makeE codes6 nums6 = 0 := by decide +kernel
theorem clash6 : clash codes6 = false := by decide +kernel
theorem codes6_bits : ∀ c ∈ codes6, allB c = true ∧ 1 ≤ c.size ∧ c.size ≤ 11 := by decide +kernel
theorem codes6_small : ∀ s ∈ codes6, s.size ≤ 9223372036854775807 := fun s h => by have := (codes6_bits s h).2.2; omega
theorem codes6_at {k : Nat} (hk : k < 32) : AllBits (codes6[k]?.getD ⟨#[]⟩) ∧ 1 ≤ (codes6[k]?.getD (⟨#[]⟩ : ByteArray)).size ∧ (codes6[k]?.getD (⟨#[]⟩ : ByteArray)).size ≤ 11 := by
  have h : k < codes6.length := hk
  have := codes6_bits codes6[k] (List.getElem_mem _)
  simp only [List.getElem?_eq_getElem h, Option.getD_some]
  exact ⟨(allB_iff _).1 this.1, this.2⟩
theorem nums6_at {k : Nat} (hk : k < 32) : nums6[k]?.getD 0 = (k : Int) - 16 := by simp [nums6, hk]

/-! ### what is answered -/
def putS6 (d : Int) : ByteArray := if d < -16 ∨ 15 < d then ⟨#[]⟩ else codes6[(d + 16).toNat]?.getD ⟨#[]⟩
def putE6 (d : Int) : Int := if d < -16 ∨ 15 < d then 3 else 0
def partB (n : Int) : Bool := decide (-15 ≤ n ∧ n ≤ 15)
def outB (p d : Int) : Bool := decide (p < -15 ∨ 15 < p ∨ d < -16 ∨ 15 < d)
def nearN (s d : Int) : Int := if partB s then s else if d < 0 then s + 32 else s - 32
def turnN (p d : Int) : Int := if outB p d then 0 else if partB (nearN (p + d) d) then nearN (p + d) d else 0
def turnE (p d : Int) : Int := if outB p d then 3 else if partB (nearN (p + d) d) then 0 else 12
def diffN (p q : Int) : Int := if partB p && partB q then (if q - p < -16 then q - p + 32 else if 16 ≤ q - p then q - p - 32 else q - p) else 0
def diffE (p q : Int) : Int := if partB p && partB q then 0 else 3
def predB (a d : Int) (had : Bool) : Bool := had && decide (a ≠ 1 ∧ a ≠ 12 ∧ a ≠ 23 ∧ d = 1)
def predN (a d : Int) (had : Bool) (x : Int) : Int := if predB a d had then x else 0

theorem part_yes {n : Int} (h1 : -15 ≤ n) (h2 : n ≤ 15) : partB n = true := decide_eq_true ⟨h1, h2⟩
theorem part_no {n : Int} (h : n < -15 ∨ 15 < n) : partB n = false := decide_eq_false (by omega)
theorem turn_out {p d : Int} (h : p < -15 ∨ 15 < p ∨ d < -16 ∨ 15 < d) : turnN p d = 0 ∧ turnE p d = 3 := by
  have e : outB p d = true := decide_eq_true h
  simp [turnN, turnE, e]
theorem turn_in {p d : Int} (h : ¬ (p < -15 ∨ 15 < p ∨ d < -16 ∨ 15 < d)) {s : Int} (hs : nearN (p + d) d = s) : turnN p d = (if partB s then s else 0) ∧ turnE p d = (if partB s then 0 else 12) := by
  have e : outB p d = false := decide_eq_false h
  simp [turnN, turnE, e, hs]
theorem near_self {s d : Int} (h1 : -15 ≤ s) (h2 : s ≤ 15) : nearN s d = s := by unfold nearN; rw [part_yes h1 h2]; rfl
theorem near_up {s d : Int} (h : s < -15 ∨ 15 < s) (hd : d < 0) : nearN s d = s + 32 := by unfold nearN; rw [part_no h]; simp [hd]
theorem near_down {s d : Int} (h : s < -15 ∨ 15 < s) (hd : ¬ d < 0) : nearN s d = s - 32 := by unfold nearN; rw [part_no h]; simp [hd]

/-! ### the reference -/
set_option maxRecDepth 100000 in
set_option maxHeartbeats 1000000 in
theorem r6codes_any (w : World) :
    Calls Tryd.prog 33 #[] w fun e w' => e = .returned (.slice (some ⟨w.heap.size, 0, none⟩) 32 32) ∧ w' = w.alloc (.cells (strV codes6).toArray 9 (0, 0)) := by
  go_enter Tryd.func33, Tryd.ntmps33
  go_wp2_with (with_reducible refine stop_slice 54 32 _ rfl ?_; refine Hid.out ?_)
  refine Lib.hid ?_
  refine Great.wpList_buildSliceTo rfl 54 9 32 _ rfl _ rfl _ rfl Tryd.underlying54x (strV codes6).toArray (by kernel_rfl) ?_
  go_wp2
  go_ret
  exact ⟨rfl, rfl⟩
theorem intV_snoc6 (n : Nat) : intV ((List.range n).map fun (k : Nat) => (k : Int) - 16) ++ [.int .i64 ((n : Int) - 16)] = intV ((List.range (n + 1)).map fun (k : Nat) => (k : Int) - 16) := by simp [List.range_succ]
set_option maxRecDepth 100000 in
set_option maxHeartbeats 1000000 in
theorem r6numbers_any (w : World) :
    Calls Tryd.prog 34 #[] w fun e w' => ∃ v, e = .returned v ∧ w'.ownsRow w.heap.size 3 1 v 32 (intV nums6) ∧ Below w.heap.size w w' := by
  obtain ⟨i2, hi2', hz20, hz21, hz22⟩ := info_parts Tryd.info3y
  go_enter Tryd.func34, Tryd.ntmps34
  go_wp2_with fail
  go_loopw [1, 2] (fun v i wr => ∃ k : Nat, i = .int .i64 ((k : Int) - 16) ∧ k ≤ 32 ∧ wr.ownsRow w.heap.size 3 1 v k (intV ((List.range k).map fun (k : Nat) => (k : Int) - 16)) ∧ Below w.heap.size w wr) (fun _ i _ => (16 - intOf i).toNat)
  case atStart => exact ⟨0, rfl, by omega, World.ownsRow_nil _ _ _ _, Below.refl _ _⟩
  case round =>
    obtain ⟨k, rfl, hk, ho, hb⟩ := hrel
    have HO := Lib.hid ho
    have HB := Lib.hid hb
    have hs := hb.size
    clear ho hb
    by_cases hk2 : k < 32
    · go_wp2_with (at_builtin; go_loud (refine wpList_append_v rfl _ _ 41 3 i2 (.int .i64 0) 8 rfl Tryd.underlying41y hi2' hz20 hz21 hz22 rfl w.heap.size _ k _ rfl (HO.out.alloc _) (some ⟨wr.heap.size, 0, none⟩) 1 1 [.int .i64 ((k : Int) - 16)] rfl (src_one _ _ _) (fun e => nomatch e) (by simp [Value.oneCell']) (by omega) (by omega) (by simp; omega) ?_); intro v1 w1 hap; have HA := Lib.hid hap; clear hap)
      go_roundw
      case rel =>
        refine ⟨k + 1, by go_num, by omega, ?_, ?_⟩
        · rw [← intV_snoc6]
          exact HA.out.1
        · exact (HB.out.alloc (by omega) _).grown HA.out.2.1 (by simp; omega) (fun j e => (HO.out.lt j e).1)
      case measure => simp [intOf]; omega
    · have hkn : k = 32 := by omega
      subst hkn
      go_wp2
      go_ret
      exact ⟨_, rfl, HO.out, HB.out⟩

theorem getT_form6 (cs : List ByteArray) (ns : List Int) (zs : List UInt8) (x : Int) : ∃ g n e : Int, getT cs ns zs x = .tuple #[.int .i64 g, .int .i64 n, .int .i64 e] := by
  unfold getT
  split
  · exact ⟨_, _, _, rfl⟩
  · exact ⟨_, _, _, rfl⟩

set_option maxHeartbeats 1000000 in
theorem r6get_any {n₁ : Nat} {w : World} {sv : Value} {zs : List UInt8} (hB : Byt n₁ w sv zs) (hn : n₁ ≤ w.heap.size) (hl : zs.length ≤ 1099511627776) (x : Int) (hx : x ≤ 9223372036854775807) :
    Calls Tryd.prog 11 #[sv, .int .i64 x] w fun e w' => e = .returned (getT codes6 nums6 zs x) ∧ Below w.heap.size w w' := by
  have HB := Lib.hid (fun w' (hb : Below w.heap.size w w') => hB.below (hb.mono hn))
  clear hB
  obtain ⟨g, n, e0, hg⟩ := getT_form6 codes6 nums6 zs x
  have HG := Lib.hid hg
  rw [hg]
  clear hg
  have h1 : Below w.heap.size w (w.alloc (.cells (strV codes6).toArray 9 (0, 0))) := (Below.refl _ w).alloc (Nat.le_refl _) _
  have HR := Lib.hid (rowV_new w (strV codes6) 9 32 (by simp [codes6_length]) (by decide))
  generalize hw1 : w.alloc (.cells (strV codes6).toArray 9 (0, 0)) = w1 at *
  have HW1 := Lib.hid hw1
  clear hw1
  have hs1 := h1.size
  have H1 := Lib.hid h1
  clear h1
  go_enter Tryd.func11, Tryd.ntmps11
  go_wp2_with (go_at_call 33; refine (r6codes_any w).mono ?_; rintro e w' ⟨rfl, hw'⟩; rw [HW1.out] at hw'; have hw2 := hw'.symm; subst hw2; refine Hid.out ?_)
  refine Lib.hid ?_
  go_wp2_with fail
  refine (r6numbers_any w1).mono ?_
  rintro e w2 ⟨v2, rfl, ho, b2⟩
  obtain ⟨a2, c2, rfl, hr2⟩ := rowV_own4 ho
  have HB2 := Lib.hid b2
  have hs2 := b2.size
  have HM := Lib.hid (tmake_any ((HR.out.below b2).mono4 hs2) hr2 codes6_small)
  clear ho hr2 b2
  go_wp2_with fail
  refine HM.out.mono ?_
  rintro e w3 ⟨b3, hm⟩
  obtain ⟨_, bt, rfl, hT⟩ := hm.resolve_right (fun h => h.1 make6)
  have B3 : Below w.heap.size w w3 := (H1.out.trans (HB2.out.mono hs1)).trans (b3.mono (by omega))
  have HB3 := Lib.hid B3
  have HGt := Lib.hid (tget_any hT (HB.out _ B3) (by have := B3.size; omega) hl x hx)
  rw [HG.out] at HGt
  clear hT b3 hm B3
  go_wp2_with (go_at_call 35; refine HGt.out.mono ?_; rintro e w4 ⟨rfl, b4⟩)
  go_ret3
  exact ⟨rfl, below_chain HB3.out (Nat.le_refl _) b4⟩

set_option maxRecDepth 100000 in
set_option maxHeartbeats 1000000 in
theorem r6put_any (d : Int) (w : World) :
    Calls Tryd.prog 14 #[.int .i64 d] w fun e w' => e = .returned (.tuple #[.string (putS6 d), .int .i64 (putE6 d)]) ∧ Below w.heap.size w w' := by
  unfold putS6 putE6
  by_cases h : d < -16 ∨ 15 < d
  · rw [if_pos h, if_pos h]
    by_cases h1 : d < -16
    · clear h
      go_enter Tryd.func14, Tryd.ntmps14
      go_wp2
      go_ret2
      exact ⟨rfl, Below.refl _ _⟩
    · have h2 : 15 < d := by omega
      clear h
      go_enter Tryd.func14, Tryd.ntmps14
      go_wp2
      go_ret2
      exact ⟨rfl, Below.refl _ _⟩
  · rw [if_neg h, if_neg h]
    obtain ⟨k, hk⟩ := Int.eq_ofNat_of_zero_le (a := d + 16) (by omega)
    obtain rfl : d = (k : Int) - 16 := by omega
    have hk2 : k < 32 := by omega
    rw [show ((k : Int) - 16 + 16).toNat = k by omega]
    have h1 : Below w.heap.size w (w.alloc (.cells (strV codes6).toArray 9 (0, 0))) := (Below.refl _ w).alloc (Nat.le_refl _) _
    have hc : (w.alloc (.cells (strV codes6).toArray 9 (0, 0))).cell? ⟨w.heap.size, k, none⟩ = some (.string (codes6[k]?.getD ⟨#[]⟩)) := by
      have hk3 : k < codes6.length := hk2
      have h := src_row w (strV codes6) 9 k (.string (codes6[k]?.getD ⟨#[]⟩)) (by simp [hk3])
      have hadd : (⟨w.heap.size, 0, none⟩ : Addr).add k = ⟨w.heap.size, 0 + k, none⟩ := by unfold Addr.add; split <;> simp_all
      rwa [hadd, Nat.zero_add] at h
    generalize codes6[k]?.getD ⟨#[]⟩ = s at *
    generalize hw1 : w.alloc (.cells (strV codes6).toArray 9 (0, 0)) = w1 at *
    have HW1 := Lib.hid hw1
    clear hw1 h hk
    go_enter Tryd.func14, Tryd.ntmps14
    go_wp2_with (go_at_call 33; refine (r6codes_any w).mono ?_; rintro e w' ⟨rfl, hw'⟩; rw [HW1.out] at hw'; have hw2 := hw'.symm; subst hw2; refine Hid.out ?_)
    refine Lib.hid ?_
    go_wp2
    go_ret2
    exact ⟨rfl, h1⟩

theorem r6part_any (n : Int) (w : World) : Calls Tryd.prog 38 #[.int .i64 n] w fun e w' => e = .returned (.bool (partB n)) ∧ w = w' := by
  by_cases h1 : n < -15
  · rw [part_no (.inl h1)]
    go_enter Tryd.func38, Tryd.ntmps38
    go_wp2
    go_ret
    exact ⟨rfl, rfl⟩
  · by_cases h2 : 15 < n
    · rw [part_no (.inr h2)]
      go_enter Tryd.func38, Tryd.ntmps38
      go_wp2
      go_ret
      exact ⟨ret_bool (decide_eq_false (by omega)), rfl⟩
    · rw [part_yes (by omega) (by omega)]
      go_enter Tryd.func38, Tryd.ntmps38
      go_wp2
      go_ret
      exact ⟨rfl, rfl⟩

set_option maxHeartbeats 1000000 in
theorem r6turn_any (p d : Int) (w : World) :
    Calls Tryd.prog 16 #[.int .i64 p, .int .i64 d] w fun e w' => e = .returned (.tuple #[.int .i64 (turnN p d), .int .i64 (turnE p d)]) ∧ w = w' := by
  by_cases h : p < -15 ∨ 15 < p ∨ d < -16 ∨ 15 < d
  · obtain ⟨hN, hE⟩ := turn_out h
    rw [hN, hE]
    clear hN hE
    by_cases h1 : p < -15 ∨ 15 < p
    · have e1 := part_no h1
      clear h h1
      go_enter Tryd.func16, Tryd.ntmps16
      go_wp2_with (go_at_call 38; refine (r6part_any _ w).mono ?_; rintro e w' ⟨rfl, rfl⟩)
      go_ret2
      exact ⟨rfl, rfl⟩
    · have e1 := part_yes (n := p) (by omega) (by omega)
      by_cases h2 : d < -16
      · clear h h1
        go_enter Tryd.func16, Tryd.ntmps16
        go_wp2_with (go_at_call 38; refine (r6part_any _ w).mono ?_; rintro e w' ⟨rfl, rfl⟩)
        go_ret2
        exact ⟨rfl, rfl⟩
      · have h3 : 15 < d := by omega
        clear h h1
        go_enter Tryd.func16, Tryd.ntmps16
        go_wp2_with (go_at_call 38; refine (r6part_any _ w).mono ?_; rintro e w' ⟨rfl, rfl⟩)
        go_ret2
        exact ⟨rfl, rfl⟩
  · have hp1 : -15 ≤ p := by omega
    have hp2 : p ≤ 15 := by omega
    have hd1 : -16 ≤ d := by omega
    have hd2 : d ≤ 15 := by omega
    have e1 := part_yes hp1 hp2
    by_cases hs : -15 ≤ p + d ∧ p + d ≤ 15
    · have e2 := part_yes hs.1 hs.2
      obtain ⟨hN, hE⟩ := turn_in h (near_self hs.1 hs.2)
      rw [hN, hE, e2]
      clear hN hE h hs
      by_cases hd : d < 0
      · go_enter Tryd.func16, Tryd.ntmps16
        go_wp2_with (go_at_call 38; refine (r6part_any _ w).mono ?_; rintro e w' ⟨rfl, rfl⟩)
        go_ret2
        exact ⟨rfl, rfl⟩
      · go_enter Tryd.func16, Tryd.ntmps16
        go_wp2_with (go_at_call 38; refine (r6part_any _ w).mono ?_; rintro e w' ⟨rfl, rfl⟩)
        go_ret2
        exact ⟨rfl, rfl⟩
    · have hs2 : p + d < -15 ∨ 15 < p + d := by omega
      have e2 := part_no hs2
      by_cases hd : d < 0
      · obtain ⟨hN, hE⟩ := turn_in h (near_up hs2 hd)
        rw [hN, hE]
        have e4 : partB (p + (d + 32)) = partB (p + d + 32) := by rw [Int.add_assoc]
        cases e3 : partB (p + d + 32) with
        | true =>
          rw [e3] at e4
          have e5 : p + d + 32 = p + (d + 32) := by omega
          rw [e5]
          clear hN hE h hs hs2 e3 e5
          go_enter Tryd.func16, Tryd.ntmps16
          go_wp2_with (go_at_call 38; refine (r6part_any _ w).mono ?_; rintro e w' ⟨rfl, rfl⟩)
          go_ret2
          exact ⟨rfl, rfl⟩
        | false =>
          rw [e3] at e4
          clear hN hE h hs hs2 e3
          go_enter Tryd.func16, Tryd.ntmps16
          go_wp2_with (go_at_call 38; refine (r6part_any _ w).mono ?_; rintro e w' ⟨rfl, rfl⟩)
          go_ret2
          exact ⟨rfl, rfl⟩
      · obtain ⟨hN, hE⟩ := turn_in h (near_down hs2 hd)
        rw [hN, hE]
        have e4 : partB (p + (d - 32)) = partB (p + d - 32) := by rw [Int.add_sub_assoc]
        cases e3 : partB (p + d - 32) with
        | true =>
          rw [e3] at e4
          have e5 : p + d - 32 = p + (d - 32) := by omega
          rw [e5]
          clear hN hE h hs hs2 e3 e5
          go_enter Tryd.func16, Tryd.ntmps16
          go_wp2_with (go_at_call 38; refine (r6part_any _ w).mono ?_; rintro e w' ⟨rfl, rfl⟩)
          go_ret2
          exact ⟨rfl, rfl⟩
        | false =>
          rw [e3] at e4
          clear hN hE h hs hs2 e3
          go_enter Tryd.func16, Tryd.ntmps16
          go_wp2_with (go_at_call 38; refine (r6part_any _ w).mono ?_; rintro e w' ⟨rfl, rfl⟩)
          go_ret2
          exact ⟨rfl, rfl⟩

theorem diff_out {p q : Int} (h : ¬ (partB p = true ∧ partB q = true)) : diffN p q = 0 ∧ diffE p q = 3 := by
  have e : (partB p && partB q) = false := by
    rw [Bool.eq_false_iff]
    intro h2
    exact h (by simpa using h2)
  simp [diffN, diffE, e]
theorem part_iff {n : Int} : partB n = true ↔ (-15 ≤ n ∧ n ≤ 15) := by simp [partB]
theorem diff_three {p q : Int} (hp : partB p = true) (hq : partB q = true) : (q - p < -16 ∧ diffN p q = q - p + 32) ∨ (16 ≤ q - p ∧ diffN p q = q - p - 32) ∨ (-16 ≤ q - p ∧ q - p < 16 ∧ diffN p q = q - p) := by
  have e : (partB p && partB q) = true := by simp [hp, hq]
  unfold diffN
  rw [if_pos e]
  by_cases h1 : q - p < -16
  · rw [if_pos h1]; exact .inl ⟨h1, rfl⟩
  · rw [if_neg h1]
    by_cases h2 : 16 ≤ q - p
    · rw [if_pos h2]; exact .inr (.inl ⟨h2, rfl⟩)
    · rw [if_neg h2]; exact .inr (.inr ⟨by omega, by omega, rfl⟩)
theorem diff_in {p q : Int} (hp : partB p = true) (hq : partB q = true) : diffE p q = 0 ∧ -16 ≤ diffN p q ∧ diffN p q ≤ 15 ∧ (∀ x, -16 ≤ x → x ≤ 15 → ((turnE p x = 0 ∧ turnN p x = q) ↔ x = diffN p q)) := by
  have e : (partB p && partB q) = true := by simp [hp, hq]
  have h1 := part_iff.1 hp
  have h2 := part_iff.1 hq
  have h3 := diff_three hp hq
  generalize diffN p q = D at *
  refine ⟨by simp [diffE, e], by omega, by omega, fun x hx1 hx2 => ?_⟩
  have ho : outB p x = false := decide_eq_false (by omega)
  unfold turnE turnN
  rw [ho]
  simp only [Bool.false_eq_true, if_false]
  by_cases hs : -15 ≤ p + x ∧ p + x ≤ 15
  · rw [near_self hs.1 hs.2, part_yes hs.1 hs.2]
    simp only [↓reduceIte, true_and]
    constructor <;> intro h <;> omega
  · have hs2 : p + x < -15 ∨ 15 < p + x := by omega
    by_cases hx : x < 0
    · rw [near_up hs2 hx]
      by_cases hn : -15 ≤ p + x + 32 ∧ p + x + 32 ≤ 15
      · rw [part_yes hn.1 hn.2]
        simp only [↓reduceIte, true_and]
        constructor <;> intro h <;> omega
      · rw [part_no (by omega)]
        simp only [Bool.false_eq_true, if_false]
        constructor <;> intro h <;> omega
    · rw [near_down hs2 hx]
      by_cases hn : -15 ≤ p + x - 32 ∧ p + x - 32 ≤ 15
      · rw [part_yes hn.1 hn.2]
        simp only [↓reduceIte, true_and]
        constructor <;> intro h <;> omega
      · rw [part_no (by omega)]
        simp only [Bool.false_eq_true, if_false]
        constructor <;> intro h <;> omega

set_option maxHeartbeats 1000000 in
theorem r6diff_any (p q : Int) (w : World) :
    Calls Tryd.prog 18 #[.int .i64 p, .int .i64 q] w fun e w' => e = .returned (.tuple #[.int .i64 (diffN p q), .int .i64 (diffE p q)]) ∧ w = w' := by
  cases hp : partB p with
  | false =>
    obtain ⟨hN, hE⟩ := diff_out (p := p) (q := q) (by simp [hp])
    rw [hN, hE]
    clear hN hE
    go_enter Tryd.func18, Tryd.ntmps18
    go_wp2_with (go_at_call 38; refine (r6part_any _ w).mono ?_; rintro e w' ⟨rfl, rfl⟩)
    go_ret2
    exact ⟨rfl, rfl⟩
  | true =>
    cases hq : partB q with
    | false =>
      obtain ⟨hN, hE⟩ := diff_out (p := p) (q := q) (by simp [hq])
      rw [hN, hE]
      clear hN hE
      go_enter Tryd.func18, Tryd.ntmps18
      go_wp2_with (go_at_call 38; refine (r6part_any _ w).mono ?_; rintro e w' ⟨rfl, rfl⟩)
      go_ret2
      exact ⟨rfl, rfl⟩
    | true =>
      obtain ⟨hE, hd1, hd2, hx⟩ := diff_in hp hq
      rw [hE]
      clear hE
      have HX := Lib.hid hx
      obtain ⟨D, hD⟩ : ∃ D, D = diffN p q := ⟨_, rfl⟩
      rw [← hD] at HX hd1 hd2 ⊢
      clear hD hx
      go_enter Tryd.func18, Tryd.ntmps18
      go_wp2_with (go_at_call 38; refine (r6part_any _ w).mono ?_; rintro e w' ⟨rfl, rfl⟩)
      go_loop [6, 7, 8] (fun i _ _ => ∃ x : Int, i = .int .i64 x ∧ -16 ≤ x ∧ x ≤ D) (fun i _ _ => (16 - intOf i).toNat)
      case atStart => exact ⟨-16, rfl, by omega, by omega⟩
      case round =>
        obtain ⟨x, rfl, hx1, hx2⟩ := hrel
        have hiff := HX.out x hx1 (by omega)
        by_cases he : x = D
        · subst he
          obtain ⟨t1, t2⟩ := hiff.2 rfl
          clear hiff
          go_wp2_with (go_at_call 16; refine (r6turn_any _ _ w).mono ?_; rintro e w' ⟨rfl, rfl⟩)
          go_ret2
          exact ⟨rfl, rfl⟩
        · have hlt : x < D := by omega
          have hno : ¬ (turnE p x = 0 ∧ turnN p x = q) := fun h => he (hiff.1 h)
          have t1 : ((turnE p x == 0) && (turnN p x == q)) = false := by
            rw [Bool.eq_false_iff]
            intro h
            exact hno (by simpa using h)
          have HR := Lib.hid (r6turn_any p x w)
          generalize turnE p x = E at *
          generalize turnN p x = T at *
          clear hiff hno he
          by_cases hE0 : E = 0
          · subst hE0
            have t2 : (T == q) = false := by simpa using t1
            clear t1
            go_wp2_with (go_at_call 16; refine HR.out.mono ?_; rintro e w' ⟨rfl, rfl⟩)
            go_round
            case rel => exact ⟨x + 1, by go_num, by omega, by omega⟩
            case measure => simp [intOf]; omega
          · have t2 : (E == 0) = false := by simpa using hE0
            clear t1 hE0
            go_wp2_with (go_at_call 16; refine HR.out.mono ?_; rintro e w' ⟨rfl, rfl⟩)
            go_round
            case rel => exact ⟨x + 1, by go_num, by omega, by omega⟩
            case measure => simp [intOf]; omega

set_option maxHeartbeats 1000000 in
theorem r6pred_any (a d : Int) (had : Bool) (x y : Int) (w : World) :
    Calls Tryd.prog 20 #[.int .i64 a, .int .i64 d, .bool had, .int .i64 x, .int .i64 y] w fun e w' => e = .returned (.tuple #[.int .i64 (predN a d had x), .int .i64 (predN a d had y)]) ∧ w = w' := by
  unfold predN
  by_cases h1 : a = 1
  · subst h1
    rw [show predB 1 d had = false by simp [predB]]
    go_enter Tryd.func20, Tryd.ntmps20
    go_wp2
    go_ret2
    exact ⟨rfl, rfl⟩
  by_cases h2 : a = 12
  · subst h2
    rw [show predB 12 d had = false by simp [predB]]
    clear h1
    go_enter Tryd.func20, Tryd.ntmps20
    go_wp2
    go_ret2
    exact ⟨rfl, rfl⟩
  by_cases h3 : a = 23
  · subst h3
    rw [show predB 23 d had = false by simp [predB]]
    clear h1 h2
    go_enter Tryd.func20, Tryd.ntmps20
    go_wp2
    go_ret2
    exact ⟨rfl, rfl⟩
  have t1 : (a == 1) = false := by simpa using h1
  have t2 : (a == 12) = false := by simpa using h2
  have t3 : (a == 23) = false := by simpa using h3
  by_cases h4 : d = 1
  · subst h4
    cases had with
    | false =>
      rw [show predB a 1 false = false by simp [predB]]
      clear h1 h2 h3
      go_enter Tryd.func20, Tryd.ntmps20
      go_wp2
      go_ret2
      exact ⟨rfl, rfl⟩
    | true =>
      rw [show predB a 1 true = true by simp [predB, h1, h2, h3]]
      clear h1 h2 h3
      go_enter Tryd.func20, Tryd.ntmps20
      go_wp2
      go_ret2
      exact ⟨rfl, rfl⟩
  · rw [show predB a d had = false by simp [predB, h4]]
    have t4 : (d != 1) = true := by simpa using h4
    clear h1 h2 h3 h4
    go_enter Tryd.func20, Tryd.ntmps20
    go_wp2
    go_ret2
    exact ⟨rfl, rfl⟩

end Go.Proofs.YtmmnnedhoanhnaaDoor
