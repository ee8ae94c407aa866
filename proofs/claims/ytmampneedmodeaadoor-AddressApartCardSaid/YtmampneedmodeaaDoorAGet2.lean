/- The contract of address's Get. -/
import Derived.Test.YtmampneedmodeaaDoorAGet
import Derived.Deep.LoopGhost
namespace Go.Proofs.YtmampneedmodeaaDoor
open Go.RowKit Go.Shelf
set_option linter.unusedVariables false

def missE (b : Bool) : Int := if b then 5 else 7

theorem read1_in {n₁ : Nat} {w : World} {sv : Value} {zs : List UInt8} (hB : Byt n₁ w sv zs) (i : Int) (a : Nat) (hi : i = (a : Int)) (ha : a < 8 * zs.length) (hl : zs.length ≤ 1152921504606846975) :
    Calls Tryd.prog 26 #[sv, .int .i64 i, .int .i64 1] w fun e w' => e = .returned (.tuple #[.int .i64 (bt zs a : Nat), .int .i64 0]) ∧ w = w' := by
  subst hi
  have h := read_any hB (a : Int) 1 (by omega)
  unfold readV at h
  rw [if_neg (by omega), if_neg (by omega), Int.toNat_natCast] at h
  simpa [num] using h
theorem read1_out {n₁ : Nat} {w : World} {sv : Value} {zs : List UInt8} (hB : Byt n₁ w sv zs) (i : Int) (a : Nat) (hi : i = (a : Int)) (ha : 8 * zs.length ≤ a) (ha2 : a ≤ 9223372036854775807) :
    Calls Tryd.prog 26 #[sv, .int .i64 i, .int .i64 1] w fun e w' => e = .returned (.tuple #[.int .i64 0, .int .i64 5]) ∧ w = w' := by
  subst hi
  have h := read_any hB (a : Int) 1 (by omega)
  unfold readV at h
  rw [if_neg (by omega), if_pos (by omega)] at h
  exact h

set_option maxRecDepth 100000 in
set_option maxHeartbeats 4000000 in
theorem aget_any {n₁ : Nat} {w : World} {sv : Value} {zs : List UInt8} (hB : Byt n₁ w sv zs) (hn : n₁ ≤ w.heap.size) (x : Int) (hx : x ≤ 9223372036854775807) :
    Calls Tryd.prog 11 #[sv, .int .i64 x] w fun e w' => e = .returned (.tuple #[.int .i64 (gN zs x), .int .i64 (gM zs x), .int .i64 (gE zs x)]) ∧ Below w.heap.size w w' := by
  by_cases h0 : x < 0
  · have HG : Hid (gN zs x = 0 ∧ gM zs x = 0 ∧ gE zs x = 3) := by show _ ∧ _ ∧ _; unfold gN gM gE; simp [h0]
    clear hB
    go_enter Tryd.func11, Tryd.ntmps11
    go_wp2
    go_step3
    go_wp2
    try rw [Exit.noGoto_ret]
    go_ret3
    obtain ⟨g1, g2, g3⟩ := HG.out
    exact ⟨by rw [g1, g2, g3]; rfl, Below.refl _ _⟩
  obtain ⟨A, rfl⟩ := Int.eq_ofNat_of_zero_le (a := x) (by omega)
  obtain ⟨S, hS⟩ : ∃ S, S = seenB zs A (seenN zs A) := ⟨_, rfl⟩
  have HG : Hid (gN zs A = getX codes4 nums4 S ∧ gM zs A = (if getX codes4 nums4 S = 34 then 0 else getN codes4 S) ∧ gE zs A = getE3 codes4 S) := by
    show _ ∧ _ ∧ _
    unfold gN gM gE
    simp only [if_neg h0, Int.toNat_natCast, hS]
    exact ⟨trivial, trivial, trivial⟩
  have HS := Lib.hid hS
  have HBy := Lib.hid hB
  have hl := hB
  obtain ⟨a, cap, rfl, hl, q0⟩ := hl
  clear q0
  clear hB hS
  go_enter Tryd.func11, Tryd.ntmps11
  go_wp2
  go_step3
  go_wp2
  go_step3
  go_wp2_with (go_at_call 25; refine (codes4_any w).mono ?_; rintro e w1 ⟨v, rfl, hown, hb⟩; obtain ⟨g, capg, rfl, hg0, hg1, hc⟩ := tab_cells hown; have HC := Lib.hid hc; have HB1 := Lib.hid hb; clear hown hc hb; refine Hid.out ?_)
  refine Lib.hid ?_
  go_wp2_with fail
  go_loopg [7, 17] 35 (fun gh ms k wr => ∃ j : Nat, j + gh = 35 ∧ k = .int .i64 j ∧ ms = .int .i64 (missE (more4 S j)) ∧ (∀ i, i < j → begins S (codes4[i]?.getD ⟨#[]⟩) = false) ∧ Below w1.heap.size w1 wr)
  case atStart => exact ⟨0, by omega, rfl, rfl, fun i hi => by omega, Below.refl _ _⟩
  case round =>
    obtain ⟨k, hkg, rfl, rfl, hno, hb⟩ := hrel
    have HNo := Lib.hid hno
    have HB := Lib.hid hb
    clear hno hb
    cases gk with
    | zero =>
      have hk3 : k = 35 := by omega
      subst hk3
      go_wp2
      go_ret3
      have hI : getI codes4 S = none := getI_none (fun j hj => HNo.out j (by rw [codes4_length] at hj; exact hj))
      obtain ⟨g1, g2, g3⟩ := HG.out
      refine ⟨?_, HB1.out.trans (HB.out.mono HB1.out.size)⟩
      rw [g1, g2, g3]
      unfold getX getN getE3
      rw [hI, ← more4_all]
      rfl
    | succ gh =>
      have hk2 : k < 35 := by omega
      have hkd : decide ((k : Int) < 35) = true := decide_eq_true (by omega)
      obtain ⟨d0, d1⟩ := HC.out k hk2
      have c0 := (HB.out.cell (p := ⟨g, k * 2, none⟩) hg1).trans d0
      have c1 := (HB.out.cell (p := ⟨g, k * 2 + 1, none⟩) hg1).trans d1
      have hcd := tab4_small _ (cd_mem hk2)
      obtain ⟨q1, q2, q3⟩ := hcd
      clear d0 d1
      go_wp2_with fail
      have hwr := HB.out.size
      obtain ⟨wo, hwo⟩ : ∃ wo : World, wo = wr := ⟨_, rfl⟩
      subst hwo
      go_loopg [7, 24] (cd k).2 (fun g2 ms ci wy => ∃ j : Nat, j + g2 = (cd k).2 ∧ ci = .int .i64 j ∧ ms = .int .i64 (missE (more4 S k)) ∧ Agrees zs A (cd k).1 (cd k).2 j ∧ wo.heap.size < wy.heap.size ∧ wy.heap[wo.heap.size]? = some (.cells #[.int .i64 ((cd k).1 : Nat), .int .i64 ((cd k).2 : Nat)] 47 (0, 0)) ∧ Below w1.heap.size w1 wy)
      case atStart => exact ⟨0, by omega, rfl, rfl, fun i hi => by omega, by simp, World.alloc_heap_new _ _, HB.out.alloc hwr _⟩
      case round =>
        obtain ⟨j, hjg, rfl, rfl, hag, hlt, hbx, hby⟩ := hrel
        have HAg := Lib.hid hag
        have HBx := Lib.hid hbx
        have HBy2 := Lib.hid hby
        have HZ := Lib.hid ((HBy.out.below (HB1.out.mono hn)).below (hby.mono (Nat.le_trans hn HB1.out.size)))
        obtain ⟨e0, e1⟩ : wr.cell? ⟨wo.heap.size, 0, none⟩ = some (.int .i64 ((cd k).1 : Nat)) ∧ wr.cell? ⟨wo.heap.size, 1, none⟩ = some (.int .i64 ((cd k).2 : Nat)) := by simp [World.cell?, hbx]
        have hwy := hby.size
        clear hag hbx hby c0 c1
        cases gk with
        | zero =>
          have hj : j = (cd k).2 := by omega
          subst hj
          have hbg := agrees_all HAg.out q3
          rw [← HS.out] at hbg
          have hI : getI codes4 S = some k := getI_some (by rw [codes4_length]; exact hk2) (by rw [codes4_at hk2]; exact hbg) HNo.out
          have HX : Hid (getX codes4 nums4 S = k) := by show getX codes4 nums4 S = _; unfold getX; rw [hI]; exact nums4_at hk2
          have HN : Hid (getN codes4 S = (cd k).2) := by show getN codes4 S = _; unfold getN; rw [hI]; show (((codes4[k]?.getD ⟨#[]⟩).size : Nat) : Int) = _; rw [codes4_at hk2, binS_size]
          have HE : Hid (getE3 codes4 S = 0) := by show getE3 codes4 S = _; unfold getE3; rw [hI]
          clear hbg hI
          have HTk := Lib.hid (taken_any k (cd k) wr)
          obtain ⟨tk, htk⟩ : ∃ tk : Int, tk = (if (k : Int) = 34 then (0 : Int) else (((cd k).2 : Nat) : Int)) := ⟨_, rfl⟩
          rw [← htk] at HTk
          have HTq := Lib.hid htk
          clear htk
          go_wp2_with (go_at_call 28; refine HTk.out.mono ?_; rintro e w' ⟨rfl, hbt⟩)
          try rw [Exit.noGoto_ret]
          go_ret3
          obtain ⟨g1, g2, g3⟩ := HG.out
          refine ⟨?_, HB1.out.trans ((HBy2.out.mono HB1.out.size).trans (hbt.mono (by omega)))⟩
          rw [g1, g2, g3, HX.out, HN.out, HE.out, ← HTq.out]
          rfl
        | succ g2 =>
          have hjm : j < (cd k).2 := by omega
          have hA : A + j ≤ 9223372036854775807 := by
            by_cases hj0 : j = 0
            · omega
            · have := (HAg.out (j - 1) (by omega)).1
              omega
          by_cases hr : A + j < 8 * zs.length
          · have HRd := Lib.hid (fun i hi => read1_in HZ.out i (A + j) hi hr hl)
            have HAb := Lib.hid (abit_any (cd k).1 (cd k).2 j (by have := Nat.pow_le_pow_right (n := 2) (by omega) q3; omega) q3 hjm wr)
            have HSuc := Lib.hid (fun h => HAg.out.succ hr h)
            have HMi := Lib.hid (fun h => agrees_miss (b := (cd k).1) hjm q3 hr h)
            have hb2 : bt zs (A + j) < 2 := by have := bt_le zs (A + j); omega
            have hc2 := cbit_le (cd k).1 (cd k).2 j
            generalize bt zs (A + j) = y at *
            generalize cbit (cd k).1 (cd k).2 j = z at *
            by_cases hyz : y = z
            · subst hyz
              have t1 : ((y : Int) != (y : Int)) = false := by simp
              go_wp2_with (first | (go_at_call 26; refine (HRd.out _ (by omega)).mono ?_; rintro e w' ⟨rfl, rfl⟩) | (go_at_call 27; refine HAb.out.mono ?_; rintro e w' ⟨rfl, hbt⟩))
              go_roundg g2
              case measure => omega
              case rel => exact ⟨j + 1, by omega, by go_num, rfl, HSuc.out (by trivial), by have := hbt.size; omega, (hbt.block _ hlt).trans HBx.out, HBy2.out.trans (hbt.mono hwy)⟩
            · have t1 : ((y : Int) != (z : Int)) = true := by rw [bne_iff_ne]; omega
              go_wp2_with (first | (go_at_call 26; refine (HRd.out _ (by omega)).mono ?_; rintro e w' ⟨rfl, rfl⟩) | (go_at_call 27; refine HAb.out.mono ?_; rintro e w' ⟨rfl, hbt⟩))
              obtain ⟨m1, m2⟩ := HMi.out hyz
              rw [← HS.out] at m1 m2
              go_roundg gh
              case measure => omega
              case rel => exact ⟨k + 1, by omega, by go_num, by rw [more4_succ _ hk2, m2, Bool.or_false], fun i hi => by
                by_cases e : i = k
                · subst e; rw [codes4_at hk2]; exact m1
                · exact HNo.out i (by omega), HBy2.out.trans (hbt.mono hwy)⟩
          · have HRd := Lib.hid (fun i hi => read1_out HZ.out i (A + j) hi (by omega) hA)
            go_wp2_with (go_at_call 26; refine (HRd.out _ (by omega)).mono ?_; rintro e w' ⟨rfl, rfl⟩)
            obtain ⟨m1, m2⟩ := agrees_short HAg.out hjm q3 (by omega)
            rw [← HS.out] at m1 m2
            go_roundg gh
            case measure => omega
            case rel => exact ⟨k + 1, by omega, by go_num, by rw [more4_succ _ hk2, m2, Bool.or_true]; rfl, fun i hi => by
              by_cases e : i = k
              · subst e; rw [codes4_at hk2]; exact m1
              · exact HNo.out i (by omega), HBy2.out⟩

end Go.Proofs.YtmampneedmodeaaDoor
