/- The contract of the reference's Make (praxinoscoperef03). -/
import Derived.Test.YtmampneedmodeaaDoorAppendV
namespace Go.Proofs.YtmampneedmodeaaDoor
open Go.RowKit Go.Shelf
set_option linter.unusedVariables false

/-- does a code begin another one, or are two the same? -/
def clashAt (codes : List ByteArray) (i k : Nat) : Bool := decide (i ≠ k) && begins (codes[i]?.getD ⟨#[]⟩) (codes[k]?.getD ⟨#[]⟩)
def clash (codes : List ByteArray) : Bool := (List.range codes.length).any fun i => (List.range codes.length).any fun k => clashAt codes i k
/-- what Make answers -/
def makeE (codes : List ByteArray) (nums : List Int) : Int :=
  if codes.length ≠ nums.length ∨ codes.length = 0 ∨ 300 < codes.length then 2
  else if codes.all codeB then (if clash codes then 14 else 0) else 2
theorem clash_true {codes : List ByteArray} {i k : Nat} (hi : i < codes.length) (hk : k < codes.length) (h : clashAt codes i k = true) : clash codes = true := by
  unfold clash
  rw [List.any_eq_true]
  refine ⟨i, by simpa using hi, ?_⟩
  rw [List.any_eq_true]
  exact ⟨k, by simpa using hk, h⟩
theorem clash_false {codes : List ByteArray} (h : ∀ i, i < codes.length → ∀ k, k < codes.length → clashAt codes i k = false) : clash codes = false := by
  unfold clash
  rw [List.any_eq_false]
  intro i hi
  rw [Bool.not_eq_true, List.any_eq_false]
  intro k hk
  rw [Bool.not_eq_true]
  exact h i (by simpa using hi) k (by simpa using hk)
theorem all_codes {codes : List ByteArray} (h : ∀ j, j < codes.length → codeB (codes[j]?.getD ⟨#[]⟩) = true) : codes.all codeB = true := by
  rw [List.all_eq_true]
  intro s hs
  obtain ⟨j, hj, rfl⟩ := List.getElem_of_mem hs
  simpa [hj] using h j hj
theorem not_all {codes : List ByteArray} {j : Nat} (hj : j < codes.length) (h : codeB (codes[j]?.getD ⟨#[]⟩) = false) : codes.all codeB = false := by
  rw [List.all_eq_false]
  exact ⟨codes[j], List.getElem_mem _, by simpa [hj] using h⟩

theorem below_undrew2' {n : Nat} {a b : World} (h : Below n a b) : Below n a b.drew := ⟨h.os, h.tape, h.output, h.size, h.block⟩
/-- what a call of a Make may leave -/
def Made3 (w w' : World) (e : Ending) (codes : List ByteArray) (nums : List Int) : Prop :=
  Below w.heap.size w w' ∧ ((makeE codes nums = 0 ∧ ∃ b, e = .returned (.tuple #[.pointer (some ⟨b, 0, none⟩), .int .i64 0]) ∧ IsT w.heap.size w' b codes nums) ∨
    (makeE codes nums ≠ 0 ∧ e = .returned (.tuple #[.pointer none, .int .i64 (makeE codes nums)])))

theorem Tryd.info3y : (Tryd.prog.info? 3).map (fun i => (i.zero, i.size, i.bytes)) = some (some (.int .i64 0), 1, 8) := by kernel_rfl
theorem Tryd.underlying38y : Tryd.prog.underlying 38 = some (.slice 3) := by kernel_rfl
theorem ownsRow_base {w : World} {base base' n : Nat} {e : TypeId} {v : Value} {xs : List Value} (h : w.ownsRow base e 1 v n xs) (hb : base' ≤ base) : w.ownsRow base' e 1 v n xs := by
  refine ⟨h.1, ?_⟩
  rcases h.2 with h | ⟨g, cap, cur, e, hg, r⟩
  · exact .inl h
  · exact .inr ⟨g, cap, cur, e, by omega, r⟩
theorem first_v {e t : TypeId} {w w1 : World} {n : Nat} {v1 : Value} {xs : List Value} (h : AppendedV e (w.alloc (.cells #[] t (0, 0))) w1 w.heap.size (.slice (some ⟨w.heap.size, 0, none⟩) 0 0) v1 (0 + n) ([] ++ xs)) :
    w1.ownsRow w.heap.size e 1 v1 n xs ∧ Below w.heap.size w w1 := by
  have hrow1 := h.1
  rw [Nat.zero_add, List.nil_append] at hrow1
  exact ⟨hrow1, ((Below.refl _ w).alloc (Nat.le_refl _) _).grown h.2.1 (by simp) (fun k e => by simp [Value.ownBlock] at e; omega)⟩

set_option maxRecDepth 100000 in
set_option maxHeartbeats 4000000 in
theorem tmake_any {w : World} {a a' : Option Addr} {len cap len' cap' : Nat} {codes : List ByteArray} {nums : List Int} (hC : RowV w.heap.size w a len cap (strV codes)) (hN : RowV w.heap.size w a' len' cap' (intV nums)) (hsz : ∀ s ∈ codes, s.size ≤ 9223372036854775807) :
    Calls Tryd.prog 29 #[.slice a len cap, .slice a' len' cap'] w fun e w' => Made3 w w' e codes nums := by
  have e1 : codes.length = len := by have := hC.1; simpa using this
  have e2 : nums.length = len' := by have := hN.1; simpa using this
  subst e1
  subst e2
  have hc1 := hC.2.1
  have hc2 := hC.2.2.1
  have hd1 := hN.2.1
  have hd2 := hN.2.2.1
  have HC := Lib.hid hC
  have HN := Lib.hid hN
  have HSz : Hid (∀ j, j < codes.length → (codes[j]?.getD ⟨#[]⟩).size ≤ 9223372036854775807) := fun j hj => by
    have := hsz codes[j] (List.getElem_mem _)
    simpa [hj] using this
  clear hC hN hsz
  by_cases hbad : codes.length ≠ nums.length ∨ codes.length = 0 ∨ 300 < codes.length
  · have HM : Hid (makeE codes nums = 2) := by show makeE codes nums = 2; unfold makeE; rw [if_pos hbad]
    have fin : Hid (∀ e, e = Ending.returned (.tuple #[.pointer none, .int .i64 2]) → Made3 w w e codes nums) := fun e he => ⟨Below.refl _ _, .inr ⟨by rw [HM.out]; decide, by rw [HM.out]; exact he⟩⟩
    by_cases h1 : codes.length = nums.length
    · by_cases h2 : codes.length = 0
      · have t1 : ((codes.length : Int) != (nums.length : Int)) = false := by rw [bne_eq_false_iff_eq]; omega
        have t2 : ((codes.length : Int) == 0) = true := by rw [beq_iff_eq]; omega
        clear hbad h1 h2
        go_enter Tryd.func29, Tryd.ntmps29
        go_wp2
        go_ret2
        exact fin.out _ rfl
      · have t1 : ((codes.length : Int) != (nums.length : Int)) = false := by rw [bne_eq_false_iff_eq]; omega
        have t2 : ((codes.length : Int) == 0) = false := by rw [beq_eq_false_iff_ne]; omega
        have t3 : decide (300 < (codes.length : Int)) = true := decide_eq_true (by omega)
        clear hbad h1 h2
        go_enter Tryd.func29, Tryd.ntmps29
        go_wp2
        go_ret2
        exact fin.out _ rfl
    · have t1 : ((codes.length : Int) != (nums.length : Int)) = true := by rw [bne_iff_ne]; omega
      clear hbad h1
      go_enter Tryd.func29, Tryd.ntmps29
      go_wp2
      go_ret2
      exact fin.out _ rfl
  have HM : Hid (makeE codes nums = if codes.all codeB then (if clash codes then 14 else 0) else 2) := by show makeE codes nums = _; unfold makeE; rw [if_neg hbad]
  have hle : codes.length = nums.length := by omega
  have h300 : codes.length ≤ 300 := by omega
  have h0 : 0 < codes.length := by omega
  obtain ⟨bc, oc, rfl, hbc, hcc⟩ := HC.out.cells h0
  have HCc : Hid (∀ w', Below w.heap.size w w' → ∀ j, j < codes.length → w'.cell? ⟨bc, oc + j, none⟩ = some (.string (codes[j]?.getD ⟨#[]⟩))) := fun w' hb j hj => (hb.cell (p := ⟨bc, oc + j, none⟩) hbc).trans (hcc j _ (by simp [hj]))
  clear hbad hcc
  have t1 : ((codes.length : Int) != (nums.length : Int)) = false := by rw [bne_eq_false_iff_eq]; omega
  have t2 : ((codes.length : Int) == 0) = false := by rw [beq_eq_false_iff_ne]; omega
  have t3 : decide (300 < (codes.length : Int)) = false := decide_eq_false (by omega)
  have HLe := Lib.hid hle
  clear hle
  go_enter Tryd.func29, Tryd.ntmps29
  go_wp2_with fail
  clear t1 t2 t3
  go_loop [6] (fun i => ∃ k : Nat, i = .int .i64 k ∧ k ≤ codes.length ∧ ∀ j, j < k → codeB (codes[j]?.getD ⟨#[]⟩) = true) (fun i => codes.length - (intOf i).toNat)
  case atStart => exact ⟨0, rfl, by omega, fun j hj => by omega⟩
  case round =>
    obtain ⟨k, rfl, hk, hall⟩ := hrel
    have HAll := Lib.hid hall
    clear hall
    by_cases hk2 : k < codes.length
    · have x1 := HCc.out w (Below.refl _ _) k hk2
      have HCo := Lib.hid (tcode_any (codes[k]?.getD ⟨#[]⟩) w (HSz.out k hk2))
      by_cases hcb : codeB (codes[k]?.getD ⟨#[]⟩) = true
      · rw [hcb] at HCo
        have HCb := Lib.hid hcb
        generalize hcd : codes[k]?.getD ⟨#[]⟩ = t at *
        have HCd := Lib.hid hcd
        clear hcb hcd
        go_wp2_with fail
        refine HCo.out.mono ?_
        rintro e w' ⟨rfl, rfl⟩
        go_wp2
        go_round
        case rel => exact ⟨k + 1, by go_num, by omega, fun j hj => by
          by_cases e : j = k
          · subst e; rw [HCd.out]; exact HCb.out
          · exact HAll.out j (by omega)⟩
        case measure => simp [intOf]; omega
      · have hcb' : codeB (codes[k]?.getD ⟨#[]⟩) = false := by simpa using hcb
        rw [hcb'] at HCo
        have HM2 : Hid (makeE codes nums = 2) := by show makeE codes nums = 2; rw [HM.out, not_all hk2 hcb']; rfl
        generalize codes[k]?.getD ⟨#[]⟩ = t at *
        clear hcb hcb'
        go_wp2_with fail
        refine HCo.out.mono ?_
        rintro e w' ⟨rfl, rfl⟩
        go_wp2
        go_ret2
        exact ⟨Below.refl _ _, .inr ⟨by rw [HM2.out]; decide, by rw [HM2.out]; rfl⟩⟩
    · have hkn : k = codes.length := by omega
      subst k
      have hM3 : makeE codes nums = if clash codes then 14 else 0 := by rw [HM.out, all_codes HAll.out]; rfl
      have HM3 := Lib.hid hM3
      clear HM HAll hM3
      go_wp2_with fail
      go_loopw [7, 8] (fun i _ wr => ∃ k : Nat, i = .int .i64 k ∧ k ≤ codes.length ∧ (∀ j, j < k → ∀ l, l < codes.length → clashAt codes j l = false) ∧ Below w.heap.size w wr) (fun i _ _ => codes.length - (intOf i).toNat)
      case atStart => exact ⟨0, rfl, by omega, fun j hj => by omega, Below.refl _ _⟩
      case round =>
        obtain ⟨i, rfl, hi, hno, hB⟩ := hrel
        have HNo := Lib.hid hno
        have HB := Lib.hid hB
        clear hno hB
        by_cases hi2 : i < codes.length
        · have hd0 : decide ((i : Int) < (codes.length : Int)) = true := decide_eq_true (by omega)
          go_wp2_with fail
          clear hd0
          go_loopw [8] (fun l wr => ∃ k : Nat, l = .int .i64 k ∧ k ≤ codes.length ∧ (∀ j, j < k → clashAt codes i j = false) ∧ Below w.heap.size w wr) (fun l _ => codes.length - (intOf l).toNat)
          case atStart => exact ⟨0, rfl, by omega, fun j hj => by omega, HB.out⟩
          case round =>
            obtain ⟨k, rfl, hk, hno2, hB2⟩ := hrel
            have HNo2 := Lib.hid hno2
            have HB2 := Lib.hid hB2
            clear hno2 hB2
            by_cases hk2 : k < codes.length
            · by_cases hik : i = k
              · have t1 : ((i : Int) != (k : Int)) = false := by rw [bne_eq_false_iff_eq]; omega
                have HCl : Hid (clashAt codes i k = false) := by show clashAt codes i k = false; unfold clashAt; rw [decide_eq_false (by omega), Bool.false_and]
                clear hik
                go_wp2_with fail
                go_quiet (fail)
                clear t1
                go_wp2
                go_roundw
                case rel => exact ⟨k + 1, by go_num, by omega, fun j hj => by
                  by_cases e : j = k
                  · rw [e]; exact HCl.out
                  · exact HNo2.out j (by omega), HB2.out.trans (below_drewN _ _ _)⟩
                case measure => simp [intOf]; omega
              · have t1 : ((i : Int) != (k : Int)) = true := by rw [bne_iff_ne]; omega
                have x1 := HCc.out _ HB2.out i hi2
                have x2 := HCc.out _ HB2.out k hk2
                have q1 : (i : Int) < (codes.length : Int) := by omega
                have q2 : (k : Int) < (codes.length : Int) := by omega
                have q3 : (0 : Int) ≤ (i : Int) := by omega
                have q4 : (0 : Int) ≤ (k : Int) := by omega
                have hcl : clashAt codes i k = begins (codes[i]?.getD ⟨#[]⟩) (codes[k]?.getD ⟨#[]⟩) := by unfold clashAt; rw [decide_eq_true hik, Bool.true_and]
                have HBg := fun w' => Lib.hid (tbegins_any (codes[i]?.getD ⟨#[]⟩) (codes[k]?.getD ⟨#[]⟩) w')
                rw [← hcl] at HBg
                generalize codes[i]?.getD ⟨#[]⟩ = s1 at *
                generalize codes[k]?.getD ⟨#[]⟩ = s2 at *
                by_cases hc : clashAt codes i k = true
                · have HM4 : Hid (makeE codes nums = 14) := by show makeE codes nums = 14; rw [HM3.out, clash_true hi2 hk2 hc]; rfl
                  rw [hc] at HBg
                  clear hc hcl hik
                  go_wp2_with fail
                  go_region_held3 (fun w' => w'.cell? ⟨bc, oc + i, none⟩ = some (.string s1) ∧ w'.cell? ⟨bc, oc + k, none⟩ = some (.string s2)) (first | go_keep)
                    (first | (go_at_call 39; refine (HBg _).out.mono ?_; rintro e w5 ⟨rfl, rfl⟩))
                  go_wp2
                  go_ret2
                  exact ⟨below_undrew2' HB2.out, .inr ⟨by rw [HM4.out]; decide, by rw [HM4.out]; rfl⟩⟩
                · have hc' : clashAt codes i k = false := by simpa using hc
                  rw [hc'] at HBg
                  have HCl := Lib.hid hc'
                  clear hc hc' hcl hik
                  go_wp2_with fail
                  go_region_held3 (fun w' => w'.cell? ⟨bc, oc + i, none⟩ = some (.string s1) ∧ w'.cell? ⟨bc, oc + k, none⟩ = some (.string s2)) (first | go_keep)
                    (first | (go_at_call 39; refine (HBg _).out.mono ?_; rintro e w5 ⟨rfl, rfl⟩))
                  clear t1 q1 q2 q3 q4
                  go_wp2
                  go_roundw
                  case rel => exact ⟨k + 1, by go_num, by omega, fun j hj => by
                    by_cases e : j = k
                    · rw [e]; exact HCl.out
                    · exact HNo2.out j (by omega), below_undrew2' HB2.out⟩
                  case measure => simp [intOf]; omega
            · have hkn : k = codes.length := by omega
              subst k
              go_wp2
              go_roundw
              case rel => exact ⟨i + 1, by go_num, by omega, fun j hj l hl => by
                by_cases e : j = i
                · rw [e]; exact HNo2.out l hl
                · exact HNo.out j (by omega) l hl, HB2.out⟩
              case measure => simp [intOf]; omega
        · have hin : i = codes.length := by omega
          subst i
          have HM4 : Hid (makeE codes nums = 0) := by show makeE codes nums = 0; rw [HM3.out, clash_false HNo.out]; rfl
          have HCs := Lib.hid (HC.out.below HB.out).src
          have HNs : Hid (∀ w', Below wr.heap.size wr w' → Src w' a' nums.length (intV nums)) := fun w' hb => (HN.out.below (below_chain HB.out (Nat.le_refl _) hb)).src
          have HNc := Lib.hid HN.out.nocap
          have hs := HB.out.size
          have hn300 : nums.length ≤ 300 := by have := HLe.out; omega
          obtain ⟨i1, hi1, hz10, hz11, hz12⟩ := info_parts Tryd.info9
          obtain ⟨i2, hi2', hz20, hz21, hz22⟩ := info_parts Tryd.info3y
          go_wp2_with (at_builtin; first
            | (refine wpList_append_v rfl (.tmp 62) (.tmp 63) 54 9 i1 (.string ⟨#[]⟩) 16 rfl Tryd.underlying54x hi1 hz10 hz11 hz12 rfl wr.heap.size (.slice (some ⟨wr.heap.size, 0, none⟩) 0 0) 0 [] rfl (own_empty _ _) (some ⟨bc, oc, none⟩) codes.length cap (strV codes) rfl (HCs.out.alloc _) (fun e => nomatch e) strV_one (by omega) (by omega) (by simp) ?_; intro v1 w1 hap1; have HA1 := Lib.hid (first_v hap1); obtain ⟨av1, cv1, rfl⟩ := row_form (first_v hap1).1; clear hap1)
            | (refine wpList_append_v rfl (.tmp 65) (.tmp 66) 38 3 i2 (.int .i64 0) 8 rfl Tryd.underlying38y hi2' hz20 hz21 hz22 rfl w1.heap.size (.slice (some ⟨w1.heap.size, 0, none⟩) 0 0) 0 [] rfl (own_empty _ _) a' nums.length cap' (intV nums) rfl ((HNs.out _ HA1.out.2).alloc _) HNc.out intV_one (by omega) (by omega) (by simp) ?_; intro v2 w2 hap2; have HA2 := Lib.hid (first_v hap2); obtain ⟨av2, cv2, rfl⟩ := row_form (first_v hap2).1; clear hap2))
          go_ret2
          have hb2 : Below w.heap.size w w2 := below_chain (below_chain HB.out (Nat.le_refl _) HA1.out.2) (Nat.le_refl _) HA2.out.2
          have hs1 := HA1.out.2.size
          have hr1 := ownsRow_bar HA1.out.1 (bar_of_below (S := fun _ => False) HA2.out.2) (fun _ _ e => e)
          have hb3 : Below w2.heap.size w2 (w2.alloc (tCells (.slice av1 codes.length cv1) (.slice av2 nums.length cv2))) := (Below.refl _ _).alloc (Nat.le_refl _) _
          refine ⟨below_chain hb2 (Nat.le_refl _) hb3, .inl ⟨HM4.out, w2.heap.size, rfl, _, _, hb2.size, World.alloc_heap_new _ _, ?_, ?_, HLe.out.symm, h300⟩⟩
          · exact ownsRow_base (ownsRow_bar hr1 (bar_of_below (S := fun _ => False) hb3) (fun _ _ e => e)) hs
          · exact ownsRow_base (ownsRow_bar HA2.out.1 (bar_of_below (S := fun _ => False) hb3) (fun _ _ e => e)) (by omega)

end Go.Proofs.YtmampneedmodeaaDoor
