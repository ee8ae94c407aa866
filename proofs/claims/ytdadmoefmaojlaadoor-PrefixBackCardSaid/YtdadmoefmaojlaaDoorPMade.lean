/- Over a tree's contracts: the contract of the laws' made. -/
import Derived.Test.YtdadmoefmaojlaaDoorPMade0
namespace Go.Proofs.YtdadmoefmaojlaaDoor
open Go.RowKit Go.Shelf
set_option linter.unusedVariables false

theorem codeB_no_size {s : ByteArray} (h : ¬ (1 ≤ s.size ∧ s.size ≤ 24)) : codeB s = false := by
  unfold codeB
  by_cases h1 : 1 ≤ s.size
  · rw [decide_eq_false (show ¬ s.size ≤ 24 by omega), Bool.and_false]
  · rw [decide_eq_false h1, Bool.and_false, Bool.false_and]
theorem codeB_no_bit {s : ByteArray} {t : Nat} (ht : t < s.size) (h : ¬ (s[t] = 48 ∨ s[t] = 49)) : codeB s = false := by
  unfold codeB
  rw [show allB s = false by rw [Bool.eq_false_iff]; exact fun e => h ((allB_iff s).1 e t ht)]
  rfl
theorem codeB_yes {s : ByteArray} (h1 : 1 ≤ s.size) (h2 : s.size ≤ 24) (h : ∀ t (ht : t < s.size), s[t] = 48 ∨ s[t] = 49) : codeB s = true := by
  unfold codeB
  rw [(allB_iff s).2 h, decide_eq_true h1, decide_eq_true h2]
  rfl
theorem codeB_size {s : ByteArray} (h : codeB s = true) : s.size ≤ 24 := by
  unfold codeB at h
  rw [Bool.and_eq_true] at h
  exact of_decide_eq_true h.2
theorem fits_no_code {K : List ByteArray} {s : ByteArray} (h : codeB s = false) : fitsB K s = false := by unfold fitsB; rw [h, Bool.false_and]
theorem fits_no_clash {K : List ByteArray} {s : ByteArray} {t : Nat} (ht : t < K.length) (h : clashS (K[t]?.getD ⟨#[]⟩) s = true) : fitsB K s = false := by
  unfold fitsB
  rw [show K.all (fun k => !clashS k s) = false by
    rw [List.all_eq_false]
    exact ⟨K[t], List.getElem_mem _, by simpa [ht] using h⟩, Bool.and_false]
theorem fits_yes {K : List ByteArray} {s : ByteArray} (hc : codeB s = true) (h : ∀ t, t < K.length → clashS (K[t]?.getD ⟨#[]⟩) s = false) : fitsB K s = true := by
  unfold fitsB
  rw [hc, Bool.true_and, List.all_eq_true]
  intro k hk
  obtain ⟨j, hj, rfl⟩ := List.getElem_of_mem hk
  simpa [hj] using h j hj
theorem keep_yes {K : List ByteArray} {s : ByteArray} (h : K.length < 40) (hf : fitsB K s = true) : keepStep K s = K ++ [s] := by unfold keepStep; rw [if_pos ⟨h, hf⟩]
theorem keep_no {K : List ByteArray} {s : ByteArray} (hf : fitsB K s = false) : keepStep K s = K := by unfold keepStep; rw [if_neg (by simp [hf])]
theorem bit_tests (z : UInt8) : (z = 48 ∧ ((z.toNat : Int) == 48) = true) ∨ (z = 49 ∧ ((z.toNat : Int) == 48) = false ∧ ((z.toNat : Int) == 49) = true) ∨ (¬ (z = 48 ∨ z = 49) ∧ ((z.toNat : Int) == 48) = false ∧ ((z.toNat : Int) == 49) = false) := by
  by_cases h1 : z = 48
  · left; subst h1; exact ⟨rfl, rfl⟩
  · have h1' : ((z.toNat : Int) == 48) = false := by
      rw [beq_eq_false_iff_ne]; intro e; apply h1; apply UInt8.toNat_inj.1; show z.toNat = 48; omega
    by_cases h2 : z = 49
    · right; left; subst h2; exact ⟨rfl, rfl, rfl⟩
    · right; right
      refine ⟨fun h => h.elim h1 h2, h1', ?_⟩
      rw [beq_eq_false_iff_ne]; intro e; apply h2; apply UInt8.toNat_inj.1; show z.toNat = 49; omega

theorem src_one (w : World) (t : TypeId) (s : ByteArray) : Src (w.alloc (.cells #[.string s] t (0, 0))) (some ⟨w.heap.size, 0, none⟩) 1 (strV [s]) :=
  ⟨rfl, .inr ⟨_, rfl, cell_one_new w _ t⟩⟩
theorem kept_below {e t : TypeId} {w wo w3 w5 : World} {v v5 : Value} {n m : Nat} {xs ys : List Value} {o : Obj} (hB : Below w.heap.size w wo) (hB3 : Below wo.heap.size wo w3) (hr : w3.ownsRow w.heap.size e 1 v n xs) (h : AppendedV t (w3.alloc o) w5 w.heap.size v v5 m ys) : Below w.heap.size w w5 := by
  have h3 := below_chain hB (Nat.le_refl _) hB3
  have hs := h3.size
  exact (h3.alloc hs o).grown h.2.1 (by simp; omega) (fun k e => (hr.lt k e).1)
theorem src_int (w : World) (t : TypeId) (x : Int) : Src (w.alloc (.cells #[.int .i64 x] t (0, 0))) (some ⟨w.heap.size, 0, none⟩) 1 (intV [x]) :=
  ⟨rfl, .inr ⟨_, rfl, cell_one_new w _ t⟩⟩
theorem idx_succ (t : Nat) : intV (idx (t + 1)) = intV (idx t) ++ intV [(t : Int)] := by simp [idx, List.range_succ]
theorem kept_below2 {e t : TypeId} {wo w4 w5 : World} {v v5 : Value} {n m : Nat} {xs ys : List Value} {o : Obj} (hB : Below wo.heap.size wo w4) (hr : w4.ownsRow wo.heap.size e 1 v n xs) (h : AppendedV t (w4.alloc o) w5 wo.heap.size v v5 m ys) : Below wo.heap.size wo w5 := by
  have hs := hB.size
  exact (hB.alloc hs o).grown h.2.1 (by simp; omega) (fun k e => (hr.lt k e).1)
/-- what the laws' made leaves -/
def Made4 (I : TreeI) (w w' : World) (e : Ending) (K : List ByteArray) : Prop :=
  ∃ vk pv, e = .returned (.tuple #[pv, vk]) ∧ w'.ownsRow w.heap.size 9 1 vk K.length (strV K) ∧ Below w.heap.size w w' ∧
    ((K = [] ∧ pv = .pointer none) ∨ (K ≠ [] ∧ ∃ n₀ m₁ b, pv = .pointer (some ⟨b, 0, none⟩) ∧ I.IsP n₀ m₁ w' b K (idx K.length) ∧ w.heap.size ≤ n₀ ∧ m₁ ≤ w'.heap.size))

set_option maxRecDepth 100000 in
set_option maxHeartbeats 16000000 in
theorem made3_any (I : TreeI) {w : World} {a : Option Addr} {len cap : Nat} {cs : List ByteArray} (hC : RowV w.heap.size w a len cap (strV cs)) (hsz : ∀ s ∈ cs, s.size ≤ 9223372036854775807) (hl60 : cs.length ≤ 60) :
    Calls Tryd.prog 24 #[.slice a len cap] w fun e w' => Made4 I w w' e (keptAll cs) := by
  have e1 : cs.length = len := by have := hC.1; simpa using this
  subst e1
  have HC := Lib.hid hC
  have HSz : Hid (∀ j, j < cs.length → (cs[j]?.getD ⟨#[]⟩).size ≤ 9223372036854775807) := fun j hj => by
    have := hsz cs[j] (List.getElem_mem _)
    simpa [hj] using this
  obtain ⟨i1, hi1, hz10, hz11, hz12⟩ := info_parts Tryd.info9
  obtain ⟨i2, hi2', hz20, hz21, hz22⟩ := info_parts Tryd.info3y
  clear hC hsz
  go_enter Tryd.func24, Tryd.ntmps24
  go_wp2_with fail
  go_loopw [4, 5, 6, 7, 8, 9] (fun v i _ _ _ _ wr => ∃ k : Nat, i = .int .i64 k ∧ k ≤ cs.length ∧ wr.ownsRow w.heap.size 9 1 v (keptAt cs k).length (strV (keptAt cs k)) ∧ Below w.heap.size w wr) (fun _ i _ _ _ _ _ => cs.length - (intOf i).toNat)
  case atStart => exact ⟨0, rfl, by omega, World.ownsRow_nil _ _ _ _, Below.refl _ _⟩
  case round =>
    obtain ⟨k, rfl, hk, hrow, hB⟩ := hrel
    obtain ⟨av, cv, rfl⟩ := row_form hrow
    have hK40 := keptAt_len cs k
    have HRow := Lib.hid hrow
    have HB := Lib.hid hB
    clear hrow hB
    by_cases hin : k < cs.length ∧ (keptAt cs k).length < 40
    · obtain ⟨hk2, hKlt⟩ := hin
      obtain ⟨bc, oc, rfl, hbc, hcc⟩ := HC.out.cells (by omega)
      have x1 := (HB.out.cell (p := ⟨bc, oc + k, none⟩) hbc).trans (hcc k _ (show (strV cs)[k]? = some (.string (cs[k]?.getD ⟨#[]⟩)) by simp [hk2]))
      have hss := HSz.out k hk2
      have HX := Lib.hid x1
      have HSucc := Lib.hid (keptAt_succ hk2)
      have hbcr : bc < wr.heap.size := Nat.lt_of_lt_of_le hbc HB.out.size
      have HG : Hid (∀ t, t < (keptAt cs k).length → ((keptAt cs k)[t]?.getD ⟨#[]⟩).size ≤ 24) := fun t ht => by
        have := codeB_size ((good_all cs k).code (keptAt cs k)[t] (List.getElem_mem _))
        simpa [ht] using this
      generalize hKe : keptAt cs k = K at *
      generalize hse : cs[k]?.getD ⟨#[]⟩ = s at *
      have hz : (decide (1 ≤ (s.size : Int)) = true ∧ decide ((s.size : Int) ≤ 24) = true ∧ 1 ≤ s.size ∧ s.size ≤ 24) ∨ (decide (1 ≤ (s.size : Int)) = true ∧ decide ((s.size : Int) ≤ 24) = false ∧ codeB s = false) ∨ (decide (1 ≤ (s.size : Int)) = false ∧ codeB s = false) := by
        by_cases h1 : 1 ≤ s.size
        · by_cases h2 : s.size ≤ 24
          · exact .inl ⟨decide_eq_true (by omega), decide_eq_true (by omega), h1, h2⟩
          · exact .inr (.inl ⟨decide_eq_true (by omega), decide_eq_false (by omega), codeB_no_size (by omega)⟩)
        · exact .inr (.inr ⟨decide_eq_false (by omega), codeB_no_size (by omega)⟩)
      have q1 : decide ((k : Int) < (cs.length : Int)) = true := decide_eq_true (by omega)
      have q2 : decide ((K.length : Int) < 40) = true := decide_eq_true (by omega)
      clear hcc hKe hse HC HSz
      obtain ⟨wo, hwo⟩ : ∃ wo : World, wo = wr := ⟨_, rfl⟩
      subst hwo
      rcases hz with ⟨z1, z2, z3, z4⟩ | ⟨z1, z2, z3⟩ | ⟨z1, z3⟩
      all_goals
        go_wp2_with fail
        clear z1
        go_loop [6, 7] (fun f j => ∃ t : Nat, j = .int .i64 t ∧ t ≤ s.size ∧ ((f = .bool true ∧ 1 ≤ s.size ∧ s.size ≤ 24 ∧ ∀ p (hp : p < s.size), p < t → s[p] = 48 ∨ s[p] = 49) ∨ (f = .bool false ∧ codeB s = false))) (fun _ j => s.size - (intOf j).toNat)
        case atStart => first | exact ⟨0, rfl, by omega, .inl ⟨rfl, z3, z4, fun p hp h => by omega⟩⟩ | exact ⟨0, rfl, by omega, .inr ⟨rfl, z3⟩⟩
        case round =>
          obtain ⟨t, rfl, ht, hf⟩ := hrel
          rcases hf with ⟨rfl, y1, y2, hbits⟩ | ⟨rfl, hno⟩
          · have HBits := Lib.hid hbits
            clear hbits
            by_cases htl : t < s.size
            · rcases bit_tests s[t] with ⟨hb, u1⟩ | ⟨hb, u1, u2⟩ | ⟨hb, u1, u2⟩
              · have Hb := Lib.hid hb
                clear hb
                go_wp2
                go_round
                case rel => exact ⟨t + 1, by go_num, by omega, .inl ⟨rfl, y1, y2, fun p hp h => by
                  by_cases e : p = t
                  · subst e; exact .inl Hb.out
                  · exact HBits.out p hp (by omega)⟩⟩
                case measure => simp [intOf]; omega
              · have Hb := Lib.hid hb
                clear hb
                go_wp2
                go_round
                case rel => exact ⟨t + 1, by go_num, by omega, .inl ⟨rfl, y1, y2, fun p hp h => by
                  by_cases e : p = t
                  · subst e; exact .inr Hb.out
                  · exact HBits.out p hp (by omega)⟩⟩
                case measure => simp [intOf]; omega
              · have Hno := Lib.hid (codeB_no_bit htl hb)
                clear hb
                go_wp2
                go_round
                case rel => exact ⟨t + 1, by go_num, by omega, .inr ⟨rfl, Hno.out⟩⟩
                case measure => simp [intOf]; omega
            · have htn : t = s.size := by omega
              subst t
              have HCode := Lib.hid (codeB_yes y1 y2 (fun p hp => HBits.out p hp hp))
              clear HBits htl
              go_wp2_with fail
              go_loopw [6, 8, 9] (fun f j _ w3 => ∃ t : Nat, j = .int .i64 t ∧ t ≤ K.length ∧ Below wo.heap.size wo w3 ∧ ((f = .bool true ∧ ∀ p, p < t → clashS (K[p]?.getD ⟨#[]⟩) s = false) ∨ (f = .bool false ∧ fitsB K s = false))) (fun _ j _ _ => K.length - (intOf j).toNat)
              case atStart => exact ⟨0, rfl, by omega, Below.refl _ _, .inl ⟨rfl, fun p hp => by omega⟩⟩
              case round =>
                obtain ⟨t, rfl, ht3, hB3, hf⟩ := hrel
                have HB3 := Lib.hid hB3
                have HRow3 := Lib.hid (ownsRow_bar HRow.out (bar_of_below (S := fun _ => False) hB3) (fun _ _ e => e))
                have x3 := (hB3.cell (p := ⟨bc, oc + k, none⟩) hbcr).trans HX.out
                clear hB3
                rcases hf with ⟨rfl, hcl⟩ | ⟨rfl, hno⟩
                · have HCl := Lib.hid hcl
                  clear hcl
                  by_cases htl : t < K.length
                  · obtain ⟨g1, cp1, e1, hg1, _, hce⟩ := row_cells HRow3.out htl
                    cases e1
                    have x4 := hce t _ htl (show (strV K)[t]? = some (.string (K[t]?.getD ⟨#[]⟩)) by simp [htl])
                    have hk24 := HG.out t htl
                    clear hce
                    obtain ⟨kt, hkt⟩ : ∃ kt, kt = K[t]?.getD ⟨#[]⟩ := ⟨_, rfl⟩
                    rw [← hkt] at x4 hk24
                    have HKt := Lib.hid hkt
                    clear hkt
                    obtain ⟨n, hn⟩ : ∃ n, n = min kt.size s.size := ⟨_, rfl⟩
                    have hcm := clash_min kt s n hn
                    have m1 : (if s.size < kt.size then (s.size : Int) else (kt.size : Int)) = (n : Int) := by split <;> omega
                    have m2 : (if kt.size < s.size then (kt.size : Int) else (s.size : Int)) = (n : Int) := by split <;> omega
                    have r1 : (n : Int) ≤ (kt.size : Int) := by omega
                    have r2 : (n : Int) ≤ (s.size : Int) := by omega
                    have r3 : (t : Int) < (K.length : Int) := by omega
                    have r4 : (0 : Int) ≤ (t : Int) := by omega
                    have r5 : (k : Int) < (cs.length : Int) := by omega
                    have r6 : (0 : Int) ≤ (k : Int) := by omega
                    have r7 : (0 : Int) ≤ (n : Int) := by omega
                    clear hn
                    by_cases hc : clashS kt s = true
                    · rw [hc] at hcm
                      have HFits : Hid (fitsB K s = false) := fits_no_clash htl (by rw [← HKt.out]; exact hc)
                      clear hc
                      go_wp2_with fail
                      go_region_held3 (fun w' => w'.cell? ⟨g1, t, none⟩ = some (.string kt) ∧ w'.cell? ⟨bc, oc + k, none⟩ = some (.string s)) (first | go_keep) (fail)
                      clear m1 m2
                      go_wp2_with fail
                      go_region_held3 (fun w' => w'.cell? ⟨g1, t, none⟩ = some (.string kt) ∧ w'.cell? ⟨bc, oc + k, none⟩ = some (.string s)) (first | go_keep) (fail)
                      clear hcm r1 r2 r3 r4 r5 r6 r7
                      go_wp2
                      go_roundw
                      case rel => exact ⟨t + 1, by go_num, by omega, below_undrew2' (below_undrew2' HB3.out), .inr ⟨rfl, HFits.out⟩⟩
                      case measure => simp [intOf]; omega
                    · have hc' : clashS kt s = false := by simpa using hc
                      rw [hc'] at hcm
                      have HCk := Lib.hid hc'
                      clear hc hc'
                      go_wp2_with fail
                      go_region_held3 (fun w' => w'.cell? ⟨g1, t, none⟩ = some (.string kt) ∧ w'.cell? ⟨bc, oc + k, none⟩ = some (.string s)) (first | go_keep) (fail)
                      clear m1 m2
                      go_wp2_with fail
                      go_region_held3 (fun w' => w'.cell? ⟨g1, t, none⟩ = some (.string kt) ∧ w'.cell? ⟨bc, oc + k, none⟩ = some (.string s)) (first | go_keep) (fail)
                      clear hcm r1 r2 r3 r4 r5 r6 r7
                      go_wp2
                      go_roundw
                      case rel => exact ⟨t + 1, by go_num, by omega, below_undrew2' (below_undrew2' HB3.out), .inl ⟨rfl, fun p hp => by
                        by_cases e : p = t
                        · rw [e, ← HKt.out]; exact HCk.out
                        · exact HCl.out p (by omega)⟩⟩
                      case measure => simp [intOf]; omega
                  · have htn : t = K.length := by omega
                    subst t
                    have HFits := Lib.hid (fits_yes HCode.out HCl.out)
                    clear HCl htl
                    have hs3 := HB3.out.size
                    have hsw := HB.out.size
                    go_wp2_with (at_builtin; refine wpList_append_v rfl (.tmp 101) (.tmp 106) 22 9 i1 (.string ⟨#[]⟩) 16 rfl Tryd.underlying22x hi1 hz10 hz11 hz12 rfl w.heap.size (.slice av K.length cv) K.length (strV K) rfl (HRow3.out.alloc _) (some ⟨wr.heap.size, 0, none⟩) 1 1 (strV [s]) rfl (src_one _ _ _) (fun e => nomatch e) strV_one (by omega) (by omega) (by simp; omega) ?_; intro v5 w5 hap5; have HA5 := Lib.hid hap5; clear hap5)
                    go_roundw
                    case rel => exact ⟨k + 1, by go_num, by omega, by rw [HSucc.out, keep_yes hKlt HFits.out]; simpa using HA5.out.1, kept_below HB.out HB3.out HRow3.out HA5.out⟩
                    case measure => simp [intOf]; omega
                · have HFits := Lib.hid hno
                  clear hno
                  go_wp2
                  go_roundw
                  case rel => exact ⟨k + 1, by go_num, by omega, by rw [HSucc.out, keep_no HFits.out]; exact HRow3.out, below_chain HB.out (Nat.le_refl _) HB3.out⟩
                  case measure => simp [intOf]; omega
          · have HFits := Lib.hid (fits_no_code (K := K) hno)
            clear hno
            go_wp2_with fail
            go_loop [6, 8, 9] (fun f j _ => f = .bool false ∧ j = .int .i64 0) (fun _ _ _ => 0)
            case atStart => exact ⟨rfl, rfl⟩
            case round =>
              obtain ⟨rfl, rfl⟩ := hrel
              go_wp2
              go_roundw
              case rel => exact ⟨k + 1, by go_num, by omega, by rw [HSucc.out, keep_no HFits.out]; exact HRow.out, HB.out⟩
              case measure => simp [intOf]; omega
    · have hKall : keptAll cs = keptAt cs k := by
        by_cases h40 : 40 ≤ (keptAt cs k).length
        · exact keptAt_full h40
        · have hkn : k = cs.length := by omega
          rw [hkn]; rfl
      have hGood := good_all cs k
      have hq : k = cs.length ∨ (k < cs.length ∧ decide (((keptAt cs k).length : Int) < 40) = false) := by
        by_cases h : k < cs.length
        · exact .inr ⟨h, decide_eq_false (by omega)⟩
        · exact .inl (by omega)
      have HKall := Lib.hid hKall
      have HGood := Lib.hid hGood
      clear hKall hGood hin
      generalize keptAt cs k = K at *
      have hsw := HB.out.size
      obtain ⟨wo, hwo⟩ : ∃ wo : World, wo = wr := ⟨_, rfl⟩
      subst hwo
      rcases hq with rfl | ⟨q1, q2⟩
      all_goals
        go_wp2_with fail
        go_loopw [10, 11] (fun v i w4 => ∃ t : Nat, i = .int .i64 t ∧ t ≤ K.length ∧ w4.ownsRow wo.heap.size 3 1 v t (intV (idx t)) ∧ Below wo.heap.size wo w4) (fun _ i _ => K.length - (intOf i).toNat)
        case atStart => exact ⟨0, rfl, by omega, World.ownsRow_nil _ _ _ _, Below.refl _ _⟩
        case round =>
          obtain ⟨t, rfl, ht, hr4, hB4⟩ := hrel
          obtain ⟨a4, c4, rfl⟩ := row_form hr4
          have HR4 := Lib.hid hr4
          have HB4 := Lib.hid hB4
          have hs4 := hB4.size
          clear hr4 hB4
          by_cases htl : t < K.length
          · go_wp2_with (at_builtin; refine wpList_append_v rfl (.tmp 114) (.tmp 116) 23 3 i2 (.int .i64 0) 8 rfl Tryd.underlying23y hi2' hz20 hz21 hz22 rfl wo.heap.size (.slice a4 t c4) t (intV (idx t)) rfl (HR4.out.alloc _) (some ⟨wr.heap.size, 0, none⟩) 1 1 (intV [(t : Int)]) rfl (src_int _ _ _) (fun e => nomatch e) intV_one (by omega) (by omega) (by simp; omega) ?_; intro v5 w5 hap5; have HA5 := Lib.hid hap5; clear hap5)
            go_roundw
            case rel => exact ⟨t + 1, by go_num, by omega, by rw [idx_succ]; exact HA5.out.1, kept_below2 HB4.out HR4.out HA5.out⟩
            case measure => simp [intOf]; omega
          · have htn : t = K.length := by omega
            subst t
            have hrk := ownsRow_bar HRow.out (bar_of_below (S := fun _ => False) HB4.out) (fun _ _ e => e)
            obtain ⟨a1, c1, e1, hv1⟩ := rowV_own hrk
            obtain ⟨a2, c2, e2, hv2⟩ := rowV_own HR4.out
            cases e1
            cases e2
            have HM := Lib.hid (I.make hv1 hv2 (fun s hs => by have := codeB_size (HGood.out.code s hs); omega) (idx_i64 (by omega)))
            have HRk := Lib.hid hrk
            clear hrk hv1 hv2
            have B4 := below_chain HB.out (Nat.le_refl _) HB4.out
            go_wp2_with fail
            refine HM.out.mono ?_
            rintro e w5 ⟨b5, hm⟩
            have HRk5 := Lib.hid (ownsRow_bar HRk.out (bar_of_below (S := fun _ => False) b5) (fun _ _ e => e))
            have B5 := below_chain B4 (Nat.le_refl _) b5
            have hs45 := B4.size
            by_cases h0 : K = []
            · have hE : makeE K (idx K.length) = 2 := by rw [h0]; exact make_none
              obtain ⟨_, rfl⟩ := hm.resolve_left (fun h => by rw [hE] at h; exact absurd h.1 (by decide))
              rw [hE]
              have H0 := Lib.hid h0
              clear hm hE h0
              go_wp2
              go_ret2
              rw [HKall.out]
              exact ⟨_, _, rfl, HRk5.out, B5, .inl ⟨H0.out, rfl⟩⟩
            · have hE := HGood.out.make h0 hK40
              obtain ⟨_, b, rfl, hp⟩ := hm.resolve_right (fun h => h.1 hE)
              have HP := Lib.hid hp
              clear hm hE hp
              go_wp2
              go_ret2
              rw [HKall.out]
              exact ⟨_, _, rfl, HRk5.out, B5, .inr ⟨h0, _, _, b, rfl, HP.out, hs45, Nat.le_refl _⟩⟩

end Go.Proofs.YtdadmoefmaojlaaDoor
