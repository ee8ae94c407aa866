/- The contract of the reference pen's Code at texts of bits. -/
import Derived.Test.YtglnmaekhpaffaaRef2
namespace Go.Proofs.Ytglnmaekhpaffaa
open Go.RowKit Go.Shelf
set_option linter.unusedVariables false

theorem cell_one_drew (w : World) (v : Value) (t : TypeId) : ∀ (j : Nat) (u : Value), [v][j]? = some u → (w.alloc (.cells #[v] t)).drew.cell? ((⟨w.heap.size, 0, none⟩ : Addr).add j) = some u := cell_one_new w v t
theorem grown_undrew {w w' : World} {row : Option Nat} (h : w.drew.grownBy w' row) : w.grownBy w' row := ⟨h.os, h.tape, h.output, h.size, h.block⟩

set_option maxRecDepth 100000 in
set_option maxHeartbeats 2000000 in
theorem refCode_good {w : World} {b : Nat} {g : Option Nat} {L : List Bool} (h : IsRef w b g L) (s : ByteArray) (hs : AllBits s) (hsz : s.size ≤ 9000000000000000000) :
    Calls Try.prog 14 #[.pointer (some ⟨b, 0, none⟩), .string s] w fun e w' => e = .returned (.int .i64 (codeE L s)) ∧ RefWrote w w' b g (codeL L s) := by
  obtain ⟨i0, hi, hz0, hz1, hz2⟩ := info_parts Try.info3
  have H := Lib.hid h
  obtain ⟨v, rfl, hb, hrow, hl24⟩ := h
  obtain ⟨cv, fv⟩ := ref_cell hb
  obtain ⟨av, capv, rfl⟩ : ∃ av capv, v = .slice av L.length capv := by
    rcases hrow.2 with ⟨rfl, e⟩ | ⟨g', cap, cur, rfl, _⟩
    · exact ⟨none, 0, by rw [e]⟩
    · exact ⟨_, cap, rfl⟩
  have HS := Lib.hid hs
  have hce : codeE L s = if 16777216 - (L.length : Int) < s.size then 4 else 0 := by unfold codeE; rw [if_pos ((allB_iff s).2 hs)]
  have HCE := Lib.hid hce
  have HCL : Hid (codeL L s = if codeE L s = 0 then L ++ textBits s else L) := rfl
  clear hb hrow hs hce
  go_enter Try.func14, Try.ntmps14
  go_wp2
  go_loop [5] (fun i => ∃ t : Nat, t ≤ s.size ∧ i = .int .i64 t) (fun i => s.size - (intOf i).toNat)
  case atStart => exact ⟨0, Nat.zero_le _, rfl⟩
  case round =>
    obtain ⟨t, ht, rfl⟩ := hrel
    by_cases hts : t < s.size
    · rcases HS.out t hts with h | h
      · have e1 : ((s[t].toNat : Int) != 48) = false := by rw [h]; rfl
        go_wp2
        go_round
        case rel => exact ⟨t + 1, by omega, by go_num⟩
        case measure => simp [intOf]; omega
      · have e1 : ((s[t].toNat : Int) != 48) = true := by rw [h]; rfl
        have e2 : ((s[t].toNat : Int) != 49) = false := by rw [h]; rfl
        go_wp2
        go_round
        case rel => exact ⟨t + 1, by omega, by go_num⟩
        case measure => simp [intOf]; omega
    · by_cases hl : 16777216 - (L.length : Int) < s.size
      · go_wp2
        go_ret
        rw [HCL.out, HCE.out, if_pos hl]
        exact ⟨rfl, RefWrote.refl H.out⟩
      · have t4 : decide ((16777216 : Int) < (L.length : Int) + s.size) = false := by simp; omega
        go_wp2_with fail
        go_loopw [6] (fun i wr => ∃ m : Nat, m ≤ s.size ∧ i = .int .i64 m ∧ RefWrote w wr b (Value.slice av L.length capv).ownBlock (L ++ (textBits s).take m)) (fun i _ => s.size - (intOf i).toNat)
        case atStart => exact ⟨0, Nat.zero_le _, rfl, by simpa using RefWrote.refl H.out⟩
        case round =>
          obtain ⟨m, hm, rfl, g', hp, hbar, hg'⟩ := hrel
          by_cases hms : m < s.size
          · obtain ⟨u, rfl, hub, hur, hul⟩ := hp
            obtain ⟨cu, fu⟩ := ref_cell hub
            have hr48 : 48 ≤ s[m].toNat ∧ s[m].toNat ≤ 49 := by rcases HS.out m hms with e | e <;> rw [e] <;> decide
            have hy : IntKind.i64.wrap (IntKind.u8.wrap ((s[m].toNat : Int) - 48)) = ((s[m] == 49).toNat : Int) := by rcases HS.out m hms with e | e <;> rw [e] <;> rfl
            have HT := Lib.hid (textBits_take s m hms)
            have HY := Lib.hid hy
            have HUB := Lib.hid hub
            have HUR := Lib.hid hur
            have HBar := Lib.hid hbar
            have HG := Lib.hid hg'
            have hle : ((textBits s).take m).length ≤ m := List.length_take_le _ _
            have hul2 : (L ++ (textBits s).take m).length < 16777216 := by simp at hle ⊢; omega
            generalize hL1 : L ++ (textBits s).take m = L1 at *
            have HL1 := Lib.hid hL1
            have hwz : b < wr.heap.size := (Array.getElem?_eq_some_iff.1 HUB.out).1
            clear hL1 hy hub hur hbar hg' hle
            go_wp2_with fail
            go_region_law (refine step_append_where _ rfl _ _ 28 rfl 0 3 i0 (.int .i64 0) 1 8 Try.underlying28 hi hz0 hz1 hz2 rfl (by decide) u L1.length (i64s L1) rfl ((HUR.out.alloc _).drew) ⟨wr.heap.size, 0, none⟩ 1 1 [.int .i64 (IntKind.i64.wrap (IntKind.u8.wrap ((s[m].toNat : Int) - 48)))] rfl rfl (cell_one_drew _ _ _) (by simp [Value.oneCell']) (by unfold maxLen; omega) (by omega) (by omega) ?_; intro v' w1 hown' hgrow hwh; rw [HY.out] at hown'; obtain ⟨⟨d0, d1⟩, hrw⟩ := ref_append HUB.out HUR.out hul2 hown' (grown_undrew hgrow) (by simpa using hwh); obtain ⟨gr, capr, rfl⟩ := ownsRow_succ hown'; have HRW := Lib.hid (RefWrote.trans HBar.out HG.out hrw); clear hown' hgrow hwh hrw cu fu)
            all_goals
              go_wp2
              go_roundw
              case rel => exact ⟨m + 1, by omega, by go_num, by rw [HT.out, ← List.append_assoc, HL1.out]; exact HRW.out⟩
              case measure => simp [intOf]; omega
          · rw [List.take_of_length_le (by rw [textBits_len]; omega)] at hp
            have HW : Hid (RefWrote w wr b (Value.slice av L.length capv).ownBlock (L ++ textBits s)) := ⟨g', hp, hbar, hg'⟩
            clear hp hbar hg'
            go_wp2
            go_ret
            rw [HCL.out, HCE.out, if_neg (by omega), if_pos rfl]
            exact ⟨rfl, HW.out⟩

theorem refCode_any {w : World} {b : Nat} {g : Option Nat} {L : List Bool} (h : IsRef w b g L) (s : ByteArray) (hsz : s.size ≤ 9000000000000000000) :
    Calls Try.prog 14 #[.pointer (some ⟨b, 0, none⟩), .string s] w fun e w' => e = .returned (.int .i64 (codeE L s)) ∧ RefWrote w w' b g (codeL L s) := by
  by_cases hs : AllBits s
  · exact refCode_good h s hs hsz
  · have e : codeE L s = 14 := by unfold codeE; rw [if_neg (fun e => hs ((allB_iff s).1 e))]
    refine (refCode_form s hs (by omega)).mono ?_
    rintro _ w' ⟨rfl, rfl⟩
    refine ⟨by rw [e], ?_⟩
    unfold codeL; rw [e, if_neg (by omega)]; exact RefWrote.refl h

end Go.Proofs.Ytglnmaekhpaffaa
