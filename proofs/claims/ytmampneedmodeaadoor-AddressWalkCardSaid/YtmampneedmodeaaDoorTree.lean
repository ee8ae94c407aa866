/- Codes and trees, plainly; contracts of the reference's code, begins (praxinoscoperef03) and Count, bit, Read (praxinoscoperef01). -/
import Derived.Test.YtmampneedmodeaaDoorKit
namespace Go.Proofs.YtmampneedmodeaaDoor
open Go.RowKit Go.Shelf
set_option linter.unusedVariables false

theorem str_eq_iff (a b : ByteArray) : (a.toList == b.toList) = true ↔ a = b := by
  rw [ByteArray.toList_eq, ByteArray.toList_eq, beq_iff_eq]
  exact ⟨fun h => ByteArray.ext (Array.toList_inj.1 h), fun h => by rw [h]⟩
/-- a text of 1 to 24 bits -/
def codeB (s : ByteArray) : Bool := allB s && decide (1 ≤ s.size) && decide (s.size ≤ 24)
/-- does a text begin with another one, or is it that? -/
def begins (s t : ByteArray) : Bool := decide (t.data.toList <+: s.data.toList)
theorem begins_le {s t : ByteArray} (h : t.size ≤ s.size) : begins s t = decide (s.extract 0 t.size = t) := by
  unfold begins
  apply decide_eq_decide.2
  have h1 : t.data.toList.length = t.size := by simp
  rw [List.prefix_iff_eq_take, h1]
  constructor
  · intro e
    apply ByteArray.ext
    apply Array.toList_inj.1
    rw [e]
    simp
  · intro e
    have := congrArg (fun x : ByteArray => x.data.toList) e
    simpa using this.symm
theorem begins_lt {s t : ByteArray} (h : ¬ t.size ≤ s.size) : begins s t = false := by
  unfold begins
  apply decide_eq_false
  intro hp
  have := hp.length_le
  simp at this
  omega

set_option maxRecDepth 100000 in
set_option maxHeartbeats 1000000 in
theorem tcode_any (s : ByteArray) (w : World) (hsz : s.size ≤ 9223372036854775807) :
    Calls Tryd.prog 38 #[.string s] w fun e w' => e = .returned (.bool (codeB s)) ∧ w = w' := by
  by_cases hs : AllBits s
  · have HS := Lib.hid hs
    have HE : Hid (codeB s = (decide (1 ≤ s.size) && decide (s.size ≤ 24))) := by
      show codeB s = _
      unfold codeB; rw [(allB_iff s).2 hs]; rfl
    clear hs
    go_enter Tryd.func38, Tryd.ntmps38
    go_wp2
    go_loop [3] (fun i => ∃ t : Nat, t ≤ s.size ∧ i = .int .i64 t) (fun i => s.size - (intOf i).toNat)
    case atStart => exact ⟨0, Nat.zero_le _, rfl⟩
    case round =>
      obtain ⟨t, ht, rfl⟩ := hrel
      by_cases hts : t < s.size
      · rcases HS.out t hts with h | h
        · have e1 : ((s[t].toNat : Int) != 48) = false := by rw [h]; rfl
          go_wp2
          go_round
          case rel => exact ⟨t + 1, by omega, by go_num⟩
          case measure => simp [intOf]; omega
        · have e1 : ((s[t].toNat : Int) != 48) = true := by rw [h]; rfl
          have e2 : ((s[t].toNat : Int) != 49) = false := by rw [h]; rfl
          go_wp2
          go_round
          case rel => exact ⟨t + 1, by omega, by go_num⟩
          case measure => simp [intOf]; omega
      · have htn : t = s.size := by omega
        subst t
        by_cases h1 : 1 ≤ s.size
        · have hE2 : Hid (codeB s = decide ((s.size : Int) ≤ 24)) := by
            show codeB s = _
            rw [HE.out, decide_eq_true h1, Bool.true_and]
            exact decide_eq_decide.2 (by omega)
          clear HE
          go_wp2
          go_ret
          exact ⟨ret_bool hE2.out.symm, rfl⟩
        · have hE2 : Hid (codeB s = false) := by
            show codeB s = _
            rw [HE.out, decide_eq_false h1, Bool.false_and]
          clear HE
          go_wp2
          go_ret
          exact ⟨ret_bool hE2.out.symm, rfl⟩
  · have HE : Hid (codeB s = false) := by
      show codeB s = false
      unfold codeB
      rw [show allB s = false by rw [Bool.eq_false_iff]; exact fun e => hs ((allB_iff s).1 e)]
      rfl
    obtain ⟨k, hk, hgd, hbad⟩ := first_bad s hs
    have HG := Lib.hid hgd
    clear hgd hs
    go_enter Tryd.func38, Tryd.ntmps38
    go_wp2
    go_loop [3] (fun i => ∃ t : Nat, t ≤ k ∧ i = .int .i64 t) (fun i => s.size - (intOf i).toNat)
    case atStart => exact ⟨0, Nat.zero_le _, rfl⟩
    case round =>
      obtain ⟨t, ht, rfl⟩ := hrel
      by_cases hlt : t < k
      · have hts : t < s.size := by omega
        rcases HG.out t hts hlt with h | h
        · have e1 : ((s[t].toNat : Int) != 48) = false := by rw [h]; rfl
          go_wp2
          go_round
          case rel => exact ⟨t + 1, by omega, by go_num⟩
          case measure => simp [intOf]; omega
        · have e1 : ((s[t].toNat : Int) != 48) = true := by rw [h]; rfl
          have e2 : ((s[t].toNat : Int) != 49) = false := by rw [h]; rfl
          go_wp2
          go_round
          case rel => exact ⟨t + 1, by omega, by go_num⟩
          case measure => simp [intOf]; omega
      · obtain rfl : t = k := by omega
        have e1 : ((s[t].toNat : Int) != 48) = true := by
          simp only [bne_iff_ne]; intro e; apply hbad; left; apply UInt8.toNat_inj.1; show s[t].toNat = 48; omega
        have e2 : ((s[t].toNat : Int) != 49) = true := by
          simp only [bne_iff_ne]; intro e; apply hbad; right; apply UInt8.toNat_inj.1; show s[t].toNat = 49; omega
        clear hbad
        go_wp2
        go_ret
        exact ⟨ret_bool HE.out.symm, rfl⟩

set_option maxHeartbeats 1000000 in
theorem tbegins_any (s t : ByteArray) (w : World) :
    Calls Tryd.prog 39 #[.string s, .string t] w fun e w' => e = .returned (.bool (begins s t)) ∧ w = w' := by
  by_cases h : t.size ≤ s.size
  · go_enter Tryd.func39, Tryd.ntmps39
    go_wp2
    go_ret
    refine ⟨ret_bool ?_, rfl⟩
    rw [begins_le h]
    rw [Bool.eq_iff_iff, decide_eq_true_eq]
    exact str_eq_iff _ _
  · go_enter Tryd.func39, Tryd.ntmps39
    go_wp2
    go_ret
    exact ⟨ret_bool (begins_lt h).symm, rfl⟩

theorem rcount_any {n₀ : Nat} {w : World} {sv : Value} {zs : List UInt8} (hB : Byt n₀ w sv zs) :
    Calls Tryd.prog 40 #[sv] w fun e w' => e = .returned (.int .i64 (8 * (zs.length : Int))) ∧ w = w' := by
  obtain ⟨a, cap, rfl, hl, _⟩ := hB
  go_enter Tryd.func40, Tryd.ntmps40
  go_wp2
  go_ret
  exact ⟨rfl, rfl⟩

theorem rbit_at (b off len cap : Nat) (zs : List UInt8) (k : Nat) (w : World) (h1 : k < 8 * len) (hl : len ≤ 1152921504606846975)
    (hc : w.cell? ⟨b, off + k / 8, none⟩ = some (.int .u8 ((zs[k / 8]?.getD 0).toNat))) :
    Calls Tryd.prog 44 #[.slice (some ⟨b, off, none⟩) len cap, .int .i64 k] w fun e w' => e = .returned (.int .i64 (bt zs k)) ∧ w = w' := by
  go_enter Tryd.func44, Tryd.ntmps44
  go_wp2
  go_ret
  exact ⟨ret_int (rem_bt zs k), rfl⟩
theorem rbit_any {n₀ : Nat} {w : World} {sv : Value} {zs : List UInt8} (hB : Byt n₀ w sv zs) (i : Int) (k : Nat) (hi : i = k) (h : k < 8 * zs.length) :
    Calls Tryd.prog 44 #[sv, .int .i64 i] w fun e w' => e = .returned (.int .i64 (bt zs k)) ∧ w = w' := by
  subst hi
  obtain ⟨a, cap, rfl, hl, hz⟩ := hB
  rcases hz with rfl | ⟨b, off, rfl, _, hc⟩
  · simp at h
  · exact rbit_at b off zs.length cap zs k w h hl (hc _ (by omega))

set_option maxRecDepth 100000 in
set_option maxHeartbeats 1000000 in
theorem rread1_any {n₀ : Nat} {w : World} {sv : Value} {zs : List UInt8} (hB : Byt n₀ w sv zs) (i : Int) (k : Nat) (hi : i = k) (h : k < 8 * zs.length) (hl : zs.length ≤ 1099511627776) :
    Calls Tryd.prog 41 #[sv, .int .i64 i, .int .i64 1] w fun e w' => e = .returned (.tuple #[.int .i64 (bt zs k), .int .i64 0]) ∧ w = w' := by
  subst hi
  have HC := Lib.hid (rcount_any hB)
  have HB := Lib.hid (rbit_any hB (k : Int) k rfl h)
  have hbt : bt zs k < 2 := by unfold bt; exact Nat.mod_lt _ (by omega)
  obtain ⟨a, cap, rfl, hl', _⟩ := hB
  generalize bt zs k = v at *
  go_enter Tryd.func41, Tryd.ntmps41
  go_wp2_with (go_at_call 40; refine HC.out.mono ?_; rintro e w' ⟨rfl, rfl⟩)
  go_loop [8, 9] (fun x i => (x = .int .i64 0 ∧ i = .int .i64 0) ∨ (x = .int .i64 v ∧ i = .int .i64 1)) (fun _ i => 1 - (intOf i).toNat)
  case atStart => exact .inl ⟨rfl, rfl⟩
  case round =>
    rcases hrel with ⟨rfl, rfl⟩ | ⟨rfl, rfl⟩
    · go_wp2_with fail
      refine HB.out.mono ?_
      rintro e w' ⟨rfl, rfl⟩
      go_wp2
      go_round
      case rel => exact .inr ⟨by go_num, rfl⟩
      case measure => simp [intOf]
    · go_wp2
      go_ret2
      exact ⟨rfl, rfl⟩

end Go.Proofs.YtmampneedmodeaaDoor
