/- The contract of the law BitsFinds: it returns true, and nothing that lay is changed. -/
import Derived.Test.YtfdlaiommpmliaaKnown
namespace Go.Proofs.Ytfdlaiommpmliaa
open Go.RowKit Go.Shelf
set_option linter.unusedVariables false

theorem Byt.later {w W : World} {sv : Value} {zs : List UInt8} (h : Byt w.heap.size w sv zs) (hb : Below w.heap.size w W) : Byt W.heap.size W sv zs := by
  obtain ⟨a, cap, e, hl, hz⟩ := h.below hb
  refine ⟨a, cap, e, hl, hz.imp id fun ⟨b, off, ea, hlt, hc⟩ => ⟨b, off, ea, ?_, hc⟩⟩
  have := hb.size
  omega

theorem code_eq (zs : List UInt8) (i : Nat) : ((readN zs i 16 == 1) && (readE zs i 16 == 0)) = isCode zs i := by
  unfold readN readE isCode
  have h1 : ¬ ((i : Int) < 0 ∨ (16 : Int) < 0 ∨ (32 : Int) < 16) := by omega
  rw [if_neg h1, if_neg h1]
  by_cases h2 : max 0 ((zs.length : Int) * 8 - i) < 16
  · rw [if_pos h2, if_pos h2]
    have : ¬ (i + 16 ≤ zs.length * 8) := by omega
    simp [this]
  · rw [if_neg h2, if_neg h2]
    have : i + 16 ≤ zs.length * 8 := by omega
    rw [Int.toNat_natCast, show ((16 : Int).toNat) = 16 from rfl]
    simp only [this, decide_true, Bool.true_and, beq_self_eq_true, Bool.and_true]
    rw [Bool.eq_iff_iff]
    simp
    omega

theorem code_at {n₀ : Nat} {w : World} {sv : Value} {zs : List UInt8} (hB : Byt n₀ w sv zs) (i : Nat) (h1 : i ≤ 9223372036854775807) :
    Calls Try.prog 27 #[sv, .int .i64 i] w fun e w' => e = .returned (.bool (isCode zs i)) ∧ w = w' := by
  rw [← code_eq]; exact code_any hB i (by omega)

theorem fnd_spec {zs : List UInt8} {f y : Nat} (h : fnd zs f = some y) : f ≤ y ∧ y < zs.length * 8 ∧ isCode zs y = true ∧ ∀ j, f ≤ j → j < y → isCode zs j = false := by
  unfold fnd at h
  rw [List.find?_range'_eq_some] at h
  obtain ⟨a, b, c⟩ := h
  simp at b
  exact ⟨by omega, by omega, a, fun j h1 h2 => by simpa using c j h1 h2⟩
theorem fnd_never {zs : List UInt8} {f : Nat} (h : fnd zs f = none) : ∀ j, f ≤ j → j < zs.length * 8 → isCode zs j = false := by
  unfold fnd at h
  rw [List.find?_eq_none] at h
  intro j h1 h2
  have := h j (by simp; omega)
  simpa using this

set_option maxRecDepth 100000 in
set_option maxHeartbeats 2000000 in
theorem finds_long (a : Option Addr) (len cap : Nat) (x : Int) (w : World) (hl : 60 < len) (hm : len ≤ 9223372036854775807) :
    Calls Try.prog 7 #[.slice a len cap, .int .i64 x] w fun e w' => e = .returned (.bool true) ∧ Below w.heap.size w w' := by
  go_enter Try.func7, Try.ntmps7
  go_wp2_with (go_at_call 5; refine (known_any _).mono ?_; rintro e w1 ⟨rfl, hb⟩)
  go_ret
  exact ⟨rfl, hb⟩

set_option maxRecDepth 100000 in
set_option maxHeartbeats 2000000 in
theorem finds_law (a : Option Addr) (cap : Nat) (zs : List UInt8) (x : Int) (w : World) (hl : zs.length ≤ 60) (hB : Byt w.heap.size w (.slice a zs.length cap) zs) :
    Calls Try.prog 7 #[.slice a zs.length cap, .int .i64 x] w fun e w' => e = .returned (.bool true) ∧ Below w.heap.size w w' := by
  have hm := Int.emod_nonneg x (b := 8 * (zs.length : Int) + 2) (by omega)
  have hm2 := Int.emod_lt_of_pos x (b := 8 * (zs.length : Int) + 2) (by omega)
  have HPk := Lib.hid (fun w => pick_any x (8 * (zs.length : Int) + 2) w (by omega) (by omega))
  obtain ⟨f, hf⟩ := Int.eq_ofNat_of_zero_le hm
  rw [hf] at HPk hm2
  have hl2 : f < 8 * zs.length + 2 := by omega
  clear hm hm2 hf
  have HB := Lib.hid hB
  clear hB
  have t60 : decide ((60 : Int) < (zs.length : Int)) = false := by simp; omega
  have HF := Lib.hid (fun W (hb : Below w.heap.size w W) => find_two (HB.out.later hb) f (by omega))
  have HC := Lib.hid (fun W (hb : Below w.heap.size w W) (j : Nat) (hj : j ≤ 10000) => code_at (HB.out.later hb) j (by omega))
  clear HB
  have hfn : findN zs f = ((fnd zs f).getD 0 : Nat) := by unfold findN; rw [if_neg (by omega), Int.toNat_natCast]
  have hfe : findE zs f = if (fnd zs f).isSome then 0 else 5 := by unfold findE; rw [if_neg (by omega), Int.toNat_natCast]
  rw [hfn, hfe] at HF
  clear hfn hfe
  cases hfd : fnd zs f with
  | some y =>
    obtain ⟨y1, y2, y3, y4⟩ := fnd_spec hfd
    simp only [hfd, Option.getD_some, Option.isSome_some, if_true] at HF
    have t1 : decide (y < f) = false := by simp; omega
    have Y3 := Lib.hid y3
    have Y4 := Lib.hid y4
    clear hfd y3 y4
    go_enter Try.func7, Try.ntmps7
    go_wp2_with (first | (go_at_call 5; refine (known_any _).mono ?_; rintro e w1 ⟨rfl, hb1⟩) | (go_at_call 25; refine (HPk.out _).mono ?_; rintro e w2 ⟨rfl, rfl⟩) | (go_at_call 26; refine (HF.out _ (by assumption)).mono ?_; rintro e w3 ⟨rfl, hb3⟩))
    have hbW := below_chain hb1 (Nat.le_refl _) hb3
    refine (HC.out w3 hbW y (by omega)).mono ?_
    rintro e w4 ⟨rfl, rfl⟩
    rw [Y3.out]
    clear hb1 hb3
    go_wp2_with fail
    go_loop [9] (fun i => ∃ k : Nat, f ≤ k ∧ k ≤ y ∧ i = .int .i64 k) (fun i => y - (intOf i).toNat)
    case atStart => exact ⟨f, by omega, by omega, rfl⟩
    case round =>
      obtain ⟨k, hk1, hk2, rfl⟩ := hrel
      by_cases hlt : k < y
      · have hcc := HC.out w3 hbW k (by omega)
        rw [Y4.out k hk1 hlt] at hcc
        have HCC := Lib.hid hcc
        clear hcc
        go_wp2_with (go_at_call 27; refine HCC.out.mono ?_; rintro e w5 ⟨rfl, rfl⟩)
        go_round
        case rel => exact ⟨k + 1, by omega, by omega, by go_num⟩
        case measure => simp [intOf]; omega
      · go_wp2
        go_ret
        exact ⟨rfl, hbW⟩
  | none =>
    have y4 := fnd_never hfd
    simp only [hfd, Option.getD_none, Option.isSome_none, Bool.false_eq_true, if_false] at HF
    have Y4 := Lib.hid y4
    clear hfd y4
    go_enter Try.func7, Try.ntmps7
    go_wp2_with (first | (go_at_call 5; refine (known_any _).mono ?_; rintro e w1 ⟨rfl, hb1⟩) | (go_at_call 25; refine (HPk.out _).mono ?_; rintro e w2 ⟨rfl, rfl⟩) | (go_at_call 26; refine (HF.out _ (by assumption)).mono ?_; rintro e w3 ⟨rfl, hb3⟩))
    have hbW := below_chain hb1 (Nat.le_refl _) hb3
    clear hb1 hb3
    go_loop [9] (fun i => ∃ k : Nat, f ≤ k ∧ k ≤ max f (zs.length * 8) ∧ i = .int .i64 k) (fun i => zs.length * 8 - (intOf i).toNat)
    case atStart => exact ⟨f, by omega, by omega, rfl⟩
    case round =>
      obtain ⟨k, hk1, hk2, rfl⟩ := hrel
      by_cases hlt : k < zs.length * 8
      · have hcc := HC.out w3 hbW k (by omega)
        rw [Y4.out k hk1 hlt] at hcc
        have HCC := Lib.hid hcc
        clear hcc
        go_wp2_with (go_at_call 27; refine HCC.out.mono ?_; rintro e w5 ⟨rfl, rfl⟩)
        go_round
        case rel => exact ⟨k + 1, by omega, by omega, by go_num⟩
        case measure => simp [intOf]; omega
      · go_wp2
        go_ret
        exact ⟨rfl, hbW⟩

end Go.Proofs.Ytfdlaiommpmliaa
