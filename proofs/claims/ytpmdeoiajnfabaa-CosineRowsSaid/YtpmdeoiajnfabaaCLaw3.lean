/- The walk of CosineRows (praxinoscopelaw11). -/
import Derived.Test.YtpmdeoiajnfabaaCLaw
namespace Go.Proofs.Ytpmdeoiajnfabaa
open Go.RowKit Go.Shelf
set_option linter.unusedVariables false

theorem weightR_in {u x : Nat} (hu : u < 8) (hx : x < 8) : weightR u x = (wt u x, 0) := by
  unfold weightR
  rw [if_pos]
  · rfl
  · simp [okPC]
    omega
theorem weightC {u x : Nat} (hu : u < 8) (hx : x < 8) (w : World) : Calls Try.prog 18 #[.int .i64 u, .int .i64 x] w fun e w' => e = .returned (.tuple #[.int .i64 (wt u x), .int .i64 0]) ∧ Below w.heap.size w w' := by
  have := weight_any u x w
  rwa [weightR_in hu hx] at this

theorem rows_nearN {u v : Nat} (hu : u < 8) (hv : v < 8) : ∃ s, (smC 8 fun x => wt u x * wt v x) = s ∧ (u = v → -20000 < s - 16777216 ∧ s - 16777216 < 20000) ∧ (u ≠ v → -20000 < s ∧ s < 20000) := by
  have h := rows_near ⟨u, hu⟩ ⟨v, hv⟩
  refine ⟨rowsC u v, rfl, fun e => h.1 (Fin.ext e), fun e => h.2 (fun e' => e (congrArg Fin.val e'))⟩

set_option maxRecDepth 100000 in
set_option maxHeartbeats 4000000 in
theorem cosineRows_walk (w : World) (u v : Int) :
    Calls Try.prog 9 #[.int .i64 u, .int .i64 v] w fun e w' => e = .returned (.bool true) ∧ Below w.heap.size w w' := by
  have HK := Lib.hid (known11_any w)
  have HPu := Lib.hid (fun W => pick_any u 8 W (by omega) (by omega))
  have HPv := Lib.hid (fun W => pick_any v 8 W (by omega) (by omega))
  obtain ⟨un, hun, hu8⟩ : ∃ un : Nat, u % 8 = un ∧ un < 8 := ⟨(u % 8).toNat, by omega, by omega⟩
  obtain ⟨vn, hvn, hv8⟩ : ∃ vn : Nat, v % 8 = vn ∧ vn < 8 := ⟨(v % 8).toNat, by omega, by omega⟩
  rw [hun] at HPu
  rw [hvn] at HPv
  have HWu := Lib.hid (fun x hx W => @weightC un x hu8 hx W)
  have HWv := Lib.hid (fun x hx W => @weightC vn x hv8 hx W)
  obtain ⟨sf, hsf, hn1, hn2⟩ := rows_nearN hu8 hv8
  have HSf := Lib.hid hsf
  have HN1 := Lib.hid hn1
  have HN2 := Lib.hid hn2
  clear hsf hn1 hn2
  have HIn : Hid (∀ k, k < 8 → (-4194304 ≤ wt un k * wt vn k ∧ wt un k * wt vn k ≤ 4194304) ∧ -33554432 ≤ (smC k fun x => wt un x * wt vn x) ∧ (smC k fun x => wt un x * wt vn x) ≤ 33554432) := by
    show ∀ k, _ → _
    intro k hk
    have h1 := mul_in (A := 2048) (M := 2048) (wt_in hu8 hk) (wt_in hv8 hk) (by omega) (by omega)
    have h2 := smC_le (n := k) (f := fun x => wt un x * wt vn x) (M := 2048 * 2048) (fun x hx => mul_in (wt_in hu8 (by omega)) (wt_in hv8 (by omega)) (by omega) (by omega))
    have h3 : (k : Int) * (2048 * 2048) ≤ 8 * (2048 * 2048) := Int.mul_le_mul_of_nonneg_right (by omega) (by omega)
    omega
  clear hun hvn
  go_enter Try.func9, Try.ntmps9
  go_wp2_with fail
  refine HK.out.mono ?_
  rintro e w1 ⟨rfl, b1⟩
  have B1 := Lib.hid b1
  clear b1 HK
  go_wp2_with fail
  refine (HPu.out _).mono ?_
  rintro e w2 ⟨rfl, rfl⟩
  go_wp2_with fail
  refine (HPv.out _).mono ?_
  rintro e w2 ⟨rfl, rfl⟩
  go_wp2_with fail
  go_loopw [6, 7] (fun s i wr => ∃ k : Nat, i = .int .i64 k ∧ k ≤ 8 ∧ s = .int .i64 (smC k fun x => wt un x * wt vn x) ∧ Below w.heap.size w wr) (fun _ i _ => 8 - (intOf i).toNat)
  case atStart => exact ⟨0, rfl, by omega, rfl, B1.out⟩
  case round =>
    obtain ⟨k, rfl, hk, rfl, hB⟩ := hrel
    have HB := Lib.hid hB
    clear hB
    by_cases hk2 : k < 8
    · have z1 : (k : Int) < 8 := by omega
      obtain ⟨⟨p1, p2⟩, s1, s2⟩ := HIn.out k hk2
      have HC1 := Lib.hid (fun W => HWu.out k hk2 W)
      have HC2 := Lib.hid (fun W => HWv.out k hk2 W)
      have HSu := Lib.hid (show (smC (k + 1) fun x => wt un x * wt vn x) = (smC k fun x => wt un x * wt vn x) + wt un k * wt vn k from smC_succ k _)
      generalize (smC k fun x => wt un x * wt vn x) = s at *
      generalize wt un k = a at *
      generalize wt vn k = b at *
      have e1 : IntKind.i64.wrap (a * b) = a * b := by rw [IntKind.wrap_i64]; omega
      have e2 : IntKind.i64.wrap (s + a * b) = s + a * b := by rw [IntKind.wrap_i64]; omega
      go_wp2_with fail
      refine (HC1.out _).mono ?_
      rintro e w3 ⟨rfl, b3⟩
      have B3 := Lib.hid (below_chain HB.out (Nat.le_refl _) b3)
      clear b3
      go_wp2_with fail
      refine (HC2.out _).mono ?_
      rintro e w4 ⟨rfl, b4⟩
      have B4 := Lib.hid (below_chain B3.out (Nat.le_refl _) b4)
      clear b4
      go_wp2_with fail
      go_roundw
      case rel => exact ⟨k + 1, by go_num, by omega, by rw [HSu.out], B4.out⟩
      case measure => simp [intOf]; omega
    · obtain rfl : k = 8 := by omega
      rw [HSf.out]
      by_cases he : un = vn
      · subst he
        obtain ⟨n1, n2⟩ := HN1.out rfl
        have e1 : ((un : Int) == (un : Int)) = true := by simp
        go_wp2_with fail
        go_ret
        exact ⟨rfl, HB.out⟩
      · obtain ⟨n1, n2⟩ := HN2.out he
        have e1 : ((un : Int) == (vn : Int)) = false := by simp; omega
        go_wp2_with fail
        go_ret
        exact ⟨rfl, HB.out⟩

end Go.Proofs.Ytpmdeoiajnfabaa
