/- frame: a block's plane and corner; groups. -/
import Derived.Test.YtidllgcdbohocaaGBlk
namespace Go.Proofs.Ytidllgcdbohocaa
open Go.RowKit Go.Shelf Go.Sort
set_option linter.unusedVariables false

/-- where a block's plane begins, and how wide it is -/
def plF (w h : Int) (b : Nat) : Int := if b = 5 then w * h else if b = 6 then w * h + w / 2 * (h / 2) else 0
def plW (w : Int) (b : Nat) : Int := if b = 5 then w / 2 else if b = 6 then w / 2 else w
/-- where in its plane a block begins -/
def coX (x b : Nat) : Nat := if b = 5 ∨ b = 6 then x / 2 else x + 8 * ((b - 1) % 2)
def coY (y b : Nat) : Nat := if b = 5 ∨ b = 6 then y / 2 else y + 8 * ((b - 1) / 2)

set_option maxHeartbeats 1000000 in
theorem fplane_any {f w h nn : Int} {c r : Nat} (H : Fm f w h nn c r) (b : Nat) (W : World) :
    Calls Try.prog 34 #[.int .i64 f, .int .i64 (b : Int)] W fun e W' => e = .returned (.agg #[.int .i64 (plF w h b), .int .i64 (plW w b)]) ∧ Below W.heap.size W W' := by
  have HS := Lib.hid (fun W => fsize_any H W)
  by_cases h5 : b = 5
  · subst h5
    rcases H with ⟨rfl, rfl, rfl, rfl, -, -⟩ | ⟨rfl, rfl, rfl, rfl, -, -⟩
    all_goals
      go_enter Try.func34, Try.ntmps34
      go_wp2_with (go_at_call 28; refine (HS.out _).mono ?_; rintro e w' ⟨rfl, rfl⟩)
      refine bodyPost_ret (by simp [results, Try.f34, go_sem]; exact ⟨rfl, rfl⟩) rfl ⟨rfl, (Below.refl _ _).alloc (Nat.le_refl _) _⟩
  · by_cases h6 : b = 6
    · subst h6
      rcases H with ⟨rfl, rfl, rfl, rfl, -, -⟩ | ⟨rfl, rfl, rfl, rfl, -, -⟩
      all_goals
        go_enter Try.func34, Try.ntmps34
        go_wp2_with (go_at_call 28; refine (HS.out _).mono ?_; rintro e w' ⟨rfl, rfl⟩)
        refine bodyPost_ret (by simp [results, Try.f34, go_sem]; exact ⟨rfl, rfl⟩) rfl ⟨rfl, (Below.refl _ _).alloc (Nat.le_refl _) _⟩
    · have e5 : ((b : Int) == 5) = false := by rw [beq_eq_false_iff_ne]; omega
      have e6 : ((b : Int) == 6) = false := by rw [beq_eq_false_iff_ne]; omega
      have ef : plF w h b = 0 := by unfold plF; rw [if_neg h5, if_neg h6]
      have ew : plW w b = w := by unfold plW; rw [if_neg h5, if_neg h6]
      rw [ef, ew]
      clear h5 h6 ef ew
      rcases H with ⟨rfl, rfl, rfl, rfl, -, -⟩ | ⟨rfl, rfl, rfl, rfl, -, -⟩
      all_goals
        go_enter Try.func34, Try.ntmps34
        go_wp2_with (go_at_call 28; refine (HS.out _).mono ?_; rintro e w' ⟨rfl, rfl⟩)
        refine bodyPost_ret (by simp [results, Try.f34, go_sem]) rfl ⟨rfl, (Below.refl _ _).alloc (Nat.le_refl _) _⟩

theorem fplaceP_any (p q x y : Int) (hp : 0 ≤ p) (hp2 : p ≤ 200000) (hx : 0 ≤ x) (hx2 : x ≤ 2000) (hq : 0 ≤ q * y) (hq2 : q * y ≤ 1000000) (W : World) :
    Calls Try.prog 35 #[.agg #[.int .i64 p, .int .i64 q], .int .i64 x, .int .i64 y] W fun e W' => e = .returned (.int .i64 (p + q * y + x)) ∧ W' = W.alloc (.cells #[.int .i64 p, .int .i64 q] 71 (0, 0)) := by
  go_enter Try.func35, Try.ntmps35
  go_wp2
  go_ret
  exact ⟨rfl, rfl⟩

set_option maxHeartbeats 2000000 in
theorem fcornerB_any (g a : Int) (x y b : Nat) (hx : x ≤ 1000) (hy : y ≤ 1000) (hb1 : 1 ≤ b) (hb : b ≤ 6) (W : World) :
    Calls Try.prog 36 #[.agg #[.int .i64 g, .int .i64 a, .int .i64 x, .int .i64 y, .int .i64 b]] W fun e W' => e = .returned (.tuple #[.int .i64 (coX x b : Nat), .int .i64 (coY y b : Nat)]) ∧ Below W.heap.size W W' := by
  have hc : b = 1 ∨ b = 2 ∨ b = 3 ∨ b = 4 ∨ b = 5 ∨ b = 6 := by omega
  clear hb1 hb
  rcases hc with rfl | rfl | rfl | rfl | rfl | rfl
  all_goals
    go_enter Try.func36, Try.ntmps36
    go_wp2
    go_quiet (fail)
    go_wp2
    go_ret2
    refine ⟨?_, ((Below.refl _ _).alloc (Nat.le_refl _) _).trans (below_drewN _ _ _)⟩
    simp [coX, coY]

end Go.Proofs.Ytidllgcdbohocaa
