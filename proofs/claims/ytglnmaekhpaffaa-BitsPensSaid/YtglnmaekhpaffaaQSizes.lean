/- Contracts of the methods of queue.sizes. -/
import Derived.Test.YtglnmaekhpaffaaBytes
import Derived.Deep.RegionHeld3
namespace Go.Proofs.Ytglnmaekhpaffaa
open Go.RowKit Go.Shelf
set_option linter.unusedVariables false

abbrev szV (m c g : Int) : Value := .agg #[.int .i64 m, .int .i64 c, .int .i64 g]

theorem below_undrew {n : Nat} {a b : World} (h : Below n a.drew b) : Below n a b := ⟨h.os, h.tape, h.output, h.size, h.block⟩
theorem below_boxed {w w' : World} {o : Obj} (h : Below (w.alloc o).drew.heap.size (w.alloc o).drew w') : Below w.heap.size w w' :=
  below_chain ((Below.refl _ _).alloc (Nat.le_refl _) o) (Nat.le_refl _) (below_undrew h)

theorem held_any (m c g : Nat) (w : World) (hc : c ≤ 1099511627776) (hg : g ≤ 8 * c) :
    Calls Try.prog 61 #[szV m c g] w fun e w' => e = .returned (.int .i64 ((c - g / 8 : Nat) : Int)) ∧ Below w.heap.size w w' := by
  have e : ((c - g / 8 : Nat) : Int) = (c : Int) - (g : Int) / 8 := by omega
  have E := Lib.hid e
  clear e
  go_enter Try.func61, Try.ntmps61
  go_wp2
  go_ret
  exact ⟨ret_int E.out.symm, (Below.refl _ _).alloc (Nat.le_refl _) _⟩

theorem next_any (m c g : Nat) (w : World) (hc : c ≤ 1099511627776) (hm : 1 ≤ m) (hm2 : m ≤ 1048576) :
    Calls Try.prog 56 #[szV m c g] w fun e w' => e = .returned (.int .i64 ((c % m : Nat) : Int)) ∧ Below w.heap.size w w' := by
  have e : ((c % m : Nat) : Int) = (c : Int) % (m : Int) := by omega
  have E := Lib.hid e
  clear e
  go_enter Try.func56, Try.ntmps56
  go_wp2
  go_ret
  exact ⟨ret_int E.out.symm, (Below.refl _ _).alloc (Nat.le_refl _) _⟩

theorem left_any (m c g : Nat) (w : World) (hc : c ≤ 1099511627776) (hg : g ≤ 8 * c) :
    Calls Try.prog 58 #[szV m c g] w fun e w' => e = .returned (.int .i64 ((8 * c - g : Nat) : Int)) ∧ Below w.heap.size w w' := by
  have e : ((8 * c - g : Nat) : Int) = (c : Int) * 8 - (g : Int) := by omega
  have E := Lib.hid e
  clear e
  go_enter Try.func58, Try.ntmps58
  go_wp2
  go_ret
  exact ⟨ret_int E.out.symm, (Below.refl _ _).alloc (Nat.le_refl _) _⟩

theorem place_any (m c g : Nat) (w : World) (hg : g ≤ 8796093022208) :
    Calls Try.prog 63 #[szV m c g] w fun e w' => e = .returned (.int .i64 ((g % 8 : Nat) : Int)) ∧ Below w.heap.size w w' := by
  have e : ((g % 8 : Nat) : Int) = (g : Int) % 8 := by omega
  have E := Lib.hid e
  clear e
  go_enter Try.func63, Try.ntmps63
  go_wp2
  go_ret
  exact ⟨ret_int E.out.symm, (Below.refl _ _).alloc (Nat.le_refl _) _⟩

theorem first_any (m c g : Nat) (w : World) (hg : g ≤ 8796093022208) (hm : 1 ≤ m) (hm2 : m ≤ 1048576) :
    Calls Try.prog 70 #[szV m c g] w fun e w' => e = .returned (.int .i64 ((g / 8 % m : Nat) : Int)) ∧ Below w.heap.size w w' := by
  have e : ((g / 8 % m : Nat) : Int) = (g : Int) / 8 % (m : Int) := by simp
  have E := Lib.hid e
  clear e
  go_enter Try.func70, Try.ntmps70
  go_wp2
  go_ret
  exact ⟨ret_int E.out.symm, (Below.refl _ _).alloc (Nat.le_refl _) _⟩

theorem free_any (m c g : Nat) (w : World) (hc : c ≤ 1099511627776) (hg : g ≤ 8 * c) (hh : c - g / 8 ≤ m) (hm2 : m ≤ 1048576) :
    Calls Try.prog 55 #[szV m c g] w fun e w' => e = .returned (.int .i64 ((m - (c - g / 8) : Nat) : Int)) ∧ Below w.heap.size w w' := by
  have e : ((m - (c - g / 8) : Nat) : Int) = (m : Int) - ((c - g / 8 : Nat) : Int) := by omega
  have E := Lib.hid e
  clear e
  go_enter Try.func55, Try.ntmps55
  go_wp2
  go_region_with (go_at_call 61; refine (held_any m c g _ hc hg).mono ?_; rintro e w' ⟨rfl, hb⟩; have hcell := hb.cell (p := ⟨w.heap.size, 0, none⟩) (by simp))
  all_goals go_wp2
  all_goals go_ret
  all_goals exact ⟨ret_int ((IntWalk.i64_in _ (by omega)).trans E.out.symm), below_boxed hb⟩

end Go.Proofs.Ytglnmaekhpaffaa
