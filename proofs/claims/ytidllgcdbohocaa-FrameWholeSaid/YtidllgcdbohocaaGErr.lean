/- frame: formats that are none. -/
import Derived.Test.YtidllgcdbohocaaGPla
import Derived.Test.YtidllgcdbohocaaGGrp
namespace Go.Proofs.Ytidllgcdbohocaa
open Go.RowKit Go.Shelf Go.Sort
set_option linter.unusedVariables false
attribute [local go_sem] Oper.semAt_some

set_option maxHeartbeats 2000000 in
theorem groups13_none {f : Int} (h0 : (f == 0) = false) (h1 : (f == 1) = false) (W : World) :
    Calls Try.prog 10 #[.int .i64 f] W fun e W' => e = .returned (.tuple #[.slice none 0 0, .int .i64 3]) ∧ W = W' := by
  have HK := Lib.hid (fun W => fknown_none h0 h1 W)
  clear h0 h1
  go_enter Try.func10, Try.ntmps10
  go_wp2_with (go_at_call 27; refine (HK.out _).mono ?_; rintro e w' ⟨rfl, rfl⟩)
  go_ret2
  exact ⟨rfl, rfl⟩
set_option maxHeartbeats 2000000 in
theorem next13_none {f : Int} (h0 : (f == 0) = false) (h1 : (f == 1) = false) (g : Int) (W : World) :
    Calls Try.prog 12 #[.int .i64 f, .int .i64 g] W fun e W' => e = .returned (.tuple #[.int .i64 0, .int .i64 3]) ∧ Below W.heap.size W W' := by
  have HK := Lib.hid (fun W => fknown_none h0 h1 W)
  clear h0 h1
  go_enter Try.func12, Try.ntmps12
  go_wp2_with (go_at_call 27; refine (HK.out _).mono ?_; rintro e w' ⟨rfl, rfl⟩)
  exact bodyPost_ret (v := .tuple #[.int .i64 0, .int .i64 3]) (by simp [results, Try.f12, go_sem]) rfl ⟨rfl, (((Below.refl _ W).alloc (Nat.le_refl _) _).alloc (by simp) _).alloc (by simp; omega) _⟩
set_option maxHeartbeats 2000000 in
theorem corner13_none {f : Int} (h0 : (f == 0) = false) (h1 : (f == 1) = false) (g a : Int) (W : World) :
    Calls Try.prog 17 #[.int .i64 f, .int .i64 g, .int .i64 a] W fun e W' => e = .returned (.tuple #[.int .i64 0, .int .i64 0, .int .i64 3]) ∧ Below W.heap.size W W' := by
  have HK := Lib.hid (fun W => fknown_none h0 h1 W)
  clear h0 h1
  go_enter Try.func17, Try.ntmps17
  go_wp2_with (go_at_call 27; refine (HK.out _).mono ?_; rintro e w' ⟨rfl, rfl⟩)
  exact bodyPost_ret (v := .tuple #[.int .i64 0, .int .i64 0, .int .i64 3]) (by simp [results, Try.f17, go_sem]) rfl ⟨rfl, ((((Below.refl _ W).alloc (Nat.le_refl _) _).alloc (by simp) _).alloc (by simp; omega) _).alloc (by simp; omega) _⟩
set_option maxHeartbeats 2000000 in
theorem place13_none {f : Int} (h0 : (f == 0) = false) (h1 : (f == 1) = false) (g a b : Int) (W : World) :
    Calls Try.prog 19 #[.int .i64 f, .int .i64 g, .int .i64 a, .int .i64 b] W fun e W' => e = .returned (.tuple #[.int .i64 0, .int .i64 0, .int .i64 3]) ∧ Below W.heap.size W W' := by
  have HC := Lib.hid (fun W => corner13_none h0 h1 g a W)
  clear h0 h1
  go_enter Try.func19, Try.ntmps19
  go_wp2_with fail
  obtain ⟨w1, hw⟩ : ∃ w1, ((((((W.alloc (Obj.cells #[Value.int IntKind.i64 g] 3)).alloc (Obj.cells #[Value.int IntKind.i64 a] 3)).alloc (Obj.cells #[Value.int IntKind.i64 b] 3)).alloc (Obj.cells #[Value.int IntKind.i64 0] 3)).alloc (Obj.cells #[Value.int IntKind.i64 0] 3)).alloc (Obj.cells #[Value.int IntKind.i64 0] 22)) = w1 := ⟨_, rfl⟩
  have hz1 : w1.heap.size = W.heap.size + 6 := by rw [← hw]; simp
  have hb1 : Below W.heap.size W w1 := by rw [← hw]; exact ((((((Below.refl _ W).alloc (Nat.le_refl _) _).alloc (by simp) _).alloc (by simp; omega) _).alloc (by simp; omega) _).alloc (by simp; omega) _).alloc (by simp; omega) _
  have q0 : Box1 w1 W.heap.size (.int .i64 g) := by rw [← hw]; exact ⟨_, heap_keep (heap_keep (heap_keep (heap_keep (heap_keep (heap_new _ rfl _) _) _) _) _) _⟩
  have q1 : Box1 w1 (W.heap.size + 1) (.int .i64 a) := by rw [← hw]; exact ⟨_, heap_keep (heap_keep (heap_keep (heap_keep (heap_new _ (by simp) _) _) _) _) _⟩
  have q2 : Box1 w1 (W.heap.size + 1 + 1) (.int .i64 b) := by rw [← hw]; exact ⟨_, heap_keep (heap_keep (heap_keep (heap_new _ (by simp) _) _) _) _⟩
  have q3 : Box1 w1 (W.heap.size + 1 + 1 + 1) (.int .i64 0) := by rw [← hw]; exact ⟨_, heap_keep (heap_keep (heap_new _ (by simp) _) _) _⟩
  have q4 : Box1 w1 (W.heap.size + 1 + 1 + 1 + 1) (.int .i64 0) := by rw [← hw]; exact ⟨_, heap_keep (heap_new _ (by simp) _) _⟩
  have q5 : Box1 w1 (W.heap.size + 1 + 1 + 1 + 1 + 1) (.int .i64 0) := by rw [← hw]; exact ⟨_, heap_new _ (by simp) _⟩
  rw [hw]
  clear hw
  refine (HC.out w1).mono ?_
  rintro e w2 ⟨rfl, hb2⟩
  have pI : PInv W g a b 0 0 0 w2 := ⟨q0.at (hb2.block _ (by omega)), q1.at (hb2.block _ (by omega)), q2.at (hb2.block _ (by omega)), q3.at (hb2.block _ (by omega)), q4.at (hb2.block _ (by omega)), q5.at (hb2.block _ (by omega)), Below.thru hb1 hb2 (by omega)⟩
  have PI := Lib.hid pI
  obtain ⟨c3, f3⟩ := pI.q3.cell
  obtain ⟨c4, f4⟩ := pI.q4.cell
  obtain ⟨c5, f5⟩ := pI.q5.cell
  clear q0 q1 q2 q3 q4 q5 hb1 hb2 pI
  go_wp2
  have hI2 := PI.out.tell 0 0 3
  obtain ⟨z0, -⟩ := hI2.q3.cell
  obtain ⟨z1, -⟩ := hI2.q4.cell
  obtain ⟨z2, -⟩ := hI2.q5.cell
  exact bodyPost_ret (v := .tuple #[.int .i64 0, .int .i64 0, .int .i64 3]) (by simp [results, Try.f19, go_sem, z0, z1, z2]) rfl ⟨rfl, hI2.below⟩
end Go.Proofs.Ytidllgcdbohocaa
