/- frame: what it answers, plainly; its small functions. -/
import Derived.Test.YtidllgcdbohocaaZArr
import Derived.Test.YtidllgcdbohocaaSeqN
namespace Go.Proofs.Ytidllgcdbohocaa
open Go.RowKit Go.Shelf Go.Sort
set_option linter.unusedVariables false
attribute [local go_sem] Oper.semAt_some

theorem results_tmp4 {fn : Func} {t u v x : Tmp} (h : fn.results = #[.tmp t, .tmp u, .tmp v, .tmp x]) (tmps : Array Value) (P : Program) (w : World) :
    (results fn tmps).run P w = .ok (.tuple #[tmps.getD t undef, tmps.getD u undef, tmps.getD v undef, tmps.getD x undef]) w := by
  simp [results, h, go_sem]
/-- a format: its number, its width and height, how many bytes it has, how many columns and rows of groups -/
def Fm (f w h n : Int) (c r : Nat) : Prop := (f = 0 ∧ w = 176 ∧ h = 144 ∧ n = 38016 ∧ c = 1 ∧ r = 3) ∨ (f = 1 ∧ w = 352 ∧ h = 288 ∧ n = 152064 ∧ c = 2 ∧ r = 6)

theorem Fm.c {f w h n : Int} {c r : Nat} (H : Fm f w h n c r) : c = 1 ∨ c = 2 := by rcases H with ⟨-, -, -, -, rfl, -⟩ | ⟨-, -, -, -, rfl, -⟩ <;> simp
theorem Fm.cr {f w h n : Int} {c r : Nat} (H : Fm f w h n c r) : c * r ≤ 12 := by rcases H with ⟨-, -, -, -, rfl, rfl⟩ | ⟨-, -, -, -, rfl, rfl⟩ <;> simp

theorem fknown_any {f w h n : Int} {c r : Nat} (H : Fm f w h n c r) (W : World) :
    Calls Try.prog 27 #[.int .i64 f] W fun e W' => e = .returned (.tuple #[.int .i64 f, .int .i64 0]) ∧ W = W' := by
  rcases H with ⟨rfl, -, -, -, -, -⟩ | ⟨rfl, -, -, -, -, -⟩
  all_goals
    go_enter Try.func27, Try.ntmps27
    go_wp2
    go_ret2
    exact ⟨rfl, rfl⟩
theorem fknown_none {f : Int} (h0 : (f == 0) = false) (h1 : (f == 1) = false) (W : World) :
    Calls Try.prog 27 #[.int .i64 f] W fun e W' => e = .returned (.tuple #[.int .i64 0, .int .i64 3]) ∧ W = W' := by
  go_enter Try.func27, Try.ntmps27
  go_wp2
  go_ret2
  exact ⟨rfl, rfl⟩
theorem fsize_any {f w h n : Int} {c r : Nat} (H : Fm f w h n c r) (W : World) :
    Calls Try.prog 28 #[.int .i64 f] W fun e W' => e = .returned (.tuple #[.int .i64 w, .int .i64 h]) ∧ W = W' := by
  rcases H with ⟨rfl, rfl, rfl, -, -, -⟩ | ⟨rfl, rfl, rfl, -, -, -⟩
  all_goals
    go_enter Try.func28, Try.ntmps28
    go_wp2
    go_ret2
    exact ⟨rfl, rfl⟩
theorem fbytes_any {f w h n : Int} {c r : Nat} (H : Fm f w h n c r) (W : World) :
    Calls Try.prog 29 #[.int .i64 f] W fun e W' => e = .returned (.int .i64 n) ∧ W = W' := by
  have HS := Lib.hid (fun W => fsize_any H W)
  rcases H with ⟨rfl, rfl, rfl, rfl, -, -⟩ | ⟨rfl, rfl, rfl, rfl, -, -⟩
  all_goals
    go_enter Try.func29, Try.ntmps29
    go_wp2_with (go_at_call 28; refine (HS.out _).mono ?_; rintro e w' ⟨rfl, rfl⟩)
    go_ret
    exact ⟨rfl, rfl⟩
theorem size13_any {f w h n : Int} {c r : Nat} (H : Fm f w h n c r) (W : World) :
    Calls Try.prog 8 #[.int .i64 f] W fun e W' => e = .returned (.tuple #[.int .i64 w, .int .i64 h, .int .i64 n, .int .i64 0]) ∧ W = W' := by
  have HK := Lib.hid (fun W => fknown_any H W)
  have HS := Lib.hid (fun W => fsize_any H W)
  have HB := Lib.hid (fun W => fbytes_any H W)
  clear H
  go_enter Try.func8, Try.ntmps8
  go_wp2_with (first | (go_at_call 27; refine (HK.out _).mono ?_; rintro e w' ⟨rfl, rfl⟩) | (go_at_call 28; refine (HS.out _).mono ?_; rintro e w' ⟨rfl, rfl⟩) | (go_at_call 29; refine (HB.out _).mono ?_; rintro e w' ⟨rfl, rfl⟩))
  try simp only [Exit.inBlock, Exit.then]
  refine bodyPost_ret (results_tmp4 rfl _ _ _) rfl ?_
  exact ⟨rfl, rfl⟩
theorem size13_none {f : Int} (h0 : (f == 0) = false) (h1 : (f == 1) = false) (W : World) :
    Calls Try.prog 8 #[.int .i64 f] W fun e W' => e = .returned (.tuple #[.int .i64 0, .int .i64 0, .int .i64 0, .int .i64 3]) ∧ W = W' := by
  have HK := Lib.hid (fun W => fknown_none h0 h1 W)
  clear h0 h1
  go_enter Try.func8, Try.ntmps8
  go_wp2_with (go_at_call 27; refine (HK.out _).mono ?_; rintro e w' ⟨rfl, rfl⟩)
  try simp only [Exit.inBlock, Exit.then]
  refine bodyPost_ret (results_tmp4 rfl _ _ _) rfl ?_
  exact ⟨rfl, rfl⟩

/-! ### the funcs that are ranged over -/
theorem fgroups_in (F : Fence) (n : Nat) (hf : F.fn 30) (hro : F.round = none) (f : Int) (w : World) :
    CallsIn F n Try.prog 30 #[.int .i64 f] w fun e w' => e = .returned (.func (.func 37) #[] #[.pointer (some ⟨w.heap.size, 0, none⟩)]) ∧ w' = w.alloc (.cells #[.int .i64 f] 47) := by
  refine callsIn_of_wp Try.func30 rfl hf ?_ hro
  simp only [Try.ntmps30, List.size_toArray, List.length_cons, List.length_nil, Nat.reduceAdd, Nat.reduceSub, Array.replicate_succ, Array.replicate_zero, List.push_toArray, List.append_toArray, List.nil_append, List.cons_append]
  gi_wp2
  go_ret
  exact ⟨rfl, rfl⟩
theorem fblocks_in (F : Fence) (n : Nat) (hf : F.fn 33) (hro : F.round = none) (f : Int) (w : World) :
    CallsIn F n Try.prog 33 #[.int .i64 f] w fun e w' => e = .returned (.func (.func 39) #[] #[.pointer (some ⟨w.heap.size, 0, none⟩)]) ∧ w' = w.alloc (.cells #[.int .i64 f] 47) := by
  refine callsIn_of_wp Try.func33 rfl hf ?_ hro
  simp only [Try.ntmps33, List.size_toArray, List.length_cons, List.length_nil, Nat.reduceAdd, Nat.reduceSub, Array.replicate_succ, Array.replicate_zero, List.push_toArray, List.append_toArray, List.nil_append, List.cons_append]
  gi_wp2
  go_ret
  exact ⟨rfl, rfl⟩
theorem fmacros_in (F : Fence) (n : Nat) (hf : F.fn 32) (hro : F.round = none) (g x y : Int) (w : World) :
    CallsIn F n Try.prog 32 #[.agg #[.int .i64 g, .int .i64 x, .int .i64 y]] w fun e w' => e = .returned (.func (.func 38) #[] #[.pointer (some ⟨w.heap.size, 0, none⟩)]) ∧ w' = w.alloc (.cells #[.int .i64 g, .int .i64 x, .int .i64 y] 57) := by
  refine callsIn_of_wp Try.func32 rfl hf ?_ hro
  simp only [Try.ntmps32, List.size_toArray, List.length_cons, List.length_nil, Nat.reduceAdd, Nat.reduceSub, Array.replicate_succ, Array.replicate_zero, List.push_toArray, List.append_toArray, List.nil_append, List.cons_append]
  gi_wp2
  go_ret
  exact ⟨rfl, rfl⟩

end Go.Proofs.Ytidllgcdbohocaa
