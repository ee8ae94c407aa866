/- frame: what it answers, plainly; its small functions. frame: the funcs that hand over groups and macroblocks. frame: the func that hands over all blocks: a range over a func in a range over a func. -/
import Derived.Test.YtenplmmongphoaaZArr
import Derived.Test.YtenplmmongphoaaSeqN
import Derived.Sort.LoopGhostIn
import Derived.Test.YtenplmmongphoaaSeqM
/- frame: what it answers, plainly; its small functions. -/
namespace Go.Proofs.Ytenplmmongphoaa
open Go.RowKit Go.Shelf Go.Sort
set_option linter.unusedVariables false
attribute [local go_sem] Oper.semAt_some

theorem results_tmp4 {fn : Func} {t u v x : Tmp} (h : fn.results = #[.tmp t, .tmp u, .tmp v, .tmp x]) (tmps : Array Value) (P : Program) (w : World) :
    (results fn tmps).run P w = .ok (.tuple #[tmps.getD t undef, tmps.getD u undef, tmps.getD v undef, tmps.getD x undef]) w := by
  simp [results, h, go_sem]
/-- a format: its number, its width and height, how many bytes it has, how many columns and rows of groups -/
def Fm (f w h n : Int) (c r : Nat) : Prop := (f = 0 ∧ w = 176 ∧ h = 144 ∧ n = 38016 ∧ c = 1 ∧ r = 3) ∨ (f = 1 ∧ w = 352 ∧ h = 288 ∧ n = 152064 ∧ c = 2 ∧ r = 6)

theorem Fm.c {f w h n : Int} {c r : Nat} (H : Fm f w h n c r) : c = 1 ∨ c = 2 := by rcases H with ⟨-, -, -, -, rfl, -⟩ | ⟨-, -, -, -, rfl, -⟩ <;> simp
theorem Fm.cr {f w h n : Int} {c r : Nat} (H : Fm f w h n c r) : c * r ≤ 12 := by rcases H with ⟨-, -, -, -, rfl, rfl⟩ | ⟨-, -, -, -, rfl, rfl⟩ <;> simp

theorem fknown_any {f w h n : Int} {c r : Nat} (H : Fm f w h n c r) (W : World) :
    Calls Try.prog 61 #[.int .i64 f] W fun e W' => e = .returned (.tuple #[.int .i64 f, .int .i64 0]) ∧ W = W' := by
  rcases H with ⟨rfl, -, -, -, -, -⟩ | ⟨rfl, -, -, -, -, -⟩
  all_goals
    go_enter Try.func61, Try.ntmps61
    go_wp2
    go_ret2
    exact ⟨rfl, rfl⟩
theorem fknown_none {f : Int} (h0 : (f == 0) = false) (h1 : (f == 1) = false) (W : World) :
    Calls Try.prog 61 #[.int .i64 f] W fun e W' => e = .returned (.tuple #[.int .i64 0, .int .i64 3]) ∧ W = W' := by
  go_enter Try.func61, Try.ntmps61
  go_wp2
  go_ret2
  exact ⟨rfl, rfl⟩
theorem fsize_any {f w h n : Int} {c r : Nat} (H : Fm f w h n c r) (W : World) :
    Calls Try.prog 62 #[.int .i64 f] W fun e W' => e = .returned (.tuple #[.int .i64 w, .int .i64 h]) ∧ W = W' := by
  rcases H with ⟨rfl, rfl, rfl, -, -, -⟩ | ⟨rfl, rfl, rfl, -, -, -⟩
  all_goals
    go_enter Try.func62, Try.ntmps62
    go_wp2
    go_ret2
    exact ⟨rfl, rfl⟩
theorem fbytes_any {f w h n : Int} {c r : Nat} (H : Fm f w h n c r) (W : World) :
    Calls Try.prog 63 #[.int .i64 f] W fun e W' => e = .returned (.int .i64 n) ∧ W = W' := by
  have HS := Lib.hid (fun W => fsize_any H W)
  rcases H with ⟨rfl, rfl, rfl, rfl, -, -⟩ | ⟨rfl, rfl, rfl, rfl, -, -⟩
  all_goals
    go_enter Try.func63, Try.ntmps63
    go_wp2_with (go_at_call 62; refine (HS.out _).mono ?_; rintro e w' ⟨rfl, rfl⟩)
    go_ret
    exact ⟨rfl, rfl⟩
theorem size13_any {f w h n : Int} {c r : Nat} (H : Fm f w h n c r) (W : World) :
    Calls Try.prog 48 #[.int .i64 f] W fun e W' => e = .returned (.tuple #[.int .i64 w, .int .i64 h, .int .i64 n, .int .i64 0]) ∧ W = W' := by
  have HK := Lib.hid (fun W => fknown_any H W)
  have HS := Lib.hid (fun W => fsize_any H W)
  have HB := Lib.hid (fun W => fbytes_any H W)
  clear H
  go_enter Try.func48, Try.ntmps48
  go_wp2_with (first | (go_at_call 61; refine (HK.out _).mono ?_; rintro e w' ⟨rfl, rfl⟩) | (go_at_call 62; refine (HS.out _).mono ?_; rintro e w' ⟨rfl, rfl⟩) | (go_at_call 63; refine (HB.out _).mono ?_; rintro e w' ⟨rfl, rfl⟩))
  try simp only [Exit.inBlock, Exit.then]
  refine bodyPost_ret (results_tmp4 rfl _ _ _) rfl ?_
  exact ⟨rfl, rfl⟩
theorem size13_none {f : Int} (h0 : (f == 0) = false) (h1 : (f == 1) = false) (W : World) :
    Calls Try.prog 48 #[.int .i64 f] W fun e W' => e = .returned (.tuple #[.int .i64 0, .int .i64 0, .int .i64 0, .int .i64 3]) ∧ W = W' := by
  have HK := Lib.hid (fun W => fknown_none h0 h1 W)
  clear h0 h1
  go_enter Try.func48, Try.ntmps48
  go_wp2_with (go_at_call 61; refine (HK.out _).mono ?_; rintro e w' ⟨rfl, rfl⟩)
  try simp only [Exit.inBlock, Exit.then]
  refine bodyPost_ret (results_tmp4 rfl _ _ _) rfl ?_
  exact ⟨rfl, rfl⟩

/-! ### the funcs that are ranged over -/
theorem fgroups_in (F : Fence) (n : Nat) (hf : F.fn 81) (hro : F.round = none) (f : Int) (w : World) :
    CallsIn F n Try.prog 81 #[.int .i64 f] w fun e w' => e = .returned (.func (.func 88) #[] #[.pointer (some ⟨w.heap.size, 0, none⟩)]) ∧ w' = w.alloc (.cells #[.int .i64 f] 94) := by
  refine callsIn_of_wp Try.func81 rfl hf ?_ hro
  simp only [Try.ntmps81, List.size_toArray, List.length_cons, List.length_nil, Nat.reduceAdd, Nat.reduceSub, Array.replicate_succ, Array.replicate_zero, List.push_toArray, List.append_toArray, List.nil_append, List.cons_append]
  gi_wp2
  go_ret
  exact ⟨rfl, rfl⟩
theorem fblocks_in (F : Fence) (n : Nat) (hf : F.fn 68) (hro : F.round = none) (f : Int) (w : World) :
    CallsIn F n Try.prog 68 #[.int .i64 f] w fun e w' => e = .returned (.func (.func 83) #[] #[.pointer (some ⟨w.heap.size, 0, none⟩)]) ∧ w' = w.alloc (.cells #[.int .i64 f] 94) := by
  refine callsIn_of_wp Try.func68 rfl hf ?_ hro
  simp only [Try.ntmps68, List.size_toArray, List.length_cons, List.length_nil, Nat.reduceAdd, Nat.reduceSub, Array.replicate_succ, Array.replicate_zero, List.push_toArray, List.append_toArray, List.nil_append, List.cons_append]
  gi_wp2
  go_ret
  exact ⟨rfl, rfl⟩
theorem fmacros_in (F : Fence) (n : Nat) (hf : F.fn 67) (hro : F.round = none) (g x y : Int) (w : World) :
    CallsIn F n Try.prog 67 #[.agg #[.int .i64 g, .int .i64 x, .int .i64 y]] w fun e w' => e = .returned (.func (.func 82) #[] #[.pointer (some ⟨w.heap.size, 0, none⟩)]) ∧ w' = w.alloc (.cells #[.int .i64 g, .int .i64 x, .int .i64 y] 102) := by
  refine callsIn_of_wp Try.func67 rfl hf ?_ hro
  simp only [Try.ntmps67, List.size_toArray, List.length_cons, List.length_nil, Nat.reduceAdd, Nat.reduceSub, Array.replicate_succ, Array.replicate_zero, List.push_toArray, List.append_toArray, List.nil_append, List.cons_append]
  gi_wp2
  go_ret
  exact ⟨rfl, rfl⟩

end Go.Proofs.Ytenplmmongphoaa

/- frame: the funcs that hand over groups and macroblocks. -/
namespace Go.Proofs.Ytenplmmongphoaa
open Go.RowKit Go.Shelf Go.Sort
set_option linter.unusedVariables false
attribute [local go_sem] Oper.semAt_some

/-- group k of a format with c columns: its number, and where it stands -/
def gpN (c k : Nat) : Nat := 2 * (k / c) + k % c + 1
def gpX (c k : Nat) : Nat := 176 * (k % c)
def gpY (c k : Nat) : Nat := 48 * (k / c)
abbrev encG (c k : Nat) : Array Value := #[.agg #[.int .i64 (gpN c k : Nat), .int .i64 (gpX c k : Nat), .int .i64 (gpY c k : Nat)]]
theorem encG_at {c s k : Nat} (hk : k < c) : encG c (c * s + k) = #[.agg #[.int .i64 (2 * (s : Int) + (k : Int) + 1), .int .i64 (176 * (k : Int)), .int .i64 (48 * (s : Int))]] := by
  have h1 : (c * s + k) / c = s := by rw [Nat.mul_add_div (by omega), Nat.div_eq_of_lt hk, Nat.add_zero]
  have h2 : (c * s + k) % c = k := by rw [Nat.mul_add_mod, Nat.mod_eq_of_lt hk]
  unfold encG gpN gpX gpY
  rw [h1, h2]
  simp

set_option maxRecDepth 100000 in
set_option maxHeartbeats 4000000 in
theorem fgroups1_in {f w h nn : Int} {c r : Nat} (H : Fm f w h nn c r) (n : Nat) (hn : 1 ≤ n) (l bb : Nat) (J Jx : Nat → World → Prop) (W : World)
    (hJ : ∀ s A o, J s A → J s (A.alloc o))
    (hY : ∀ x W1, J x W1 → x < c * r → YieldAt Fence.wide (n - 1) Try.prog l (encG c x) W1 fun e W' => (e = .returned (.bool true) ∧ J (x + 1) W') ∨ (e = .returned (.bool false) ∧ Jx x W'))
    (hbb : W.cell? ⟨bb, 0, none⟩ = some (.int .i64 f)) (h0 : J 0 W) :
    CallsIn Fence.wide n Try.prog 88 #[.func (.yield l) #[] #[], .pointer (some ⟨bb, 0, none⟩)] W fun e W' => (∃ v, e = .returned v) ∧
      (J (c * r) W' ∨ (∃ k, k < c * r ∧ Jx k W')) := by
  have HS := Lib.hid (fun W => fsize_any H W)
  have HJ := Lib.hid hJ
  have HY := Lib.hid hY
  clear hJ hY
  rcases H with ⟨rfl, rfl, rfl, rfl, rfl, rfl⟩ | ⟨rfl, rfl, rfl, rfl, rfl, rfl⟩
  case inl =>
    refine callsIn_of_wp Try.func88 rfl trivial ?_ rfl
    simp only [Try.ntmps88, List.size_toArray, List.length_cons, List.length_nil, Nat.reduceAdd, Nat.reduceSub, Array.replicate_succ, Array.replicate_zero, List.push_toArray, List.append_toArray, List.nil_append, List.cons_append]
    gi_wp2_with (refine ⟨trivial, ?_⟩; gi_at_call 62; refine (callsIn_wide.2 (HS.out _)).mono ?_; rintro e w' ⟨rfl, rfl⟩)
    gi_loopw [15] (fun p wr => ∃ s : Nat, s ≤ 3 ∧ p = .int .i64 (s : Int) ∧ J (1 * s) wr) (fun p _ => 3 - (intOf p).toNat)
    case atStart => exact ⟨0, by omega, rfl, h0⟩
    case round =>
      obtain ⟨s, hs, rfl, hJs⟩ := hrel
      have HJs := Lib.hid hJs
      clear hJs
      by_cases hs2 : s < 3
      · have hs3 : (s : Int) < 3 := by omega
        gi_wp2
        gi_loopg [20] (1) (fun gh y wy => ∃ k : Nat, k + gh = 1 ∧ y = .int .i64 (k : Int) ∧ J (1 * s + k) wy)
        case atStart => exact ⟨0, by omega, rfl, HJs.out⟩
        case round =>
          obtain ⟨k, hkg, rfl, hJk⟩ := hrel
          cases gk with
          | zero =>
            obtain rfl : k = 1 := by omega
            have HJk := Lib.hid hJk
            clear hJk
            gi_wp2
            exact ⟨⟨s + 1, by omega, by go_num, HJk.out⟩, by simp [intOf]; omega⟩
          | succ gh =>
            have hk2 : (k : Int) < 1 := by omega
            obtain ⟨fn, tmps, assign, body, hy, hR⟩ := HY.out (1 * s + k) _ (HJ.out _ _ (.cells #[.int .i64 (2 * (s : Int) + (k : Int) + 1), .int .i64 (176 * (k : Int)), .int .i64 (48 * (s : Int))] 102 (0, 0)) hJk) (by omega)
            rw [encG_at (by omega)] at hy
            have HE := Lib.hid (show k + 1 + gh = 1 by omega)
            clear hJk hkg
            gi_wp2
            refine hR.mono ?_
            rintro e W3 (⟨rfl, hJ3⟩ | ⟨rfl, hJx3⟩)
            · have HJ3 := Lib.hid hJ3
              clear hJ3 hR hy
              gi_wp2
              gi_roundg gh
              case measure => omega
              case rel => exact ⟨k + 1, HE.out, by go_num, HJ3.out⟩
            · have HJx3 := Lib.hid hJx3
              clear hJx3 hR hy
              gi_wp2
              try rw [Exit.noGoto_ret]
              refine bodyPost_ret (results_none rfl _ _ _) rfl ?_
              exact ⟨⟨_, rfl⟩, .inr ⟨1 * s + k, by omega, HJx3.out⟩⟩
      · obtain rfl : s = 3 := by omega
        gi_wp2
        go_end0
        exact ⟨⟨_, rfl⟩, .inl HJs.out⟩
  case inr =>
    refine callsIn_of_wp Try.func88 rfl trivial ?_ rfl
    simp only [Try.ntmps88, List.size_toArray, List.length_cons, List.length_nil, Nat.reduceAdd, Nat.reduceSub, Array.replicate_succ, Array.replicate_zero, List.push_toArray, List.append_toArray, List.nil_append, List.cons_append]
    gi_wp2_with (refine ⟨trivial, ?_⟩; gi_at_call 62; refine (callsIn_wide.2 (HS.out _)).mono ?_; rintro e w' ⟨rfl, rfl⟩)
    gi_loopw [15] (fun p wr => ∃ s : Nat, s ≤ 6 ∧ p = .int .i64 (s : Int) ∧ J (2 * s) wr) (fun p _ => 6 - (intOf p).toNat)
    case atStart => exact ⟨0, by omega, rfl, h0⟩
    case round =>
      obtain ⟨s, hs, rfl, hJs⟩ := hrel
      have HJs := Lib.hid hJs
      clear hJs
      by_cases hs2 : s < 6
      · have hs3 : (s : Int) < 6 := by omega
        gi_wp2
        gi_loopg [20] (2) (fun gh y wy => ∃ k : Nat, k + gh = 2 ∧ y = .int .i64 (k : Int) ∧ J (2 * s + k) wy)
        case atStart => exact ⟨0, by omega, rfl, HJs.out⟩
        case round =>
          obtain ⟨k, hkg, rfl, hJk⟩ := hrel
          cases gk with
          | zero =>
            obtain rfl : k = 2 := by omega
            have HJk := Lib.hid hJk
            clear hJk
            gi_wp2
            exact ⟨⟨s + 1, by omega, by go_num, HJk.out⟩, by simp [intOf]; omega⟩
          | succ gh =>
            have hk2 : (k : Int) < 2 := by omega
            obtain ⟨fn, tmps, assign, body, hy, hR⟩ := HY.out (2 * s + k) _ (HJ.out _ _ (.cells #[.int .i64 (2 * (s : Int) + (k : Int) + 1), .int .i64 (176 * (k : Int)), .int .i64 (48 * (s : Int))] 102 (0, 0)) hJk) (by omega)
            rw [encG_at (by omega)] at hy
            have HE := Lib.hid (show k + 1 + gh = 2 by omega)
            clear hJk hkg
            gi_wp2
            refine hR.mono ?_
            rintro e W3 (⟨rfl, hJ3⟩ | ⟨rfl, hJx3⟩)
            · have HJ3 := Lib.hid hJ3
              clear hJ3 hR hy
              gi_wp2
              gi_roundg gh
              case measure => omega
              case rel => exact ⟨k + 1, HE.out, by go_num, HJ3.out⟩
            · have HJx3 := Lib.hid hJx3
              clear hJx3 hR hy
              gi_wp2
              try rw [Exit.noGoto_ret]
              refine bodyPost_ret (results_none rfl _ _ _) rfl ?_
              exact ⟨⟨_, rfl⟩, .inr ⟨2 * s + k, by omega, HJx3.out⟩⟩
      · obtain rfl : s = 6 := by omega
        gi_wp2
        go_end0
        exact ⟨⟨_, rfl⟩, .inl HJs.out⟩

theorem fgroups_T {f w h nn : Int} {c r : Nat} (H : Fm f w h nn c r) (n : Nat) (hn : 1 ≤ n) (bb : Nat) (Kp : World → World → Prop) (w0 : World) (hbs : bb < w0.heap.size) (hbb : w0.cell? ⟨bb, 0, none⟩ = some (.int .i64 f)) :
    SeqT Fence.wide n Try.prog 88 #[.pointer (some ⟨bb, 0, none⟩)] (encG c) Kp (c * r) w0 := fun l J Jx W hW hJ hJx hY h0 =>
  (fgroups1_in H n hn l bb (fun s A => J s A ∧ W.heap.size ≤ A.heap.size) Jx W (fun s A o h => ⟨hJ _ _ _ h.1 ((Below.refl _ A).alloc h.2 _), by simp; omega⟩)
    (fun x W1 h hx => (hY x W1 h.1 h.2 hx).mono fun e W' ⟨hk, h'⟩ => h'.imp (fun ⟨a, b, _⟩ => ⟨a, b, Nat.le_trans h.2 hk.1⟩) id)
    ((hW.cell (p := ⟨bb, 0, none⟩) hbs).trans hbb) ⟨h0, Nat.le_refl _⟩).mono fun e W' ⟨h1, h2⟩ => ⟨h1, h2.imp (fun h => h.1) id⟩
/-- where rows that the rounds lay must be kept: this func only lays memory -/
theorem fgroups_M {f w h nn : Int} {c r : Nat} (H : Fm f w h nn c r) (n : Nat) (hn : 1 ≤ n) (bb : Nat) (Kp : World → World → Prop) (w0 : World) (hbs : bb < w0.heap.size) (hbb : w0.cell? ⟨bb, 0, none⟩ = some (.int .i64 f)) :
    SeqM Fence.wide n Try.prog 88 #[.pointer (some ⟨bb, 0, none⟩)] (encG c) (fun _ => False) Kp (fun x _ => x ≤ c * r) (fun x => x < c * r) (fun _ => True) w0 := fun l J Jx W hW hJ hJx hY h0 =>
  (fgroups1_in H n hn l bb (fun s A => J s A ∧ s ≤ c * r) Jx W (fun s A o h => ⟨hJ _ _ _ h.1 ((Bar.refl _ A).alloc _), h.2⟩)
    (fun x W1 h hx => (hY x W1 h.1 h.2 hx).mono fun e W' h' => h'.imp (fun ⟨a, _, b, _⟩ => ⟨a, b, hx⟩) id)
    ((hW.cell (p := ⟨bb, 0, none⟩) hbs).trans hbb) ⟨h0, Nat.zero_le _⟩).mono fun e W' ⟨h1, h2⟩ => ⟨h1, h2.imp (fun h => ⟨_, Nat.lt_irrefl _, h⟩) id⟩

/-- macroblock i of a group that stands at x, y -/
abbrev encM (g x y : Int) (i : Nat) : Array Value := #[.agg #[.int .i64 g, .int .i64 ((i : Int) + 1), .int .i64 (x + 16 * ((i : Int) % 11)), .int .i64 (y + 16 * ((i : Int) / 11))]]

set_option maxRecDepth 100000 in
set_option maxHeartbeats 4000000 in
theorem fmacros1_in (g x y : Int) (hx0 : 0 ≤ x) (hx : x ≤ 1000) (hy0 : 0 ≤ y) (hy : y ≤ 1000) (n : Nat) (hn : 1 ≤ n) (l bb : Nat) (Kp : World → World → Prop) (J Jx : Nat → World → Prop) (W : World) (hbs : bb < W.heap.size)
    (hK : ∀ A B, Kp A B → B.heap[bb]? = A.heap[bb]?)
    (hY : ∀ x' W1, J x' W1 → W.heap.size ≤ W1.heap.size → x' < 33 → YieldAt Fence.wide (n - 1) Try.prog l (encM g x y x') W1 fun e W' =>
      KeepsHi W.heap.size W1 W' ∧ ((e = .returned (.bool true) ∧ J (x' + 1) W' ∧ Kp W1 W') ∨ (e = .returned (.bool false) ∧ Jx x' W')))
    (hbb : ∃ t, W.heap[bb]? = some (.cells #[.int .i64 g, .int .i64 x, .int .i64 y] t (0, 0))) (h0 : J 0 W) :
    CallsIn Fence.wide n Try.prog 82 #[.func (.yield l) #[] #[], .pointer (some ⟨bb, 0, none⟩)] W fun e W' => (∃ v, e = .returned v) ∧
      (J 33 W' ∨ (∃ k, k < 33 ∧ Jx k W')) := by
  have HY := Lib.hid hY
  have HK := Lib.hid hK
  obtain ⟨t, hbb⟩ := hbb
  have HB := Lib.hid hbb
  clear hY hK hbb
  refine callsIn_of_wp Try.func82 rfl trivial ?_ rfl
  simp only [Try.ntmps82, List.size_toArray, List.length_cons, List.length_nil, Nat.reduceAdd, Nat.reduceSub, Array.replicate_succ, Array.replicate_zero, List.push_toArray, List.append_toArray, List.nil_append, List.cons_append]
  gi_wp2
  gi_loopw [6] (fun p wr => ∃ s : Nat, s ≤ 33 ∧ p = .int .i64 (s : Int) ∧ J s wr ∧ W.heap.size ≤ wr.heap.size ∧ wr.heap[bb]? = W.heap[bb]?) (fun p _ => 33 - (intOf p).toNat)
  case atStart => exact ⟨0, by omega, rfl, h0, Nat.le_refl _, rfl⟩
  case round =>
    obtain ⟨s, hs, rfl, hJs, hz, hkb⟩ := hrel
    have HJs := Lib.hid hJs
    clear hJs
    by_cases hs2 : s < 33
    · have hs3 : (s : Int) < 33 := by omega
      have hcell := hkb.trans HB.out
      obtain ⟨fn, tmps, assign, body, hyy, hR⟩ := HY.out s _ HJs.out hz hs2
      have c0 : wr.cell? ⟨bb, 0, none⟩ = some (.int .i64 g) := by simp [World.cell?, hcell]
      have c1 : wr.cell? ⟨bb, 1, none⟩ = some (.int .i64 x) := by simp [World.cell?, hcell]
      have c2 : wr.cell? ⟨bb, 2, none⟩ = some (.int .i64 y) := by simp [World.cell?, hcell]
      have HKb := Lib.hid hkb
      clear hcell hkb
      gi_wp2
      refine hR.mono ?_
      rintro e W3 ⟨hk, ⟨rfl, hJ3, hk3⟩ | ⟨rfl, hJx3⟩⟩
      · have hz3 := hk.1
        have HJ3 := Lib.hid hJ3
        have HKp := Lib.hid ((HK.out _ _ hk3).trans HKb.out)
        clear hk hk3 hJ3 hR hyy c0 c1 c2
        gi_wp2
        go_roundw
        case rel => exact ⟨s + 1, by omega, by go_num, HJ3.out, by omega, HKp.out⟩
        case measure => simp [intOf]; omega
      · have HJx3 := Lib.hid hJx3
        clear hk hJx3 hR hyy c0 c1 c2
        gi_wp2
        refine bodyPost_ret (results_none rfl _ _ _) rfl ?_
        exact ⟨⟨_, rfl⟩, .inr ⟨s, by omega, HJx3.out⟩⟩
    · obtain rfl : s = 33 := by omega
      gi_wp2
      go_end0
      exact ⟨⟨_, rfl⟩, .inl HJs.out⟩

theorem fmacros_T (g x y : Int) (hx0 : 0 ≤ x) (hx : x ≤ 1000) (hy0 : 0 ≤ y) (hy : y ≤ 1000) (n : Nat) (hn : 1 ≤ n) (bb : Nat) (Kp : World → World → Prop) (hK : ∀ A B, Kp A B → B.heap[bb]? = A.heap[bb]?) (w0 : World) (hbb : ∃ t, w0.heap[bb]? = some (.cells #[.int .i64 g, .int .i64 x, .int .i64 y] t (0, 0))) :
    SeqT Fence.wide n Try.prog 82 #[.pointer (some ⟨bb, 0, none⟩)] (encM g x y) Kp 33 w0 := fun l J Jx W hW hJ hJx hY h0 => by
  obtain ⟨t, hbb⟩ := hbb
  have hbs := (Array.getElem?_eq_some_iff.1 hbb).1
  exact fmacros1_in g x y hx0 hx hy0 hy n hn l bb Kp J Jx W (Nat.lt_of_lt_of_le hbs hW.size) hK hY ⟨t, (hW.block _ hbs).trans hbb⟩ h0

end Go.Proofs.Ytenplmmongphoaa

/- frame: the func that hands over all blocks: a range over a func in a range over a func. -/
namespace Go.Proofs.Ytenplmmongphoaa
open Go.RowKit Go.Shelf Go.Sort
set_option linter.unusedVariables false
attribute [local go_sem] Oper.semAt_some

theorem SeqT.inRound {F : Fence} {n : Nat} {P : Program} {g : Nat} {lb : Array Value} {encs : Nat → Array Value} {Kp : World → World → Prop} {N : Nat} {w : World} (l : Nat)
    (h : SeqT F n P g lb encs Kp N w) : SeqT (F.inRound l) n P g lb encs Kp N w := h
theorem KeepsHi.mid {B B' m : Nat} {W W' : World} (h : KeepsHi B W W') (hB : B ≤ B') (hm : m ≤ W.heap.size) : KeepsMid B' m W W' := ⟨h.1, fun k h1 h2 => h.2 k (by omega) (by omega)⟩
theorem KeepsMid.trans {B m : Nat} {X Y Z : World} (h : KeepsMid B m X Y) (k : KeepsMid B m Y Z) : KeepsMid B m X Z := ⟨Nat.le_trans h.1 k.1, fun i a b => (k.2 i a b).trans (h.2 i a b)⟩

/-- what the func of all blocks hands over, one after another -/
abbrev encBk (c x : Nat) : Array Value := #[.agg #[.int .i64 (gpN c (x / 198) : Nat), .int .i64 ((x % 198 / 6 + 1 : Nat) : Int), .int .i64 ((gpX c (x / 198) + 16 * (x % 198 / 6 % 11) : Nat) : Int), .int .i64 ((gpY c (x / 198) + 16 * (x % 198 / 6 / 11) : Nat) : Int), .int .i64 ((x % 6 + 1 : Nat) : Int)]]
theorem encB_at {c k m i : Nat} (hm : m < 33) (hi : i < 6) : encBk c (198 * k + 6 * m + i) = #[.agg #[.int .i64 (gpN c k : Nat), .int .i64 ((m : Int) + 1), .int .i64 ((gpX c k : Nat) + 16 * ((m : Int) % 11)), .int .i64 ((gpY c k : Nat) + 16 * ((m : Int) / 11)), .int .i64 ((i : Int) + 1)]] := by
  unfold encBk
  rw [show (198 * k + 6 * m + i) / 198 = k by omega, show (198 * k + 6 * m + i) % 198 / 6 = m by omega, show (198 * k + 6 * m + i) % 6 = i by omega]
  simp
theorem gX_le {c k : Nat} (hc : c = 1 ∨ c = 2) : gpX c k ≤ 1000 := by
  unfold gpX
  have := Nat.mod_lt k (show 0 < c by omega)
  omega
theorem gY_le {c k : Nat} (hc : c = 1 ∨ c = 2) (hk : k < 12) : gpY c k ≤ 1000 := by
  unfold gpY
  have := Nat.div_le_self k c
  omega

set_option maxRecDepth 100000 in
set_option maxHeartbeats 4000000 in
theorem fblocks1_in {f w h nn : Int} {c r : Nat} (H : Fm f w h nn c r) (n : Nat) (hn : 12 ≤ n) (l bb : Nat) (Kp : World → World → Prop) (J Jx : Nat → World → Prop) (W : World) (hbs : bb < W.heap.size)
    (hJ : ∀ s A B, J s A → Below W.heap.size A B → J s B) (hJx : ∀ s A B, Jx s A → Below W.heap.size A B → Jx s B)
    (hY : ∀ x W1, J x W1 → W.heap.size ≤ W1.heap.size → x < 198 * (c * r) → YieldAt Fence.wide (n - 1) Try.prog l (encBk c x) W1 fun e W' =>
      KeepsHi W.heap.size W1 W' ∧ ((e = .returned (.bool true) ∧ J (x + 1) W' ∧ Kp W1 W') ∨ (e = .returned (.bool false) ∧ Jx x W')))
    (hbb : W.cell? ⟨bb, 0, none⟩ = some (.int .i64 f)) (h0 : J 0 W) :
    CallsIn Fence.wide n Try.prog 83 #[.func (.yield l) #[] #[], .pointer (some ⟨bb, 0, none⟩)] W fun e W' => (∃ v, e = .returned v) ∧
      (J (198 * (c * r)) W' ∨ (∃ k, k < 198 * (c * r) ∧ Jx k W')) := by
  have hn1 : 1 ≤ n := by omega
  have hn2 : 1 ≤ n - 1 := by omega
  have hn3 : 1 ≤ n - 1 - 1 := by omega
  have hn4 : 1 ≤ n - 1 - 1 - 1 := by omega
  have HJ := Lib.hid hJ
  have HJx := Lib.hid hJx
  have HY := Lib.hid hY
  have HG := Lib.hid (fun w => fgroups_in Fence.wide (n - 1) trivial rfl f w)
  have hcr := H.cr
  have HC := Lib.hid H.c
  have HT := Lib.hid (fun (n : Nat) (hn : 1 ≤ n) (bb : Nat) (Kp : World → World → Prop) (w0 : World) => fgroups_T H n hn bb Kp w0)
  clear hJ hJx hY H
  generalize hcN : c * r = N at *
  refine callsIn_of_wp_marks Try.func83 rfl trivial ?_ rfl
  simp only [Try.ntmps83, List.size_toArray, List.length_cons, List.length_nil, Nat.reduceAdd, Nat.reduceSub, Array.replicate_succ, Array.replicate_zero, List.push_toArray, List.append_toArray, List.nil_append, List.cons_append]
  gi_wp2_with (refine ⟨trivial, ?_⟩; gi_at_call 81; refine (HG.out _).mono ?_; rintro e w' ⟨rfl, rfl⟩)
  have hw1 : ((W.alloc (Obj.cells #[Value.func (Fn.yield l) #[] #[]] 136)).alloc (Obj.cells #[Value.int IntKind.i64 f] 94)).heap.size = W.heap.size + 2 := by simp
  have hb1 : Below W.heap.size W ((W.alloc (Obj.cells #[Value.func (Fn.yield l) #[] #[]] 136)).alloc (Obj.cells #[Value.int IntKind.i64 f] 94)) := ((Below.refl _ W).alloc (Nat.le_refl _) _).alloc (by simp) _
  have hyb : ∃ t, ((W.alloc (Obj.cells #[Value.func (Fn.yield l) #[] #[]] 136)).alloc (Obj.cells #[Value.int IntKind.i64 f] 94)).heap[W.heap.size]? = some (.cells #[.func (.yield l) #[] #[]] t (0, 0)) := ⟨_, heap_keep (heap_new _ rfl _) _⟩
  have hfb := World.alloc_heap_new (W.alloc (Obj.cells #[Value.func (Fn.yield l) #[] #[]] 136)) (Obj.cells #[Value.int IntKind.i64 f] 94)
  have hfz : (W.alloc (Obj.cells #[Value.func (Fn.yield l) #[] #[]] 136)).heap.size = W.heap.size + 1 := by simp
  rw [hfz] at hfb
  generalize (W.alloc (Obj.cells #[Value.func (Fn.yield l) #[] #[]] 136)).alloc (Obj.cells #[Value.int IntKind.i64 f] 94) = w1 at *
  clear hfz
  refine wpIn_range_TH rfl hn1 (gf := 88) (lb := #[.pointer (some ⟨W.heap.size + 1, 0, none⟩)]) rfl trivial (enters_of Try.func88 (by kernel_rfl) rfl)
    (HT.out (n - 1) hn2 (W.heap.size + 1) (fun _ _ => True) w1 (by omega) (one_cell hfb).1) (fun _ _ => trivial) (fun _ _ _ _ => trivial) (Below.refl _ _) (fun _ => rfl)
    (fun k Wx => J (198 * k) Wx ∧ ∃ t, Wx.heap[W.heap.size]? = some (.cells #[.func (.yield l) #[] #[]] t (0, 0)))
    (fun c' k Wx => c' = .ret ∧ ∃ x, x < 198 * N ∧ Jx x Wx)
    ?hI ?hIx ?h0 ?hround ?hdone ?hstop
  case hI =>
    rintro k A B ⟨h1, t, h2⟩ hb
    exact ⟨HJ.out _ _ _ h1 (hb.mono (by omega)), t, (hb.block _ (by omega)).trans h2⟩
  case hIx =>
    rintro c' k A B ⟨h1, x, h2, h3⟩ hb
    exact ⟨h1, x, h2, HJx.out _ _ _ h3 (hb.mono (by omega))⟩
  case h0 => exact ⟨HJ.out _ _ _ h0 hb1, hyb⟩
  case hround =>
    rintro k Wx ⟨hj, tb, hbx⟩ hxz hkN
    gi_wp2
    refine ⟨KeepsHi.alloc _ _ _, trivial, fun W2 hb2 hz2 hot hlr => ?_⟩
    have hgx := gX_le (k := k) HC.out
    have hgy := gY_le (k := k) HC.out (by omega)
    have hz2' : W2.heap.size = Wx.heap.size + 1 := by rw [hz2]; simp
    have hgb : W2.heap[Wx.heap.size]? = some (.cells #[.int .i64 (gpN c k : Nat), .int .i64 (gpX c k : Nat), .int .i64 (gpY c k : Nat)] 102 (0, 0)) := by
      rw [hot _ (by omega)]; exact World.alloc_heap_new _ _
    have hyb2 : W2.heap[W.heap.size]? = some (.cells #[.func (.yield l) #[] #[]] tb (0, 0)) := by
      rw [hot _ (by omega), Below.heap_alloc _ _ _ (by omega)]; exact hbx
    have hj2 : J (198 * k) W2 := HJ.out _ _ _ hj (((Below.refl W.heap.size Wx).alloc (by omega) _).trans (hb2.mono (by omega)))
    have c0 : W2.cell? ⟨Wx.heap.size, 0, none⟩ = some (.int .i64 (gpN c k : Nat)) := by simp [World.cell?, hgb]
    have c1 : W2.cell? ⟨Wx.heap.size, 1, none⟩ = some (.int .i64 (gpX c k : Nat)) := by simp [World.cell?, hgb]
    have c2 : W2.cell? ⟨Wx.heap.size, 2, none⟩ = some (.int .i64 (gpY c k : Nat)) := by simp [World.cell?, hgb]
    clear hb2 hot hz2 hgb hj hbx
    have HEnc := Lib.hid (fun m i (hm : m < 33) (hi : i < 6) => encB_at (c := c) (k := k) hm hi)
    generalize gpN c k = g at *
    generalize gpX c k = gx at *
    generalize gpY c k = gy at *
    have HM := Lib.hid (fmacros_in Fence.wide (n - 1 - 1 - 1) trivial rfl g gx gy W2)
    gi_wp2_with (refine ⟨trivial, ?_⟩; gi_at_call 67; refine CallsIn.mono (F := Fence.wide.inRound _) HM.out ?_; rintro e w' ⟨rfl, rfl⟩)
    clear HM c0 c1 c2
    have hz3 : (W2.alloc (Obj.cells #[.int .i64 (g : Int), .int .i64 (gx : Int), .int .i64 (gy : Int)] 102 (0, 0))).heap.size = W2.heap.size + 1 := by simp
    have hmb := World.alloc_heap_new W2 (Obj.cells #[.int .i64 (g : Int), .int .i64 (gx : Int), .int .i64 (gy : Int)] 102 (0, 0))
    have hb3 := (Below.refl W2.heap.size W2).alloc (Nat.le_refl _) (Obj.cells #[.int .i64 (g : Int), .int .i64 (gx : Int), .int .i64 (gy : Int)] 102 (0, 0))
    generalize W2.alloc (Obj.cells #[.int .i64 (g : Int), .int .i64 (gx : Int), .int .i64 (gy : Int)] 102 (0, 0)) = w3 at *
    rw [hz2'] at hmb
    obtain ⟨lr, hlr⟩ := hlr
    have hlr3 := (hb3.block _ (Array.getElem?_eq_some_iff.1 hlr).1).trans hlr
    have hk23 : KeepsMid w1.heap.size Wx.heap.size W2 w3 := ⟨hb3.size, fun k a b => hb3.block _ (by omega)⟩
    have hyb3 := (hb3.block _ (by omega)).trans hyb2
    have hj3 := HJ.out _ _ _ hj2 (hb3.mono (by omega))
    clear hb3 hyb2 hj2
    refine wpIn_range_TN (F := Fence.wide.inRound (w1.heap.size + 1)) rfl hlr3 hn3 (gf := 82) (lb := #[.pointer (some ⟨Wx.heap.size + 1, 0, none⟩)]) rfl trivial (enters_of Try.func82 (by kernel_rfl) rfl)
      (SeqT.inRound _ (fmacros_T g gx gy (by omega) (by omega) (by omega) (by omega) (n - 1 - 1 - 1) hn4 (Wx.heap.size + 1) (fun A B => B.heap[Wx.heap.size + 1]? = A.heap[Wx.heap.size + 1]?) (fun A B h => h) w3 ⟨_, hmb⟩))
      (fun h k => k.trans h) (fun W' r o' h => World.putObj_heap_other (by omega)) (Below.refl _ _) (fun _ => rfl)
      (fun m Wy => J (198 * k + 6 * m) Wy ∧ Wy.heap[W.heap.size]? = some (.cells #[.func (.yield l) #[] #[]] tb (0, 0)) ∧ KeepsMid w1.heap.size Wx.heap.size W2 Wy)
      (fun c' m Wy => (c' = .ret ∧ ∃ x, x < 198 * N ∧ Jx x Wy) ∧ KeepsMid w1.heap.size Wx.heap.size W2 Wy)
      ?hI2 ?hIx2 ?h02 ?hround2 ?hdone2 ?hstop2
    case hI2 =>
      rintro m A B ⟨h1, h2, h3⟩ hb
      exact ⟨HJ.out _ _ _ h1 (hb.mono (by omega)), (hb.block _ (by omega)).trans h2, h3.trans ⟨hb.size, fun k a b => hb.block _ (by omega)⟩⟩
    case hIx2 =>
      rintro c' m A B ⟨⟨h1, x, h2, h3⟩, h4⟩ hb
      exact ⟨⟨h1, x, h2, HJx.out _ _ _ h3 (hb.mono (by omega))⟩, h4.trans ⟨hb.size, fun k a b => hb.block _ (by omega)⟩⟩
    case h02 => exact ⟨hj3, hyb3, hk23⟩
    case hround2 =>
      rintro m Wy ⟨hj, hbx, hkm⟩ hyz hm
      gi_wp2
      refine ⟨KeepsHi.alloc _ _ _, Below.heap_alloc _ _ _ (by omega), fun W4 hb4 hz4 hot4 hlr4 => ?_⟩
      have hmW : (m : Int) < 33 := by omega
      have hz4' : W4.heap.size = Wy.heap.size + 1 := by rw [hz4]; simp
      have hmb4 : W4.heap[Wy.heap.size]? = some (.cells #[.int .i64 (g : Int), .int .i64 ((m : Int) + 1), .int .i64 ((gx : Int) + 16 * ((m : Int) % 11)), .int .i64 ((gy : Int) + 16 * ((m : Int) / 11))] 109 (0, 0)) := by
        rw [hot4 _ (by omega)]; exact World.alloc_heap_new _ _
      have hyb4 : W4.heap[W.heap.size]? = some (.cells #[.func (.yield l) #[] #[]] tb (0, 0)) := by
        rw [hot4 _ (by omega), Below.heap_alloc _ _ _ (by omega)]; exact hbx
      have hgb4 : W4.heap[Wx.heap.size + 1]? = Wy.heap[Wx.heap.size + 1]? := by
        rw [hot4 _ (by omega), Below.heap_alloc _ _ _ (by omega)]
      have hj4 : J (198 * k + 6 * m) W4 := HJ.out _ _ _ hj (((Below.refl W.heap.size Wy).alloc (by omega) _).trans (hb4.mono (by omega)))
      have hk4 : KeepsMid w1.heap.size Wx.heap.size W2 W4 := hkm.trans ⟨by omega, fun i a b => by rw [hot4 _ (by omega), Below.heap_alloc _ _ _ (by omega)]⟩
      have HK4 := Lib.hid hk4
      have HM4 := Lib.hid hmb4
      have HY4 := Lib.hid hyb4
      have HG4 := Lib.hid hgb4
      have hz5 : W.heap.size ≤ W4.heap.size := by omega
      clear hb4 hz4 hot4 hlr4 hj hbx hkm hk4 hmb4 hyb4 hgb4 hmb hk23 hj3 hyb3 hlr3
      gi_wp2
      gi_loopw [12] (fun p wr => ∃ i : Nat, i ≤ 6 ∧ p = .int .i64 (i : Int) ∧ J (198 * k + 6 * m + i) wr ∧ KeepsHi W.heap.size W4 wr) (fun p _ => 6 - (intOf p).toNat)
      case atStart => exact ⟨0, by omega, rfl, hj4, KeepsHi.refl _ _⟩
      case round =>
        obtain ⟨i, hi, rfl, hJs, hkh⟩ := hrel
        have HJs := Lib.hid hJs
        have HKh := Lib.hid hkh
        clear hJs
        by_cases hi2 : i < 6
        · have hi3 : (i : Int) < 6 := by omega
          have hyr := (hkh.2 _ (Nat.le_refl _) (by omega)).trans HY4.out
          have hmr := (hkh.2 _ (show W.heap.size ≤ Wy.heap.size by omega) (by omega)).trans HM4.out
          have cy : wr.cell? ⟨W.heap.size, 0, none⟩ = some (.func (.yield l) #[] #[]) := by simp [World.cell?, hyr]
          have m0 : wr.cell? ⟨Wy.heap.size, 0, none⟩ = some (.int .i64 (g : Int)) := by simp [World.cell?, hmr]
          have m1 : wr.cell? ⟨Wy.heap.size, 1, none⟩ = some (.int .i64 ((m : Int) + 1)) := by simp [World.cell?, hmr]
          have m2 : wr.cell? ⟨Wy.heap.size, 2, none⟩ = some (.int .i64 ((gx : Int) + 16 * ((m : Int) % 11))) := by simp [World.cell?, hmr]
          have m3 : wr.cell? ⟨Wy.heap.size, 3, none⟩ = some (.int .i64 ((gy : Int) + 16 * ((m : Int) / 11))) := by simp [World.cell?, hmr]
          have hzr := hkh.1
          obtain ⟨fn, tmps, assign, body, hy, hR⟩ := yield_depth (F := Fence.wide) rfl (n - 1 - 1 - 1 - 1 - 1) (HY.out (198 * k + 6 * m + i) wr HJs.out (by omega) (by omega))
          rw [HEnc.out m i hm hi2] at hy
          clear hyr hmr hkh
          gi_wp2
          refine ⟨fun _ => by omega, hR.mono ?_⟩
          rintro e W5 ⟨hk, ⟨rfl, hJ3, hk3⟩ | ⟨rfl, hJx3⟩⟩
          · have HKK := Lib.hid (HKh.out.trans hk)
            have HJ3 := Lib.hid hJ3
            clear hk hk3 hJ3 hR hy cy m0 m1 m2 m3
            gi_wp2
            go_roundw
            case rel => exact ⟨i + 1, by omega, by go_num, HJ3.out, HKK.out⟩
            case measure => simp [intOf]; omega
          · have HKK := Lib.hid (HKh.out.trans hk)
            have HJx3 := Lib.hid hJx3
            clear hk hJx3 hR hy cy m0 m1 m2 m3
            gi_wp2
            exact ⟨HKK.out.mid (by omega) (by omega), ⟨rfl, _, by omega, HJx3.out⟩, HK4.out.trans (HKK.out.mid (by omega) (by omega))⟩
        · obtain rfl : i = 6 := by omega
          gi_wp2
          exact ⟨HKh.out.mid (by omega) (by omega), HKh.out.2 _ (by omega) (by omega), by rw [show 198 * k + 6 * (m + 1) = 198 * k + 6 * m + 6 by omega]; exact HJs.out, (HKh.out.2 _ (Nat.le_refl _) (by omega)).trans HY4.out, HK4.out.trans (HKh.out.mid (by omega) (by omega))⟩
    case hdone2 =>
      rintro W' ⟨hj, hbx, hkm⟩
      gi_wp2
      exact ⟨hkm, trivial, by rw [show 198 * (k + 1) = 198 * k + 6 * 33 by omega]; exact hj, tb, hbx⟩
    case hstop2 =>
      rintro c' m W' hm ⟨⟨rfl, x, hx, hjx⟩, hkm⟩
      gi_wp2
      exact ⟨hkm, rfl, x, hx, hjx⟩
  case hdone =>
    rintro D W' rfl ⟨hj, -⟩ hD
    gi_wp2
    exact leaves_marks (B := W.heap.size) [_] (w1.heap.size + 1) W' ⟨w1.heap.size, rfl, by omega, by omega, hD, trivial⟩ (fun W'' hb => ⟨_, results_none rfl _ _ _, ⟨_, rfl⟩, .inl (HJ.out _ _ _ hj (hb.mono (by omega)))⟩)
  case hstop =>
    rintro D c' k W' rfl hk ⟨rfl, x, hx, hjx⟩ hD
    gi_wp2
    exact leaves_marks (B := W.heap.size) [_] (w1.heap.size + 1) W' ⟨w1.heap.size, rfl, by omega, by omega, hD, trivial⟩ (fun W'' hb => ⟨_, results_none rfl _ _ _, ⟨_, rfl⟩, .inr ⟨x, hx, HJx.out _ _ _ hjx (hb.mono (by omega))⟩⟩)

theorem fblocks_T {f w h nn : Int} {c r : Nat} (H : Fm f w h nn c r) (n : Nat) (hn : 12 ≤ n) (bb : Nat) (Kp : World → World → Prop) (w0 : World) (hbs : bb < w0.heap.size) (hbb : w0.cell? ⟨bb, 0, none⟩ = some (.int .i64 f)) :
    SeqT Fence.wide n Try.prog 83 #[.pointer (some ⟨bb, 0, none⟩)] (encBk c) Kp (198 * (c * r)) w0 := fun l J Jx W hW hJ hJx hY h0 =>
  fblocks1_in H n hn l bb Kp J Jx W (Nat.lt_of_lt_of_le hbs hW.size) hJ hJx hY ((hW.cell (p := ⟨bb, 0, none⟩) hbs).trans hbb) h0
end Go.Proofs.Ytenplmmongphoaa
