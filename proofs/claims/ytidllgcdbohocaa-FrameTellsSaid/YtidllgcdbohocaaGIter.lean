/- frame: the funcs that hand over groups and macroblocks. -/
import Derived.Sort.LoopGhostIn
import Derived.Test.YtidllgcdbohocaaSeqM
import Derived.Test.YtidllgcdbohocaaGSml
namespace Go.Proofs.Ytidllgcdbohocaa
open Go.RowKit Go.Shelf Go.Sort
set_option linter.unusedVariables false
attribute [local go_sem] Oper.semAt_some

/-- group k of a format with c columns: its number, and where it stands -/
def gpN (c k : Nat) : Nat := 2 * (k / c) + k % c + 1
def gpX (c k : Nat) : Nat := 176 * (k % c)
def gpY (c k : Nat) : Nat := 48 * (k / c)
abbrev encG (c k : Nat) : Array Value := #[.agg #[.int .i64 (gpN c k : Nat), .int .i64 (gpX c k : Nat), .int .i64 (gpY c k : Nat)]]
theorem encG_at {c s k : Nat} (hk : k < c) : encG c (c * s + k) = #[.agg #[.int .i64 (2 * (s : Int) + (k : Int) + 1), .int .i64 (176 * (k : Int)), .int .i64 (48 * (s : Int))]] := by
  have h1 : (c * s + k) / c = s := by rw [Nat.mul_add_div (by omega), Nat.div_eq_of_lt hk, Nat.add_zero]
  have h2 : (c * s + k) % c = k := by rw [Nat.mul_add_mod, Nat.mod_eq_of_lt hk]
  unfold encG gpN gpX gpY
  rw [h1, h2]
  simp

set_option maxRecDepth 100000 in
set_option maxHeartbeats 4000000 in
theorem fgroups1_in {f w h nn : Int} {c r : Nat} (H : Fm f w h nn c r) (n : Nat) (hn : 1 ≤ n) (l bb : Nat) (J Jx : Nat → World → Prop) (W : World)
    (hJ : ∀ s A o, J s A → J s (A.alloc o))
    (hY : ∀ x W1, J x W1 → x < c * r → YieldAt Fence.wide (n - 1) Try.prog l (encG c x) W1 fun e W' => (e = .returned (.bool true) ∧ J (x + 1) W') ∨ (e = .returned (.bool false) ∧ Jx x W'))
    (hbb : W.cell? ⟨bb, 0, none⟩ = some (.int .i64 f)) (h0 : J 0 W) :
    CallsIn Fence.wide n Try.prog 37 #[.func (.yield l) #[] #[], .pointer (some ⟨bb, 0, none⟩)] W fun e W' => (∃ v, e = .returned v) ∧
      (J (c * r) W' ∨ (∃ k, k < c * r ∧ Jx k W')) := by
  have HS := Lib.hid (fun W => fsize_any H W)
  have HJ := Lib.hid hJ
  have HY := Lib.hid hY
  clear hJ hY
  rcases H with ⟨rfl, rfl, rfl, rfl, rfl, rfl⟩ | ⟨rfl, rfl, rfl, rfl, rfl, rfl⟩
  case inl =>
    refine callsIn_of_wp Try.func37 rfl trivial ?_ rfl
    simp only [Try.ntmps37, List.size_toArray, List.length_cons, List.length_nil, Nat.reduceAdd, Nat.reduceSub, Array.replicate_succ, Array.replicate_zero, List.push_toArray, List.append_toArray, List.nil_append, List.cons_append]
    gi_wp2_with (refine ⟨trivial, ?_⟩; gi_at_call 28; refine (callsIn_wide.2 (HS.out _)).mono ?_; rintro e w' ⟨rfl, rfl⟩)
    gi_loopw [15] (fun p wr => ∃ s : Nat, s ≤ 3 ∧ p = .int .i64 (s : Int) ∧ J (1 * s) wr) (fun p _ => 3 - (intOf p).toNat)
    case atStart => exact ⟨0, by omega, rfl, h0⟩
    case round =>
      obtain ⟨s, hs, rfl, hJs⟩ := hrel
      have HJs := Lib.hid hJs
      clear hJs
      by_cases hs2 : s < 3
      · have hs3 : (s : Int) < 3 := by omega
        gi_wp2
        gi_loopg [20] (1) (fun gh y wy => ∃ k : Nat, k + gh = 1 ∧ y = .int .i64 (k : Int) ∧ J (1 * s + k) wy)
        case atStart => exact ⟨0, by omega, rfl, HJs.out⟩
        case round =>
          obtain ⟨k, hkg, rfl, hJk⟩ := hrel
          cases gk with
          | zero =>
            obtain rfl : k = 1 := by omega
            have HJk := Lib.hid hJk
            clear hJk
            gi_wp2
            exact ⟨⟨s + 1, by omega, by go_num, HJk.out⟩, by simp [intOf]; omega⟩
          | succ gh =>
            have hk2 : (k : Int) < 1 := by omega
            obtain ⟨fn, tmps, assign, body, hy, hR⟩ := HY.out (1 * s + k) _ (HJ.out _ _ (.cells #[.int .i64 (2 * (s : Int) + (k : Int) + 1), .int .i64 (176 * (k : Int)), .int .i64 (48 * (s : Int))] 57 (0, 0)) hJk) (by omega)
            rw [encG_at (by omega)] at hy
            have HE := Lib.hid (show k + 1 + gh = 1 by omega)
            clear hJk hkg
            gi_wp2
            refine hR.mono ?_
            rintro e W3 (⟨rfl, hJ3⟩ | ⟨rfl, hJx3⟩)
            · have HJ3 := Lib.hid hJ3
              clear hJ3 hR hy
              gi_wp2
              gi_roundg gh
              case measure => omega
              case rel => exact ⟨k + 1, HE.out, by go_num, HJ3.out⟩
            · have HJx3 := Lib.hid hJx3
              clear hJx3 hR hy
              gi_wp2
              try rw [Exit.noGoto_ret]
              refine bodyPost_ret (results_none rfl _ _ _) rfl ?_
              exact ⟨⟨_, rfl⟩, .inr ⟨1 * s + k, by omega, HJx3.out⟩⟩
      · obtain rfl : s = 3 := by omega
        gi_wp2
        go_end0
        exact ⟨⟨_, rfl⟩, .inl HJs.out⟩
  case inr =>
    refine callsIn_of_wp Try.func37 rfl trivial ?_ rfl
    simp only [Try.ntmps37, List.size_toArray, List.length_cons, List.length_nil, Nat.reduceAdd, Nat.reduceSub, Array.replicate_succ, Array.replicate_zero, List.push_toArray, List.append_toArray, List.nil_append, List.cons_append]
    gi_wp2_with (refine ⟨trivial, ?_⟩; gi_at_call 28; refine (callsIn_wide.2 (HS.out _)).mono ?_; rintro e w' ⟨rfl, rfl⟩)
    gi_loopw [15] (fun p wr => ∃ s : Nat, s ≤ 6 ∧ p = .int .i64 (s : Int) ∧ J (2 * s) wr) (fun p _ => 6 - (intOf p).toNat)
    case atStart => exact ⟨0, by omega, rfl, h0⟩
    case round =>
      obtain ⟨s, hs, rfl, hJs⟩ := hrel
      have HJs := Lib.hid hJs
      clear hJs
      by_cases hs2 : s < 6
      · have hs3 : (s : Int) < 6 := by omega
        gi_wp2
        gi_loopg [20] (2) (fun gh y wy => ∃ k : Nat, k + gh = 2 ∧ y = .int .i64 (k : Int) ∧ J (2 * s + k) wy)
        case atStart => exact ⟨0, by omega, rfl, HJs.out⟩
        case round =>
          obtain ⟨k, hkg, rfl, hJk⟩ := hrel
          cases gk with
          | zero =>
            obtain rfl : k = 2 := by omega
            have HJk := Lib.hid hJk
            clear hJk
            gi_wp2
            exact ⟨⟨s + 1, by omega, by go_num, HJk.out⟩, by simp [intOf]; omega⟩
          | succ gh =>
            have hk2 : (k : Int) < 2 := by omega
            obtain ⟨fn, tmps, assign, body, hy, hR⟩ := HY.out (2 * s + k) _ (HJ.out _ _ (.cells #[.int .i64 (2 * (s : Int) + (k : Int) + 1), .int .i64 (176 * (k : Int)), .int .i64 (48 * (s : Int))] 57 (0, 0)) hJk) (by omega)
            rw [encG_at (by omega)] at hy
            have HE := Lib.hid (show k + 1 + gh = 2 by omega)
            clear hJk hkg
            gi_wp2
            refine hR.mono ?_
            rintro e W3 (⟨rfl, hJ3⟩ | ⟨rfl, hJx3⟩)
            · have HJ3 := Lib.hid hJ3
              clear hJ3 hR hy
              gi_wp2
              gi_roundg gh
              case measure => omega
              case rel => exact ⟨k + 1, HE.out, by go_num, HJ3.out⟩
            · have HJx3 := Lib.hid hJx3
              clear hJx3 hR hy
              gi_wp2
              try rw [Exit.noGoto_ret]
              refine bodyPost_ret (results_none rfl _ _ _) rfl ?_
              exact ⟨⟨_, rfl⟩, .inr ⟨2 * s + k, by omega, HJx3.out⟩⟩
      · obtain rfl : s = 6 := by omega
        gi_wp2
        go_end0
        exact ⟨⟨_, rfl⟩, .inl HJs.out⟩

theorem fgroups_T {f w h nn : Int} {c r : Nat} (H : Fm f w h nn c r) (n : Nat) (hn : 1 ≤ n) (bb : Nat) (Kp : World → World → Prop) (w0 : World) (hbs : bb < w0.heap.size) (hbb : w0.cell? ⟨bb, 0, none⟩ = some (.int .i64 f)) :
    SeqT Fence.wide n Try.prog 37 #[.pointer (some ⟨bb, 0, none⟩)] (encG c) Kp (c * r) w0 := fun l J Jx W hW hJ hJx hY h0 =>
  (fgroups1_in H n hn l bb (fun s A => J s A ∧ W.heap.size ≤ A.heap.size) Jx W (fun s A o h => ⟨hJ _ _ _ h.1 ((Below.refl _ A).alloc h.2 _), by simp; omega⟩)
    (fun x W1 h hx => (hY x W1 h.1 h.2 hx).mono fun e W' ⟨hk, h'⟩ => h'.imp (fun ⟨a, b, _⟩ => ⟨a, b, Nat.le_trans h.2 hk.1⟩) id)
    ((hW.cell (p := ⟨bb, 0, none⟩) hbs).trans hbb) ⟨h0, Nat.le_refl _⟩).mono fun e W' ⟨h1, h2⟩ => ⟨h1, h2.imp (fun h => h.1) id⟩
/-- where rows that the rounds lay must be kept: this func only lays memory -/
theorem fgroups_M {f w h nn : Int} {c r : Nat} (H : Fm f w h nn c r) (n : Nat) (hn : 1 ≤ n) (bb : Nat) (Kp : World → World → Prop) (w0 : World) (hbs : bb < w0.heap.size) (hbb : w0.cell? ⟨bb, 0, none⟩ = some (.int .i64 f)) :
    SeqM Fence.wide n Try.prog 37 #[.pointer (some ⟨bb, 0, none⟩)] (encG c) (fun _ => False) Kp (fun x _ => x ≤ c * r) (fun x => x < c * r) (fun _ => True) w0 := fun l J Jx W hW hJ hJx hY h0 =>
  (fgroups1_in H n hn l bb (fun s A => J s A ∧ s ≤ c * r) Jx W (fun s A o h => ⟨hJ _ _ _ h.1 ((Bar.refl _ A).alloc _), h.2⟩)
    (fun x W1 h hx => (hY x W1 h.1 h.2 hx).mono fun e W' h' => h'.imp (fun ⟨a, _, b, _⟩ => ⟨a, b, hx⟩) id)
    ((hW.cell (p := ⟨bb, 0, none⟩) hbs).trans hbb) ⟨h0, Nat.zero_le _⟩).mono fun e W' ⟨h1, h2⟩ => ⟨h1, h2.imp (fun h => ⟨_, Nat.lt_irrefl _, h⟩) id⟩

/-- macroblock i of a group that stands at x, y -/
abbrev encM (g x y : Int) (i : Nat) : Array Value := #[.agg #[.int .i64 g, .int .i64 ((i : Int) + 1), .int .i64 (x + 16 * ((i : Int) % 11)), .int .i64 (y + 16 * ((i : Int) / 11))]]

set_option maxRecDepth 100000 in
set_option maxHeartbeats 4000000 in
theorem fmacros1_in (g x y : Int) (hx0 : 0 ≤ x) (hx : x ≤ 1000) (hy0 : 0 ≤ y) (hy : y ≤ 1000) (n : Nat) (hn : 1 ≤ n) (l bb : Nat) (Kp : World → World → Prop) (J Jx : Nat → World → Prop) (W : World) (hbs : bb < W.heap.size)
    (hK : ∀ A B, Kp A B → B.heap[bb]? = A.heap[bb]?)
    (hY : ∀ x' W1, J x' W1 → W.heap.size ≤ W1.heap.size → x' < 33 → YieldAt Fence.wide (n - 1) Try.prog l (encM g x y x') W1 fun e W' =>
      KeepsHi W.heap.size W1 W' ∧ ((e = .returned (.bool true) ∧ J (x' + 1) W' ∧ Kp W1 W') ∨ (e = .returned (.bool false) ∧ Jx x' W')))
    (hbb : ∃ t, W.heap[bb]? = some (.cells #[.int .i64 g, .int .i64 x, .int .i64 y] t (0, 0))) (h0 : J 0 W) :
    CallsIn Fence.wide n Try.prog 38 #[.func (.yield l) #[] #[], .pointer (some ⟨bb, 0, none⟩)] W fun e W' => (∃ v, e = .returned v) ∧
      (J 33 W' ∨ (∃ k, k < 33 ∧ Jx k W')) := by
  have HY := Lib.hid hY
  have HK := Lib.hid hK
  obtain ⟨t, hbb⟩ := hbb
  have HB := Lib.hid hbb
  clear hY hK hbb
  refine callsIn_of_wp Try.func38 rfl trivial ?_ rfl
  simp only [Try.ntmps38, List.size_toArray, List.length_cons, List.length_nil, Nat.reduceAdd, Nat.reduceSub, Array.replicate_succ, Array.replicate_zero, List.push_toArray, List.append_toArray, List.nil_append, List.cons_append]
  gi_wp2
  gi_loopw [6] (fun p wr => ∃ s : Nat, s ≤ 33 ∧ p = .int .i64 (s : Int) ∧ J s wr ∧ W.heap.size ≤ wr.heap.size ∧ wr.heap[bb]? = W.heap[bb]?) (fun p _ => 33 - (intOf p).toNat)
  case atStart => exact ⟨0, by omega, rfl, h0, Nat.le_refl _, rfl⟩
  case round =>
    obtain ⟨s, hs, rfl, hJs, hz, hkb⟩ := hrel
    have HJs := Lib.hid hJs
    clear hJs
    by_cases hs2 : s < 33
    · have hs3 : (s : Int) < 33 := by omega
      have hcell := hkb.trans HB.out
      obtain ⟨fn, tmps, assign, body, hyy, hR⟩ := HY.out s _ HJs.out hz hs2
      have c0 : wr.cell? ⟨bb, 0, none⟩ = some (.int .i64 g) := by simp [World.cell?, hcell]
      have c1 : wr.cell? ⟨bb, 1, none⟩ = some (.int .i64 x) := by simp [World.cell?, hcell]
      have c2 : wr.cell? ⟨bb, 2, none⟩ = some (.int .i64 y) := by simp [World.cell?, hcell]
      have HKb := Lib.hid hkb
      clear hcell hkb
      gi_wp2
      refine hR.mono ?_
      rintro e W3 ⟨hk, ⟨rfl, hJ3, hk3⟩ | ⟨rfl, hJx3⟩⟩
      · have hz3 := hk.1
        have HJ3 := Lib.hid hJ3
        have HKp := Lib.hid ((HK.out _ _ hk3).trans HKb.out)
        clear hk hk3 hJ3 hR hyy c0 c1 c2
        gi_wp2
        go_roundw
        case rel => exact ⟨s + 1, by omega, by go_num, HJ3.out, by omega, HKp.out⟩
        case measure => simp [intOf]; omega
      · have HJx3 := Lib.hid hJx3
        clear hk hJx3 hR hyy c0 c1 c2
        gi_wp2
        refine bodyPost_ret (results_none rfl _ _ _) rfl ?_
        exact ⟨⟨_, rfl⟩, .inr ⟨s, by omega, HJx3.out⟩⟩
    · obtain rfl : s = 33 := by omega
      gi_wp2
      go_end0
      exact ⟨⟨_, rfl⟩, .inl HJs.out⟩

theorem fmacros_T (g x y : Int) (hx0 : 0 ≤ x) (hx : x ≤ 1000) (hy0 : 0 ≤ y) (hy : y ≤ 1000) (n : Nat) (hn : 1 ≤ n) (bb : Nat) (Kp : World → World → Prop) (hK : ∀ A B, Kp A B → B.heap[bb]? = A.heap[bb]?) (w0 : World) (hbb : ∃ t, w0.heap[bb]? = some (.cells #[.int .i64 g, .int .i64 x, .int .i64 y] t (0, 0))) :
    SeqT Fence.wide n Try.prog 38 #[.pointer (some ⟨bb, 0, none⟩)] (encM g x y) Kp 33 w0 := fun l J Jx W hW hJ hJx hY h0 => by
  obtain ⟨t, hbb⟩ := hbb
  have hbs := (Array.getElem?_eq_some_iff.1 hbb).1
  exact fmacros1_in g x y hx0 hx hy0 hy n hn l bb Kp J Jx W (Nat.lt_of_lt_of_le hbs hW.size) hK hY ⟨t, (hW.block _ hbs).trans hbb⟩ h0

end Go.Proofs.Ytidllgcdbohocaa
