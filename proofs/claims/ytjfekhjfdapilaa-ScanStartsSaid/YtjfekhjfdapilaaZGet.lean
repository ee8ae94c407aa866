/- scan's order, place by place: begin, order and what its func hands to a round; places. -/
import Derived.Test.YtjfekhjfdapilaaZArr
import Derived.Sort.LoopGhostIn
namespace Go.Proofs.Ytjfekhjfdapilaa
open Go.RowKit Go.Shelf
set_option linter.unusedVariables false
attribute [local go_sem] Oper.semAt_some

/-- how many places stand ahead of a diagonal -/
def dS (s : Nat) : Nat := [0, 1, 3, 6, 10, 15, 21, 28, 36, 43, 49, 54, 58, 61, 63][s]?.getD 64
def dX0 (s : Nat) : Int := if s % 2 = 0 then (s : Int) - min (s : Int) 7 else min (s : Int) 7
def dY0 (s : Nat) : Int := if s % 2 = 0 then min (s : Int) 7 else (s : Int) - min (s : Int) 7
def dSt (s : Nat) : Int := if s % 2 = 0 then 1 else -1
/-- the place that stands k-th, on a diagonal -/
def dX (s k : Nat) : Int := dX0 s + dSt s * ((k : Int) - dS s)
def dY (s k : Nat) : Int := dY0 s - dSt s * ((k : Int) - dS s)
theorem d_in : ∀ s : Fin 15, ∀ k : Fin 65, dS s ≤ k.val → k.val < dS (s + 1) → (0 ≤ dX s k ∧ dX s k < 8) ∧ (0 ≤ dY s k ∧ dY s k < 8) ∧ 8 * dY s k + dX s k = (ordAt k : Nat) := by decide +kernel
theorem d_out : ∀ s : Fin 15, dX s (dS (s + 1)) < 0 ∨ dY s (dS (s + 1)) < 0 ∨ 8 ≤ dX s (dS (s + 1)) ∨ 8 ≤ dY s (dS (s + 1)) := by decide +kernel
theorem d_le : ∀ s : Fin 15, dS s ≤ dS (s + 1) ∧ dS (s + 1) ≤ 64 ∧ (dSt s = 1 ∨ dSt s = -1) := by decide +kernel
theorem d_small : ∀ s : Fin 15, ∀ k : Fin 65, dS s ≤ k.val → k.val ≤ dS (s + 1) → (-2 ≤ dX s k ∧ dX s k ≤ 20) ∧ (-2 ≤ dY s k ∧ dY s k ≤ 20) := by decide +kernel
theorem dX_succ (s k : Nat) : dX s (k + 1) = dX s k + dSt s := by
  unfold dX dSt
  split <;> omega
theorem dY_succ (s k : Nat) : dY s (k + 1) = dY s k - dSt s := by
  unfold dY dSt
  split <;> omega
theorem dX_start (s : Nat) : dX s (dS s) = dX0 s := by unfold dX; simp
theorem dY_start (s : Nat) : dY s (dS s) = dY0 s := by unfold dY; simp

set_option maxHeartbeats 1000000 in
theorem begin_any (s : Nat) (hs : s < 15) (w : World) : Calls Try.prog 34 #[.int .i64 s] w fun e w' => e = .returned (.tuple #[.int .i64 (dX0 s), .int .i64 (dY0 s), .int .i64 (dSt s)]) ∧ w = w' := by
  have h : s = 0 ∨ s = 1 ∨ s = 2 ∨ s = 3 ∨ s = 4 ∨ s = 5 ∨ s = 6 ∨ s = 7 ∨ s = 8 ∨ s = 9 ∨ s = 10 ∨ s = 11 ∨ s = 12 ∨ s = 13 ∨ s = 14 := by omega
  rcases h with rfl | rfl | rfl | rfl | rfl | rfl | rfl | rfl | rfl | rfl | rfl | rfl | rfl | rfl | rfl
  all_goals
    go_enter Try.func34, Try.ntmps34
    go_wp2
    go_ret3
    exact ⟨rfl, rfl⟩

theorem order_in (F : Fence) (n : Nat) (hf : F.fn 32) (hro : F.round = none) (w : World) :
    CallsIn F n Try.prog 32 #[] w fun e w' => e = .returned (.func (.func 33) #[] #[]) ∧ w' = w := by
  refine callsIn_of_wp Try.func32 rfl hf ?_ hro
  simp only [Try.ntmps32, List.size_toArray, List.length_nil, Nat.reduceSub, Array.replicate_succ, Array.replicate_zero, List.push_toArray, List.append_toArray, List.nil_append]
  gi_wp2
  go_ret
  exact ⟨rfl, rfl⟩

set_option maxRecDepth 100000 in
set_option maxHeartbeats 2000000 in
theorem order1_in (n : Nat) (hn : 1 ≤ n) (l m : Nat) (J Jx : List Nat → World → Prop)
    (hY : ∀ pre x W, J pre W → pre.length < 64 → YieldAt Fence.wide (n - 1) Try.prog l #[.int .i64 (ordAt x : Nat)] W fun e W' =>
      (e = .returned (.bool true) ∧ J (pre ++ [x]) W' ∧ Below m W W') ∨ (e = .returned (.bool false) ∧ Jx (pre ++ [x]) W'))
    (W : World) (h0 : J [] W) :
    CallsIn Fence.wide n Try.prog 33 #[.func (.yield l) #[] #[]] W fun e W' => (∃ v, e = .returned v) ∧
      ((∃ ys, ys = List.range 64 ∧ J ys W') ∨ (∃ pre, (∃ k, k < 64 ∧ pre = List.range (k + 1)) ∧ Jx pre W')) := by
  refine callsIn_of_wp Try.func33 rfl trivial ?_ rfl
  simp only [Try.ntmps33, List.size_toArray, List.length_cons, List.length_nil, Nat.reduceAdd, Nat.reduceSub, Array.replicate_succ, Array.replicate_zero, List.push_toArray, List.append_toArray, List.nil_append, List.cons_append]
  have HY := Lib.hid hY
  clear hY
  gi_wp2
  refine wpIn_wide.2 (wp_scope_straight ((wpIn_wide (n := n)).1 ?_))
  gi_wp2
  refine wpIn_label ?_
  gi_wp2
  gi_loopw [6] (fun p wr => ∃ s : Nat, s ≤ 15 ∧ p = .int .i64 (s : Int) ∧ J (List.range (dS s)) wr) (fun p _ => 15 - (intOf p).toNat)
  case atStart => exact ⟨0, by omega, rfl, h0⟩
  case round =>
    obtain ⟨s, hs, rfl, hJs⟩ := hrel
    have HJs := Lib.hid hJs
    clear hJs
    by_cases hs2 : s < 15
    · have hb := begin_any s hs2
      have HB := Lib.hid hb
      obtain ⟨l1, l2, l3⟩ := d_le ⟨s, hs2⟩
      simp only at l1 l2 l3
      have HX := Lib.hid (fun k => dX_succ s k)
      have HYs := Lib.hid (fun k => dY_succ s k)
      clear hb
      gi_wp2_with (refine ⟨trivial, ?_⟩; gi_at_call 34; refine (callsIn_wide.2 (HB.out _)).mono ?_; rintro e w' ⟨rfl, rfl⟩)
      have F0 := Lib.hid (d_small ⟨s, hs2⟩)
      have F1 := Lib.hid (d_in ⟨s, hs2⟩)
      have F2 := Lib.hid (d_out ⟨s, hs2⟩)
      gi_loopg [3, 4] (dS (s + 1) - dS s) (fun gh x y wy => ∃ k : Nat, k + gh = dS (s + 1) ∧ dS s ≤ k ∧ x = .int .i64 (dX s k) ∧ y = .int .i64 (dY s k) ∧ J (List.range k) wy)
      case atStart => exact ⟨dS s, by omega, Nat.le_refl _, by rw [dX_start], by rw [dY_start], HJs.out⟩
      case round =>
        obtain ⟨k, hkg, hk0, rfl, rfl, hJk⟩ := hrel
        obtain ⟨⟨m1, m2⟩, m3, m4⟩ := F0.out ⟨k, by omega⟩ hk0 (show k ≤ dS (s + 1) by omega)
        simp only at m1 m2 m3 m4
        cases gk with
        | zero =>
          have hke : k = dS (s + 1) := by omega
          have HJk := Lib.hid hJk
          have ho := F2.out
          simp only at ho
          rw [← hke] at ho
          rw [hke] at HJk
          clear hJk hke hkg hk0
          generalize dX s k = x at *
          generalize dY s k = y at *
          have fin : ∀ wy, J (List.range (dS (s + 1))) wy → (∃ s_1 : Nat, s_1 ≤ 15 ∧ Value.int IntKind.i64 ((s : Int) + 1) = Value.int IntKind.i64 (s_1 : Int) ∧ J (List.range (dS s_1)) wy) ∧ 15 - (intOf (Value.int IntKind.i64 ((s : Int) + 1))).toNat < 15 - (intOf (Value.int IntKind.i64 (s : Int))).toNat :=
            fun wy hj => ⟨⟨s + 1, by omega, by go_num, hj⟩, by simp [intOf]; omega⟩
          have FIN := Lib.hid fin
          clear fin
          by_cases a1 : x < 0
          · gi_wp2
            exact FIN.out _ HJk.out
          · by_cases a2 : y < 0
            · gi_wp2
              exact FIN.out _ HJk.out
            · by_cases a3 : 8 ≤ x
              · gi_wp2
                exact FIN.out _ HJk.out
              · have a4 : 8 ≤ y := by omega
                gi_wp2
                exact FIN.out _ HJk.out
        | succ gh =>
          have hlt : k < dS (s + 1) := by omega
          obtain ⟨⟨i1, i2⟩, ⟨i3, i4⟩, i5⟩ := F1.out ⟨k, by omega⟩ hk0 hlt
          obtain ⟨fn, tmps, assign, body, hy, hR⟩ := HY.out _ k wr hJk (by simp; omega)
          simp only at i1 i2 i3 i4 i5
          rw [← i5] at hy
          have HXk := Lib.hid (HX.out k)
          have HYk := Lib.hid (HYs.out k)
          have b1 : -1 ≤ dSt s := by omega
          have b2 : dSt s ≤ 1 := by omega
          have HE := Lib.hid (show k + 1 + gh = dS (s + 1) by omega)
          clear i5 hJk l3 hkg
          generalize dX s k = x at *
          generalize dY s k = y at *
          generalize dSt s = st at *
          gi_wp2
          refine hR.mono ?_
          rintro e W3 (⟨rfl, hJ3, hk3⟩ | ⟨rfl, hJx3⟩)
          · have HJ3 := Lib.hid hJ3
            clear hJ3 hk3
            gi_wp2
            gi_roundg gh
            case measure => omega
            case rel => exact ⟨k + 1, HE.out, by omega, by rw [HXk.out], by rw [HYk.out], by rw [List.range_succ]; exact HJ3.out⟩
          · have HJx3 := Lib.hid hJx3
            clear hJx3
            gi_wp2
            try rw [Exit.noGoto_ret]
            refine bodyPost_ret (results_none rfl _ _ _) rfl ?_
            exact ⟨⟨_, rfl⟩, .inr ⟨_, ⟨k, by omega, by rw [List.range_succ]⟩, HJx3.out⟩⟩
    · obtain rfl : s = 15 := by omega
      gi_wp2
      refine show _ from Exit.noGoto_normal ▸ ?_
      gi_wp2
      go_end0
      exact ⟨⟨_, rfl⟩, .inl ⟨_, rfl, HJs.out⟩⟩

theorem order_stops (n : Nat) (hn : 1 ≤ n) (m : Nat) (w : World) :
    SeqStopsK Fence.wide n Try.prog 33 #[] (fun x : Nat => #[.int .i64 (ordAt x : Nat)]) (Below m) (fun ys => ys = List.range 64) (fun pre => ∃ k, k < 64 ∧ pre = List.range (k + 1)) 64 w := fun l J Jx W hW _ _ hY h0 =>
  order1_in n hn l m J Jx hY W h0

end Go.Proofs.Ytjfekhjfdapilaa
