/- address's codes: contracts of bit, taken, appendFalling, codes. -/
import Derived.Test.YtmampneedmodeaaDoorTree4
import Derived.Great.Walk
namespace Go.Proofs.YtmampneedmodeaaDoor
open Go.RowKit Go.Shelf
set_option linter.unusedVariables false

theorem Tryd.info47a : (Tryd.prog.info? 47).map (fun i => (i.zero, i.size, i.bytes)) = some (some (.agg #[.int .i64 0, .int .i64 0]), 2, 16) := by kernel_rfl
theorem Tryd.underlying44a : Tryd.prog.underlying 44 = some (.slice 47) := by kernel_rfl

/-- a code: its bits as a number, and how many -/
abbrev codeA (c : Nat × Nat) : Value := .agg #[.int .i64 (c.1 : Nat), .int .i64 (c.2 : Nat)]
def cellsA (l : List (Nat × Nat)) : List Value := l.flatMap fun c => [.int .i64 (c.1 : Nat), .int .i64 (c.2 : Nat)]
theorem cellsA_append (a b : List (Nat × Nat)) : cellsA (a ++ b) = cellsA a ++ cellsA b := by simp [cellsA]
theorem cellsA_length (l : List (Nat × Nat)) : (cellsA l).length = l.length * 2 := by
  induction l with
  | nil => rfl
  | cons c l ih => simp [cellsA] at ih ⊢; omega
theorem cellsA_one {l : List (Nat × Nat)} : ∀ u ∈ cellsA l, u.oneCell' = true := by
  intro u hu
  simp [cellsA] at hu
  obtain ⟨a, b, _, h⟩ := hu
  rcases h with rfl | rfl <;> rfl
/-- codes that fall by one -/
def fall (b m n : Nat) : List (Nat × Nat) := (List.range n).map fun k => (b - k, m)
theorem fall_succ (b m n : Nat) : fall b m (n + 1) = fall b m n ++ [(b - n, m)] := by simp [fall, List.range_succ]
abbrev head4 : List (Nat × Nat) := [(15, 11), (1, 1), (3, 3), (2, 3), (3, 4), (2, 4), (3, 5), (2, 5), (7, 7), (6, 7), (11, 8), (10, 8), (9, 8), (8, 8), (7, 8), (6, 8)]
/-- the codes of 0 to 34 -/
def tab4 : List (Nat × Nat) := ((head4 ++ fall 23 10 6) ++ fall 35 11 12) ++ [(0, 15)]
theorem tab4_length : tab4.length = 35 := by decide +kernel
theorem tab4_small : ∀ c ∈ tab4, c.1 < 2 ^ c.2 ∧ 1 ≤ c.2 ∧ c.2 ≤ 15 := by decide +kernel

/-- a bit of a code -/
def cbit (b m i : Nat) : Nat := b / 2 ^ (m - 1 - i) % 2
theorem cbit_le (b m i : Nat) : cbit b m i < 2 := by unfold cbit; omega

theorem two_cells (w : World) (x y : Value) (t : TypeId) : (w.alloc (.cells #[x, y] t (0, 0))).cell? ⟨w.heap.size, 0, none⟩ = some x ∧ (w.alloc (.cells #[x, y] t (0, 0))).cell? ⟨w.heap.size, 1, none⟩ = some y := by
  have h := World.alloc_heap_new w (.cells #[x, y] t (0, 0))
  generalize w.alloc (.cells #[x, y] t (0, 0)) = w' at h ⊢
  simp [World.cell?, h]

set_option maxHeartbeats 1000000 in
theorem abit_any (b m i : Nat) (hb : b < 65536) (hm : m ≤ 15) (hi : i < m) (w : World) :
    Calls Tryd.prog 27 #[codeA (b, m), .int .i64 i] w fun e w' => e = .returned (.int .i64 (cbit b m i)) ∧ Below w.heap.size w w' := by
  have hq : bits .and .i64 ((b : Int) / 2 ^ (m - 1 - i)) 1 = ((cbit b m i : Nat) : Int) := by
    rw [i64_and1, show ((b : Int) / 2 ^ (m - 1 - i)) = ((b / 2 ^ (m - 1 - i) : Nat) : Int) by rw [Int.natCast_ediv, Int.natCast_pow]; rfl]
    unfold cbit
    omega
  have HQ := Lib.hid hq
  clear hq
  go_enter Tryd.func27, Tryd.ntmps27
  go_wp2
  go_ret
  exact ⟨ret_int HQ.out, (Below.refl _ w).alloc (Nat.le_refl _) _⟩

theorem taken_any (n : Int) (c : Nat × Nat) (w : World) :
    Calls Tryd.prog 28 #[.int .i64 n, codeA c] w fun e w' => e = .returned (.int .i64 (if n = 34 then 0 else c.2)) ∧ Below w.heap.size w w' := by
  by_cases h : n = 34
  · subst h
    go_enter Tryd.func28, Tryd.ntmps28
    go_wp2
    go_ret
    exact ⟨rfl, (Below.refl _ w).alloc (Nat.le_refl _) _⟩
  · rw [if_neg h]
    have t : (n == 34) = false := by simpa using h
    clear h
    go_enter Tryd.func28, Tryd.ntmps28
    go_wp2
    go_ret
    exact ⟨rfl, (Below.refl _ w).alloc (Nat.le_refl _) _⟩

theorem src_two (w : World) (x y : Value) (t : TypeId) : ∀ j u, [x, y][j]? = some u → (w.alloc (.cells #[x, y] t (0, 0))).cell? ((⟨w.heap.size, 0, none⟩ : Addr).add j) = some u := by
  intro j u hu
  obtain ⟨h0, h1⟩ := two_cells w x y t
  match j, hu with
  | 0, hu => cases hu; exact h0
  | 1, hu => cases hu; exact h1

theorem two_one {k : IntKind} {x y : Int} : ∀ u ∈ [Value.int k x, Value.int k y], u.oneCell' = true := by
  intro u hu
  simp at hu
  rcases hu with rfl | rfl <;> rfl
theorem src_row (w : World) (xs : List Value) (t : TypeId) : ∀ j u, xs[j]? = some u → (w.alloc (.cells xs.toArray t (0, 0))).cell? ((⟨w.heap.size, 0, none⟩ : Addr).add j) = some u := by
  intro j u hu
  have h := World.alloc_heap_new w (.cells xs.toArray t (0, 0))
  generalize w.alloc (.cells xs.toArray t (0, 0)) = w' at h ⊢
  have hadd : (⟨w.heap.size, 0, none⟩ : Addr).add j = ⟨w.heap.size, 0 + j, none⟩ := by unfold Addr.add; split <;> simp_all
  rw [hadd, Nat.zero_add]
  simp [World.cell?, h, hu]

set_option maxRecDepth 100000 in
set_option maxHeartbeats 2000000 in
theorem falling_any {w : World} {base n : Nat} {v : Value} {xs : List Value} (hown : w.ownsRow base 47 2 v n xs) (hbase : base ≤ w.heap.size) (b m c : Nat) (hcb : c ≤ b) (hb : b < 65536) (hm : m ≤ 15) (hn : n ≤ 1000) (hc : c ≤ 1000) :
    Calls Tryd.prog 35 #[v, codeA (b, m), .int .i64 c] w fun e w' => ∃ v', e = .returned v' ∧ w'.ownsRow base 47 2 v' (n + c) (xs ++ cellsA (fall b m c)) ∧ Below base w w' := by
  obtain ⟨i0, hi, hz0, hz1, hz2⟩ := info_parts Tryd.info47a
  have hv0 : ∀ k, v.ownBlock = some k → k ≠ w.heap.size := fun k e => by have := (hown.lt k e).2; omega
  have HO := Lib.hid hown
  clear hown
  go_enter Tryd.func35, Tryd.ntmps35
  go_wp2_with fail
  go_loopw [0, 7, 9] (fun v1 _ k wr => ∃ j : Nat, k = .int .i64 j ∧ j ≤ c ∧ wr.ownsRow base 47 2 v1 (n + j) (xs ++ cellsA (fall b m j)) ∧ (∀ k, v1.ownBlock = some k → k ≠ w.heap.size) ∧ Below base w wr ∧ w.heap.size < wr.heap.size ∧ wr.heap[w.heap.size]? = some (.cells #[.int .i64 b, .int .i64 m] 47 (0, 0))) (fun _ _ k _ => c - (intOf k).toNat)
  case atStart =>
    refine ⟨0, rfl, by omega, ?_, hv0, (Below.refl _ w).alloc hbase _, by simp, World.alloc_heap_new _ _⟩
    simpa [fall, cellsA] using HO.out.alloc _
  case round =>
    obtain ⟨j, rfl, hj, ho, hne, hb1, hlt, hbx⟩ := hrel
    have HO1 := Lib.hid ho
    have HB1 := Lib.hid hb1
    have HX := Lib.hid hbx
    have HNe := Lib.hid hne
    have hsz := hb1.size
    obtain ⟨c0, c1⟩ : wr.cell? ⟨w.heap.size, 0, none⟩ = some (.int .i64 b) ∧ wr.cell? ⟨w.heap.size, 1, none⟩ = some (.int .i64 m) := by simp [World.cell?, hbx]
    clear ho hb1 hbx hne
    by_cases hjc : j < c
    · have e1 : ((b : Int) - (j : Int)) = ((b - j : Nat) : Int) := by omega
      go_wp2_with (at_builtin; go_loud (refine wpList_append_where _ rfl _ _ 44 rfl base 47 i0 (.agg #[.int .i64 0, .int .i64 0]) 2 16 Tryd.underlying44a hi hz0 hz1 hz2 rfl (by decide) _ _ _ rfl (HO1.out.alloc _) ⟨wr.heap.size, 0, none⟩ 1 1 [.int .i64 ((b - j : Nat) : Int), .int .i64 m] rfl rfl (src_two _ _ _ _) two_one (by unfold maxLen; omega) (by omega) (by simp; omega) ?_); intro v2 w2 hown2 hgrow2 hloc2; have HO2 := Lib.hid hown2; have HG2 := Lib.hid hgrow2; have HL2 := Lib.hid hloc2; clear hown2 hgrow2 hloc2)
      have hb2 : Below base w w2 := (HB1.out.alloc (by omega) _).grown HG2.out (by simp; omega) (fun k e => (HO1.out.lt k e).1)
      go_roundw
      case rel =>
        refine ⟨j + 1, by go_num, by omega, ?_, ?_, hb2, ?_, ?_⟩
        · rw [fall_succ, cellsA_append, ← List.append_assoc]
          exact HO2.out
        · intro k e
          rcases HL2.out k e with h | h
          · exact HNe.out k h
          · simp at h; omega
        · have := HG2.out.size; simp at this; omega
        · rw [HG2.out.block w.heap.size (by simp; omega) (fun e => HNe.out _ e.symm rfl), Lib.alloc_old wr _ _ hlt]
          exact HX.out
      case measure => simp [intOf]; omega
    · have hjn : j = c := by omega
      subst hjn
      go_wp2
      go_ret
      exact ⟨_, rfl, HO1.out, HB1.out⟩

end Go.Proofs.YtmampneedmodeaaDoor
