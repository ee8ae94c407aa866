/- Contracts of bits.Find and bits.firstOne. -/
import Derived.Test.YtglnmaekhpaffaaFind
namespace Go.Proofs.Ytglnmaekhpaffaa
open Go.RowKit Go.Shelf
set_option linter.unusedVariables false
attribute [local go_sem] Oper.semAt_some

theorem KpB.store {m bx by_ : Nat} (A : World) {q : Nat} (v : Value) (h : m ≤ q) (h1 : q ≠ bx) (h2 : q ≠ by_) : KpB m bx by_ A (A.setCell ⟨q, 0, none⟩ v) :=
  ⟨(Below.refl m A).setCell (p := ⟨q, 0, none⟩) h _, World.cell?_setCell_other _ _ _ _ (by simp [*]), World.cell?_setCell_other _ _ _ _ (by simp [*])⟩
theorem KpB.b {m bx by_ : Nat} {w : World} (hm : m ≤ w.heap.size) (h1 : bx < w.heap.size) (h2 : by_ < w.heap.size) (W : World) (l : Nat) (o o' : Obj) (hl : w.heap.size ≤ l) (h : W.heap[l]? = some o) (hc : o.isCells = false) (hw : o.isWalk = false) : KpB m bx by_ W (W.putObj l o') := by
  have hb := belowK_b (w := w) (Nat.le_refl _) W l o o' hl h hc hw
  exact ⟨hb.mono hm, hb.cell (p := ⟨bx, 0, none⟩) h1, hb.cell (p := ⟨by_, 0, none⟩) h2⟩

theorem c_same {W : World} {b : Nat} {u : Value} (v : Value) (h : W.cell? ⟨b, 0, none⟩ = some u) : (W.setCell ⟨b, 0, none⟩ v).cell? ⟨b, 0, none⟩ = some v := World.cell?_setCell_same _ _ _ h
theorem c_other {W : World} {b c : Nat} {u : Value} (v : Value) (hne : b ≠ c) (h : W.cell? ⟨c, 0, none⟩ = some u) : (W.setCell ⟨b, 0, none⟩ v).cell? ⟨c, 0, none⟩ = some u :=
  (World.cell?_setCell_other _ _ _ _ (by simp [*])).trans h
theorem f_kept {W : World} {p q : Addr} (v : Value) (h : W.frozen? q = false) : (W.setCell p v).frozen? q = false := by rw [World.frozen?_setCell]; exact h

theorem find_range (a : Option Addr) (len cap : Nat) (i : Int) (w : World) (h : i < 0) :
    Calls Try.prog 66 #[.slice a len cap, .int .i64 i] w fun e w' => e = .returned (.tuple #[.int .i64 0, .int .i64 3]) ∧ Below w.heap.size w w' := by
  go_enter Try.func66, Try.ntmps66
  go_wp2
  go_step3
  go_wp2
  rw [Exit.noGoto_ret]
  exact bodyPost_ret (v := .tuple #[.int .i64 0, .int .i64 3]) (by simp [results, Try.f66, go_sem]) rfl ⟨rfl, ((Below.refl _ _).alloc (Nat.le_refl _) _).alloc (by simp) _⟩

set_option maxRecDepth 100000 in
set_option maxHeartbeats 2000000 in
theorem find_in (n : Nat) (hn : 4 ≤ n) (a : Option Addr) (len cap : Nat) (zs : List UInt8) (i : Nat) (w : World) (hi : i ≤ 9223372036854775807) (hB : Byt w.heap.size w (.slice a len cap) zs) :
    CallsIn Fence.wide n Try.prog 66 #[.slice a len cap, .int .i64 i] w fun e w' =>
      (e = .returned (.tuple #[.int .i64 0, .int .i64 5]) ∧ NoHit zs (List.range' i (zs.length * 8 - i)) ∨
       ∃ k, k < zs.length * 8 - i ∧ NoHit zs (List.range' i k) ∧ bt zs (i + k) ≠ 0 ∧ 15 ≤ zl zs (List.range' i k) ∧ e = .returned (.tuple #[.int .i64 ((i : Int) + k - 15), .int .i64 0])) ∧ Below w.heap.size w w' := by
  have h1 : 1 ≤ n := by omega
  have hlen : zs.length ≤ 1152921504606846975 := by obtain ⟨_, _, _, h, _⟩ := hB; exact h
  have hd : decide ((i : Int) < 0) = false := by simp
  refine callsIn_of_wp_marks Try.func66 rfl trivial ?_ rfl
  simp only [Try.ntmps66, List.size_toArray, List.length_cons, List.length_nil, Nat.reduceAdd, Nat.reduceSub, Array.replicate_succ, Array.replicate_zero, List.push_toArray, List.append_toArray, List.nil_append, List.cons_append]
  gi_wp2
  refine wpIn_wide.2 (wp_scope_straight ((wpIn_wide (n := n)).1 ?_))
  gi_wp2
  refine wpIn_label ?_
  gi_wp2_with (refine ⟨trivial, ?_⟩; gi_at_call 73; refine (bitsOn_in Fence.wide (n - 1) trivial rfl _ _ _ _ _).mono ?_; rintro e w' ⟨rfl, rfl⟩)
  have hB5 : Below w.heap.size w (((((w.alloc (Obj.cells #[Value.int IntKind.i64 0] 3)).alloc (Obj.cells #[Value.int IntKind.i64 0] 34)).alloc (Obj.cells #[Value.int IntKind.i64 0] 3)).alloc (Obj.cells #[Value.slice a len cap] 37)).alloc (Obj.cells #[Value.int IntKind.i64 ↑i] 3)) :=
    (((((Below.refl _ w).alloc (Nat.le_refl _) _).alloc (by simp) _).alloc (by simp; omega) _).alloc (by simp; omega) _).alloc (by simp; omega) _
  refine wpIn_rangeFunc_ownF rfl h1 (gf := 77) (lb := #[.pointer (some ⟨w.heap.size + 1 + 1 + 1 + 1, 0, none⟩), .pointer (some ⟨w.heap.size + 1 + 1 + 1, 0, none⟩)]) rfl trivial (enters_of Try.func77 (by kernel_rfl) rfl)
    (bitsOn_stops (n - 1) (by omega) w.heap.size (w.heap.size + 1 + 1 + 1) (w.heap.size + 1 + 1 + 1 + 1) i (.slice a len cap) zs _ hi (by simp; omega) (by simp) (by simp) (by go_simp) (by go_simp) (hB.below hB5)) KpB.t (KpB.b (by simp; omega) (by simp) (by simp)) (Below.refl _ _) (fun _ => rfl)
    (fun pre W => (NoHit zs pre ∧ (W.cell? ⟨w.heap.size, 0, none⟩ = some (.int .i64 0) ∧ W.frozen? ⟨w.heap.size, 0, none⟩ = false) ∧ (W.cell? ⟨w.heap.size + 1, 0, none⟩ = some (.int .i64 0) ∧ W.frozen? ⟨w.heap.size + 1, 0, none⟩ = false) ∧ (W.cell? ⟨w.heap.size + 1 + 1, 0, none⟩ = some (.int .i64 (zl zs pre)) ∧ W.frozen? ⟨w.heap.size + 1 + 1, 0, none⟩ = false)) ∧ Below w.heap.size w W)
    (fun c pre W => (c = .ret ∧ ∃ q x, pre = q ++ [x] ∧ NoHit zs q ∧ bt zs x ≠ 0 ∧ 15 ≤ zl zs q ∧ W.cell? ⟨w.heap.size, 0, none⟩ = some (.int .i64 (wrap64 (x - 15))) ∧ W.cell? ⟨w.heap.size + 1, 0, none⟩ = some (.int .i64 0)) ∧ Below w.heap.size w W)
    (OwnFrom.and (Own.from (fun s A B row hs hg hr => ⟨hs.1, ⟨cell_kept hs.2.1.1 hg hr, (frozen_kept hs.2.1.1 hg hr).trans hs.2.1.2⟩, ⟨cell_kept hs.2.2.1.1 hg hr, (frozen_kept hs.2.2.1.1 hg hr).trans hs.2.2.1.2⟩, ⟨cell_kept hs.2.2.2.1 hg hr, (frozen_kept hs.2.2.2.1 hg hr).trans hs.2.2.2.2⟩⟩) _) (ownFrom_below (Nat.le_refl _) (by simp; omega)))
    (fun c => OwnFrom.and (Own.from (fun s A B row hs hg hr => by obtain ⟨hc, q, x, e1, e2, e3, e4, c1, c2⟩ := hs; exact ⟨hc, q, x, e1, e2, e3, e4, cell_kept c1 hg hr, cell_kept c2 hg hr⟩) _) (ownFrom_below (Nat.le_refl _) (by simp; omega)))
    ⟨⟨noHit_nil zs, ⟨by go_simp, by go_simp⟩, ⟨by go_simp, by go_simp⟩, ⟨by simp only [zl, List.foldl_nil]; go_simp, by go_simp⟩⟩, hB5⟩
    (fun x => { tmps := #[Value.slice a len cap, Value.int IntKind.i64 ↑i, undef, undef,
        Value.pointer (some { block := w.heap.size, off := 0 }),
        Value.pointer (some { block := w.heap.size + 1, off := 0 }),
        Value.pointer (some { block := w.heap.size + 1 + 1, off := 0 }), .int .i64 x, .int .i64 (bt zs x), Value.int IntKind.i64 ↑i,
        Value.bool false, Value.slice a len cap, Value.int IntKind.i64 ↑i,
        Value.func (Fn.func 77) #[]
          #[Value.pointer (some { block := w.heap.size + 1 + 1 + 1 + 1, off := 0 }),
            Value.pointer (some { block := w.heap.size + 1 + 1 + 1, off := 0 })],
        .int .i64 x, .int .i64 (bt zs x), undef, undef, undef, undef, undef, undef, undef, undef, undef, undef], defers := [] }) ?assign ?body ?done ?stop
  case assign =>
    intro l x W K hK
    gi_wp2
    exact hK
  case body =>
    rintro l pre x W ⟨⟨hp, ⟨c0, f0⟩, ⟨c1, f1⟩, ⟨c2, f2⟩⟩, hB⟩ hlt
    have hz := zl_le zs pre
    by_cases hx : bt zs x = 0
    · have hx' : ((bt zs x : Int) == 0) = true := by simp [hx]
      have HX := Lib.hid hx
      clear hx
      gi_wp2
      exact ⟨KeepsOthers.setCell _ _ _, KpB.store _ _ (by omega) (by omega) (by omega), ⟨noHit_snoc hp (.inl HX.out), ⟨c_other _ (by omega) c0, f_kept _ f0⟩, ⟨c_other _ (by omega) c1, f_kept _ f1⟩, ⟨by rw [zl_snoc, if_pos HX.out]; exact c_same _ c2, f_kept _ f2⟩⟩, hB.setCell (p := ⟨w.heap.size + 1 + 1, 0, none⟩) (by simp; omega) _⟩
    · have hx' : ((bt zs x : Int) == 0) = false := by simp; omega
      by_cases h15 : zl zs pre < 15
      · gi_wp2
        exact ⟨KeepsOthers.setCell _ _ _, KpB.store _ _ (by omega) (by omega) (by omega), ⟨noHit_snoc hp (.inr h15), ⟨c_other _ (by omega) c0, f_kept _ f0⟩, ⟨c_other _ (by omega) c1, f_kept _ f1⟩, ⟨by rw [zl_snoc, if_neg hx]; exact c_same _ c2, f_kept _ f2⟩⟩, hB.setCell (p := ⟨w.heap.size + 1 + 1, 0, none⟩) (by simp; omega) _⟩
      · gi_wp2
        exact ⟨(KeepsOthers.setCell _ _ _).trans (KeepsOthers.setCell _ _ _), ⟨rfl, pre, x, rfl, hp, hx, by omega, c_other _ (by omega) (c_same _ c0), c_same _ (c_other _ (by omega) c1)⟩, (hB.setCell (p := ⟨w.heap.size, 0, none⟩) (by simp) _).setCell (p := ⟨w.heap.size + 1, 0, none⟩) (by simp) _⟩
  case done =>
    rintro D ys W hD rfl ⟨⟨hp, ⟨c0, f0⟩, ⟨c1, f1⟩, ⟨c2, f2⟩⟩, hB⟩ hK
    gi_wp2
    rw [Exit.noGoto_ret]
    have hK' := ((KeepsOthers.setCell W ⟨w.heap.size, 0, none⟩ (.int .i64 0)).trans (KeepsOthers.setCell _ ⟨w.heap.size + 1, 0, none⟩ (.int .i64 5))).same D _ hK rfl
    refine ⟨by simp, .inl ⟨_, _, rfl, run_takeDeferred hK', ?_⟩⟩
    have g0 := cell_kept (c_other (.int .i64 5) (show w.heap.size + 1 ≠ w.heap.size by omega) (c_same (.int .i64 0) c0)) (grownBy_putObj' _ D (.deferred none)) (fun r e => by cases e; exact ⟨_, hK', rfl⟩)
    have g1 := cell_kept (c_same (.int .i64 5) (c_other (.int .i64 0) (show w.heap.size ≠ w.heap.size + 1 by omega) c1)) (grownBy_putObj' _ D (.deferred none)) (fun r e => by cases e; exact ⟨_, hK', rfl⟩)
    refine ⟨.tuple #[.int .i64 0, .int .i64 5], ?_, .inl ⟨rfl, hp⟩, ((hB.setCell (p := ⟨w.heap.size, 0, none⟩) (by simp) _).setCell (p := ⟨w.heap.size + 1, 0, none⟩) (by simp) _).trans (belowK_b (w := w) (Nat.le_refl _) _ D _ _ (by simp at hD; omega) hK' rfl rfl)⟩
    simp [results, Try.f66, go_sem, g0, g1]
  case stop =>
    rintro D c pre W hD ⟨k, hk, rfl⟩ ⟨⟨rfl, q, x, e, hq, hx, h15, c0, c1⟩, hB⟩ hK
    have hx1 : q = List.range' i k ∧ x = i + k := by
      rw [List.range'_concat] at e
      have e1 := congrArg List.dropLast e
      have e2 := congrArg List.getLast? e
      simp at e1 e2
      exact ⟨e1.symm, e2.symm⟩
    obtain ⟨rfl, rfl⟩ := hx1
    clear e
    have hkl : k < 9223372036854775807 - i := by omega
    rw [Int.natCast_add, IntWalk.wrap64_in _ ⟨by omega, by omega⟩] at c0
    gi_wp2
    rw [Exit.noGoto_ret]
    refine ⟨by simp, .inl ⟨_, _, rfl, run_takeDeferred hK, ?_⟩⟩
    have g0 := cell_kept c0 (grownBy_putObj' _ D (.deferred none)) (fun r e => by cases e; exact ⟨_, hK, rfl⟩)
    have g1 := cell_kept c1 (grownBy_putObj' _ D (.deferred none)) (fun r e => by cases e; exact ⟨_, hK, rfl⟩)
    refine ⟨.tuple #[.int .i64 ((i : Int) + k - 15), .int .i64 0], ?_, .inr ⟨k, hk, hq, hx, h15, rfl⟩, hB.trans (belowK_b (w := w) (Nat.le_refl _) _ D _ _ (by simp at hD; omega) hK rfl rfl)⟩
    simp [results, Try.f66, go_sem, g0, g1]

set_option maxRecDepth 100000 in
set_option maxHeartbeats 2000000 in
theorem firstOne_in (n : Nat) (hn : 4 ≤ n) (a : Option Addr) (len cap : Nat) (zs : List UInt8) (i : Nat) (w : World) (hi : i ≤ 9223372036854775807) (hB : Byt w.heap.size w (.slice a len cap) zs) :
    CallsIn Fence.wide n Try.prog 74 #[.slice a len cap, .int .i64 i] w fun e w' =>
      (e = .returned (.tuple #[.int .i64 0, .bool false]) ∧ (∀ y ∈ List.range' i (zs.length * 8 - i), bt zs y = 0) ∨
       ∃ k, k < zs.length * 8 - i ∧ (∀ y ∈ List.range' i k, bt zs y = 0) ∧ bt zs (i + k) = 1 ∧ e = .returned (.tuple #[.int .i64 ((i : Int) + k), .bool true])) ∧ Below w.heap.size w w' := by
  have h1 : 1 ≤ n := by omega
  have hlen : zs.length ≤ 1152921504606846975 := by obtain ⟨_, _, _, h, _⟩ := hB; exact h
  refine callsIn_of_wp_marks Try.func74 rfl trivial ?_ rfl
  simp only [Try.ntmps74, List.size_toArray, List.length_cons, List.length_nil, Nat.reduceAdd, Nat.reduceSub, Array.replicate_succ, Array.replicate_zero, List.push_toArray, List.append_toArray, List.nil_append, List.cons_append]
  gi_wp2_with (refine ⟨trivial, ?_⟩; gi_at_call 73; refine (bitsOn_in Fence.wide (n - 1) trivial rfl _ _ _ _ _).mono ?_; rintro e w' ⟨rfl, rfl⟩)
  have hB5 : Below w.heap.size w ((((w.alloc (Obj.cells #[Value.int IntKind.i64 0] 3)).alloc (Obj.cells #[Value.bool false] 4)).alloc (Obj.cells #[Value.slice a len cap] 37)).alloc (Obj.cells #[Value.int IntKind.i64 ↑i] 3)) :=
    ((((Below.refl _ w).alloc (Nat.le_refl _) _).alloc (by simp) _).alloc (by simp; omega) _).alloc (by simp; omega) _
  refine wpIn_rangeFunc_ownF rfl h1 (gf := 77) (lb := #[.pointer (some ⟨w.heap.size + 1 + 1 + 1, 0, none⟩), .pointer (some ⟨w.heap.size + 1 + 1, 0, none⟩)]) rfl trivial (enters_of Try.func77 (by kernel_rfl) rfl)
    (bitsOn_stops (n - 1) (by omega) w.heap.size (w.heap.size + 1 + 1) (w.heap.size + 1 + 1 + 1) i (.slice a len cap) zs _ hi (by simp; omega) (by simp) (by simp) (by go_simp) (by go_simp) (hB.below hB5)) KpB.t (KpB.b (by simp; omega) (by simp) (by simp)) (Below.refl _ _) (fun _ => rfl)
    (fun pre W => ((∀ y ∈ pre, bt zs y = 0) ∧ (W.cell? ⟨w.heap.size, 0, none⟩ = some (.int .i64 0) ∧ W.frozen? ⟨w.heap.size, 0, none⟩ = false) ∧ (W.cell? ⟨w.heap.size + 1, 0, none⟩ = some (.bool false) ∧ W.frozen? ⟨w.heap.size + 1, 0, none⟩ = false)) ∧ Below w.heap.size w W)
    (fun c pre W => (c = .ret ∧ ∃ q x, pre = q ++ [x] ∧ (∀ y ∈ q, bt zs y = 0) ∧ bt zs x = 1 ∧ W.cell? ⟨w.heap.size, 0, none⟩ = some (.int .i64 x) ∧ W.cell? ⟨w.heap.size + 1, 0, none⟩ = some (.bool true)) ∧ Below w.heap.size w W)
    (OwnFrom.and (Own.from (fun s A B row hs hg hr => ⟨hs.1, ⟨cell_kept hs.2.1.1 hg hr, (frozen_kept hs.2.1.1 hg hr).trans hs.2.1.2⟩, ⟨cell_kept hs.2.2.1 hg hr, (frozen_kept hs.2.2.1 hg hr).trans hs.2.2.2⟩⟩) _) (ownFrom_below (Nat.le_refl _) (by simp; omega)))
    (fun c => OwnFrom.and (Own.from (fun s A B row hs hg hr => by obtain ⟨hc, q, x, e1, e2, e3, c1, c2⟩ := hs; exact ⟨hc, q, x, e1, e2, e3, cell_kept c1 hg hr, cell_kept c2 hg hr⟩) _) (ownFrom_below (Nat.le_refl _) (by simp; omega)))
    ⟨⟨by simp, ⟨by go_simp, by go_simp⟩, ⟨by go_simp, by go_simp⟩⟩, hB5⟩
    (fun x => { tmps := #[Value.slice a len cap, Value.int IntKind.i64 ↑i, undef, undef,
        Value.pointer (some { block := w.heap.size, off := 0 }),
        Value.pointer (some { block := w.heap.size + 1, off := 0 }),
        .int .i64 x, .int .i64 (bt zs x), Value.slice a len cap, Value.int IntKind.i64 ↑i,
        Value.func (Fn.func 77) #[]
          #[Value.pointer (some { block := w.heap.size + 1 + 1 + 1, off := 0 }),
            Value.pointer (some { block := w.heap.size + 1 + 1, off := 0 })],
        .int .i64 x, .int .i64 (bt zs x), undef, undef, undef], defers := [] }) ?assign ?body ?done ?stop
  case assign =>
    intro l x W K hK
    gi_wp2
    exact hK
  case body =>
    rintro l pre x W ⟨⟨hp, ⟨c0, f0⟩, ⟨c1, f1⟩⟩, hB⟩ hlt
    have HP := Lib.hid hp
    clear hp
    have hb := bt_le zs x
    by_cases hx : bt zs x = 1
    · have hx' : ((bt zs x : Int) == 1) = true := by simp [hx]
      have HX := Lib.hid hx
      clear hx
      gi_wp2
      exact ⟨(KeepsOthers.setCell _ _ _).trans (KeepsOthers.setCell _ _ _), ⟨rfl, pre, x, rfl, HP.out, HX.out, c_other _ (by omega) (c_same _ c0), c_same _ (c_other _ (by omega) c1)⟩, (hB.setCell (p := ⟨w.heap.size, 0, none⟩) (by simp) _).setCell (p := ⟨w.heap.size + 1, 0, none⟩) (by simp) _⟩
    · have hx' : ((bt zs x : Int) == 1) = false := by simp; omega
      gi_wp2
      exact ⟨KeepsOthers.refl _, KpB.rfl, ⟨fun y hy => (List.mem_append.1 hy).elim (HP.out y) (fun e => by simp at e; subst e; omega), ⟨c0, f0⟩, ⟨c1, f1⟩⟩, hB⟩
  case done =>
    rintro D ys W hD rfl ⟨⟨hp, ⟨c0, f0⟩, ⟨c1, f1⟩⟩, hB⟩ hK
    have HP := Lib.hid hp
    clear hp
    gi_wp2
    have hK' := ((KeepsOthers.setCell W ⟨w.heap.size, 0, none⟩ (.int .i64 0)).trans (KeepsOthers.setCell _ ⟨w.heap.size + 1, 0, none⟩ (.bool false))).same D _ hK rfl
    refine ⟨by simp, .inl ⟨_, _, rfl, run_takeDeferred hK', ?_⟩⟩
    have g0 := cell_kept (c_other (.bool false) (show w.heap.size + 1 ≠ w.heap.size by omega) (c_same (.int .i64 0) c0)) (grownBy_putObj' _ D (.deferred none)) (fun r e => by cases e; exact ⟨_, hK', rfl⟩)
    have g1 := cell_kept (c_same (.bool false) (c_other (.int .i64 0) (show w.heap.size ≠ w.heap.size + 1 by omega) c1)) (grownBy_putObj' _ D (.deferred none)) (fun r e => by cases e; exact ⟨_, hK', rfl⟩)
    refine ⟨.tuple #[.int .i64 0, .bool false], ?_, .inl ⟨rfl, HP.out⟩, ((hB.setCell (p := ⟨w.heap.size, 0, none⟩) (by simp) _).setCell (p := ⟨w.heap.size + 1, 0, none⟩) (by simp) _).trans (belowK_b (w := w) (Nat.le_refl _) _ D _ _ (by simp at hD; omega) hK' rfl rfl)⟩
    simp [results, Try.f74, go_sem, g0, g1]
  case stop =>
    rintro D c pre W hD ⟨k, hk, rfl⟩ ⟨⟨rfl, q, x, e, hq, hx, c0, c1⟩, hB⟩ hK
    have hx1 : q = List.range' i k ∧ x = i + k := by
      rw [List.range'_concat] at e
      have e1 := congrArg List.dropLast e
      have e2 := congrArg List.getLast? e
      simp at e1 e2
      exact ⟨e1.symm, e2.symm⟩
    obtain ⟨rfl, rfl⟩ := hx1
    clear e
    have HQ := Lib.hid hq
    clear hq
    have HX := Lib.hid hx
    clear hx
    rw [Int.natCast_add] at c0
    gi_wp2
    refine ⟨by simp, .inl ⟨_, _, rfl, run_takeDeferred hK, ?_⟩⟩
    have g0 := cell_kept c0 (grownBy_putObj' _ D (.deferred none)) (fun r e => by cases e; exact ⟨_, hK, rfl⟩)
    have g1 := cell_kept c1 (grownBy_putObj' _ D (.deferred none)) (fun r e => by cases e; exact ⟨_, hK, rfl⟩)
    refine ⟨.tuple #[.int .i64 ((i : Int) + k), .bool true], ?_, .inr ⟨k, hk, HQ.out, HX.out, rfl⟩, hB.trans (belowK_b (w := w) (Nat.le_refl _) _ D _ _ (by simp at hD; omega) hK rfl rfl)⟩
    simp [results, Try.f74, go_sem, g0, g1]

end Go.Proofs.Ytglnmaekhpaffaa
