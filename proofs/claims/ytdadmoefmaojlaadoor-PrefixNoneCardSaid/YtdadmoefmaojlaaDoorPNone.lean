/- The contract of the law PrefixNone: it returns true, and nothing that lay is changed. -/
import Derived.Test.YtdadmoefmaojlaaDoorPGet
import Derived.Test.YtdadmoefmaojlaaDoorPKnown
namespace Go.Proofs.YtdadmoefmaojlaaDoor
open Go.RowKit Go.Shelf
set_option linter.unusedVariables false

/-- the pointer is nil, or leads to a tree that nobody made -/
def NoTree (w : World) (p : Option Addr) : Prop := p = none ∨ ∃ b, p = some ⟨b, 0, none⟩ ∧ w.cell? ⟨b, 0, none⟩ = some (.pointer none)
theorem tptr_nil (a : Addr) (w : World) : (binOp .eql 28 (.pointer none) (.pointer (some a))).run Tryd.prog w = .ok (.bool false) w := by kernel_rfl
theorem NoTree.below {w w' : World} {p : Option Addr} (h : NoTree w p) (hb : Below w.heap.size w w') : NoTree w' p := by
  rcases h with h | ⟨b, e, hc⟩
  · exact .inl h
  · exact .inr ⟨b, e, (hb.cell (p := ⟨b, 0, none⟩) (World.block_lt_of_cell? w _ hc)).trans hc⟩

theorem pmadeNone_any {w : World} {p : Option Addr} (h : NoTree w p) : Calls Tryd.prog 36 #[.pointer p] w fun e w' => e = .returned (.bool false) ∧ w = w' := by
  rcases h with rfl | ⟨b, rfl, hc⟩
  · go_enter Tryd.func36, Tryd.ntmps36
    go_wp2
    go_ret
    exact ⟨rfl, rfl⟩
  · have he := tptr_nil ⟨b, 0, none⟩ w
    go_enter Tryd.func36, Tryd.ntmps36
    go_wp2
    go_ret
    exact ⟨rfl, rfl⟩
set_option maxHeartbeats 1000000 in
theorem getPNone_any {w : World} {p : Option Addr} (h : NoTree w p) (a : Option Addr) (len cap : Nat) (x : Int) :
    Calls Tryd.prog 15 #[.pointer p, .slice a len cap, .int .i64 x] w fun e w' => e = .returned (.tuple #[.int .i64 0, .int .i64 0, .int .i64 1]) ∧ Below w.heap.size w w' := by
  have hB : Below w.heap.size w ((((w.alloc (Obj.cells #[Value.pointer p] 28)).alloc (Obj.cells #[Value.int IntKind.i64 0] 3)).alloc (Obj.cells #[Value.int IntKind.i64 0] 3)).alloc (Obj.cells #[Value.int IntKind.i64 0] 29)) :=
    ((((Below.refl _ w).alloc (Nat.le_refl _) _).alloc (by simp) _).alloc (by simp; omega) _).alloc (by simp; omega) _
  have HM := Lib.hid (pmadeNone_any (h.below hB))
  clear h hB
  go_enter Tryd.func15, Tryd.ntmps15
  go_wp2_with (go_at_call 36; refine HM.out.mono ?_; rintro e w' ⟨rfl, rfl⟩)
  exact bodyPost_ret (v := .tuple #[.int .i64 0, .int .i64 0, .int .i64 1]) (by simp [results, Tryd.f15, go_sem]) rfl ⟨rfl, ((((Below.refl _ w).alloc (Nat.le_refl _) _).alloc (by simp) _).alloc (by simp; omega) _).alloc (by simp; omega) _⟩
theorem putPNone_any {w : World} {p : Option Addr} (h : NoTree w p) (x : Int) :
    Calls Tryd.prog 17 #[.pointer p, .int .i64 x] w fun e w' => e = .returned (.tuple #[.string ⟨#[]⟩, .int .i64 1]) ∧ w = w' := by
  have HM := Lib.hid (pmadeNone_any h)
  clear h
  go_enter Tryd.func17, Tryd.ntmps17
  go_wp2_with (go_at_call 36; refine HM.out.mono ?_; rintro e w' ⟨rfl, rfl⟩)
  go_ret2
  exact ⟨rfl, rfl⟩
theorem codesPNone_any {w : World} {p : Option Addr} (h : NoTree w p) :
    Calls Tryd.prog 19 #[.pointer p] w fun e w' => e = .returned (.int .i64 0) ∧ w = w' := by
  have HM := Lib.hid (pmadeNone_any h)
  clear h
  go_enter Tryd.func19, Tryd.ntmps19
  go_wp2_with (go_at_call 36; refine HM.out.mono ?_; rintro e w' ⟨rfl, rfl⟩)
  go_ret
  exact ⟨rfl, rfl⟩

set_option maxRecDepth 100000 in
set_option maxHeartbeats 4000000 in
theorem prefixNone_walk (a : Option Addr) (len cap : Nat) (x y : Int) (w : World) :
    Calls Tryd.prog 4 #[.slice a len cap, .int .i64 x, .int .i64 y] w fun e w' => e = .returned (.bool true) ∧ Below w.heap.size w w' := by
  by_cases hlen : 100 < len
  · have hd : decide (100 < (len : Int)) = true := decide_eq_true (by omega)
    go_enter Tryd.func4, Tryd.ntmps4
    go_wp2_with (go_at_call 9; refine (awake3_any treeI _).mono ?_; rintro e w5 ⟨rfl, hb5⟩)
    go_ret
    exact ⟨rfl, hb5⟩
  · have hd : decide (100 < (len : Int)) = false := decide_eq_false (by omega)
    clear hlen
    obtain ⟨W0, hW0⟩ : ∃ W0, W0 = (w.alloc (Obj.cells #[.pointer none, .slice none 0 0, .map none, .map none] 46)).alloc (Obj.cells #[.pointer none, .pointer (some ⟨w.heap.size, 0, none⟩)] 28) := ⟨_, rfl⟩
    have hB0 : Below w.heap.size w W0 := by rw [hW0]; exact ((Below.refl _ w).alloc (Nat.le_refl _) _).alloc (by simp) _
    have k0 : W0.cell? ⟨w.heap.size + 1, 0, none⟩ = some (.pointer none) := by rw [hW0]; go_simp
    have k1 : W0.cell? ⟨w.heap.size + 1, 1, none⟩ = some (.pointer (some ⟨w.heap.size, 0, none⟩)) := by rw [hW0]; go_simp
    have k2 : W0.cell? ⟨w.heap.size, 0, none⟩ = some (.pointer none) := by rw [hW0]; go_simp
    have hs0 : W0.heap.size = w.heap.size + 1 + 1 := by rw [hW0]; simp
    have HB0 := Lib.hid hB0
    have K0 := Lib.hid k0
    have K1 := Lib.hid k1
    have K2 := Lib.hid k2
    have HS0 := Lib.hid hs0
    clear hB0 k0 k1 k2 hs0
    go_enter Tryd.func4, Tryd.ntmps4
    go_wp2
    rw [← hW0]
    have HW0 := Lib.hid hW0
    clear hW0
    go_loopw [8] (fun i wr => (i = .int .i64 0 ∨ i = .int .i64 1 ∨ i = .int .i64 2) ∧ Below W0.heap.size W0 wr) (fun i _ => 2 - (intOf i).toNat)
    case atStart => exact ⟨.inl rfl, Below.refl _ _⟩
    case round =>
      obtain ⟨hi, hb⟩ := hrel
      have hsz : w.heap.size + 1 < W0.heap.size := by have := HS0.out; omega
      have HB := Lib.hid hb
      have HK0 : Hid (∀ W, Below W0.heap.size W0 W → W.cell? ⟨w.heap.size + 1, 0, none⟩ = some (.pointer none)) := fun W h => (h.cell (p := ⟨w.heap.size + 1, 0, none⟩) hsz).trans K0.out
      have HK1 : Hid (∀ W, Below W0.heap.size W0 W → W.cell? ⟨w.heap.size + 1, 1, none⟩ = some (.pointer (some ⟨w.heap.size, 0, none⟩))) := fun W h => (h.cell (p := ⟨w.heap.size + 1, 1, none⟩) hsz).trans K1.out
      have HN : Hid (∀ W, Below W0.heap.size W0 W → NoTree W (some ⟨w.heap.size, 0, none⟩)) := fun W h => .inr ⟨_, rfl, (h.cell (p := ⟨w.heap.size, 0, none⟩) (by show w.heap.size < W0.heap.size; omega)).trans K2.out⟩
      clear hsz
      have c0 := HK0.out wr hb
      have c1 := HK1.out wr hb
      clear hb
      rcases hi with rfl | rfl | rfl
      · go_wp2_with fail
        refine (getPNone_any (.inl rfl) a len cap x).mono ?_
        rintro e w4 ⟨rfl, b4⟩
        have B4 := below_chain HB.out (Nat.le_refl _) b4
        have d0 := HK0.out w4 B4
        have d1 := HK1.out w4 B4
        clear c0 c1
        go_wp2_with (first | (go_at_call 17; refine (putPNone_any (.inl rfl) y).mono ?_; rintro e w5 ⟨rfl, rfl⟩) | (go_at_call 19; refine (codesPNone_any (.inl rfl)).mono ?_; rintro e w5 ⟨rfl, rfl⟩))
        go_roundw
        case rel => exact ⟨.inr (.inl rfl), B4⟩
        case measure => simp [intOf]
      · go_wp2_with fail
        refine (getPNone_any (HN.out wr HB.out) a len cap x).mono ?_
        rintro e w4 ⟨rfl, b4⟩
        have B4 := below_chain HB.out (Nat.le_refl _) b4
        have d0 := HK0.out w4 B4
        have d1 := HK1.out w4 B4
        have HN4 := Lib.hid (HN.out w4 B4)
        clear c0 c1
        go_wp2_with (first | (go_at_call 17; refine (putPNone_any HN4.out y).mono ?_; rintro e w5 ⟨rfl, rfl⟩) | (go_at_call 19; refine (codesPNone_any HN4.out).mono ?_; rintro e w5 ⟨rfl, rfl⟩))
        go_roundw
        case rel => exact ⟨.inr (.inr rfl), B4⟩
        case measure => simp [intOf]
      · go_wp2_with (go_at_call 9; refine (awake3_any treeI _).mono ?_; rintro e w5 ⟨rfl, hb5⟩)
        go_ret
        exact ⟨rfl, below_chain (below_chain HB0.out (Nat.le_refl _) HB.out) (Nat.le_refl _) hb5⟩

end Go.Proofs.YtdadmoefmaojlaaDoor
