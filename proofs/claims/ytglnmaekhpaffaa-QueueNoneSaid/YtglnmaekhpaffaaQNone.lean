/- The contract of the law QueueNone: it returns true, and nothing that lay is changed. -/
import Derived.Test.YtglnmaekhpaffaaQKnown
namespace Go.Proofs.Ytglnmaekhpaffaa
open Go.RowKit Go.Shelf
set_option linter.unusedVariables false

/-- the pointer is nil, or leads to a queue that nobody made -/
def NoQueue (w : World) (p : Option Addr) : Prop := p = none ∨ ∃ b, p = some ⟨b, 0, none⟩ ∧ w.cell? ⟨b, 0, none⟩ = some (.pointer none)
theorem NoQueue.later {w w' : World} {p : Option Addr} (h : NoQueue w p) (hb : Below w.heap.size w w') : NoQueue w' p := by
  rcases h with rfl | ⟨b, rfl, hc⟩
  · exact .inl rfl
  · exact .inr ⟨b, rfl, (hb.cell (p := ⟨b, 0, none⟩) (cell_lt hc)).trans hc⟩

theorem qptr_nil (a : Addr) (w : World) : (binOp .eql 42 (.pointer none) (.pointer (some a))).run Try.prog w = .ok (.bool false) w := by kernel_rfl

theorem qmadeNone {w : World} {p : Option Addr} (h : NoQueue w p) : Calls Try.prog 54 #[.pointer p] w fun e w' => e = .returned (.bool false) ∧ w = w' := by
  rcases h with rfl | ⟨b, rfl, hc⟩
  · go_enter Try.func54, Try.ntmps54
    go_wp2
    go_ret
    exact ⟨rfl, rfl⟩
  · have he := qptr_nil ⟨b, 0, none⟩ w
    go_enter Try.func54, Try.ntmps54
    go_wp2
    go_ret
    exact ⟨rfl, rfl⟩
theorem qfeedNone {w : World} {p : Option Addr} (h : NoQueue w p) (sv : Value) : Calls Try.prog 26 #[.pointer p, sv] w fun e w' => e = .returned (.tuple #[.int .i64 0, .int .i64 1]) ∧ w = w' := by
  have HM := Lib.hid (qmadeNone h)
  clear h
  go_enter Try.func26, Try.ntmps26
  go_wp2_with (go_at_call 54; refine HM.out.mono ?_; rintro e w' ⟨rfl, rfl⟩)
  go_ret2
  exact ⟨rfl, rfl⟩
theorem qendNone {w : World} {p : Option Addr} (h : NoQueue w p) : Calls Try.prog 31 #[.pointer p] w fun e w' => e = .returned (.int .i64 1) ∧ w = w' := by
  have HM := Lib.hid (qmadeNone h)
  clear h
  go_enter Try.func31, Try.ntmps31
  go_wp2_with (go_at_call 54; refine HM.out.mono ?_; rintro e w' ⟨rfl, rfl⟩)
  go_ret
  exact ⟨rfl, rfl⟩
theorem qskipNone {w : World} {p : Option Addr} (h : NoQueue w p) (n : Int) : Calls Try.prog 29 #[.pointer p, .int .i64 n] w fun e w' => e = .returned (.int .i64 1) ∧ w = w' := by
  have HM := Lib.hid (qmadeNone h)
  clear h
  go_enter Try.func29, Try.ntmps29
  go_wp2_with (go_at_call 54; refine HM.out.mono ?_; rintro e w' ⟨rfl, rfl⟩)
  go_ret
  exact ⟨rfl, rfl⟩
theorem qbitsNone {w : World} {p : Option Addr} (h : NoQueue w p) : Calls Try.prog 34 #[.pointer p] w fun e w' => e = .returned (.tuple #[.slice none 0 0, .int .i64 0]) ∧ w = w' := by
  have HM := Lib.hid (qmadeNone h)
  clear h
  go_enter Try.func34, Try.ntmps34
  go_wp2_with (go_at_call 54; refine HM.out.mono ?_; rintro e w' ⟨rfl, rfl⟩)
  go_ret2
  exact ⟨rfl, rfl⟩
theorem qendedNone {w : World} {p : Option Addr} (h : NoQueue w p) : Calls Try.prog 39 #[.pointer p] w fun e w' => e = .returned (.bool false) ∧ w = w' := by
  have HM := Lib.hid (qmadeNone h)
  clear h
  go_enter Try.func39, Try.ntmps39
  go_wp2_with (go_at_call 54; refine HM.out.mono ?_; rintro e w' ⟨rfl, rfl⟩)
  go_ret
  exact ⟨rfl, rfl⟩
set_option maxHeartbeats 400000 in
theorem qknownNone {w : World} {p : Option Addr} (h : NoQueue w p) : Calls Try.prog 64 #[.pointer p] w fun e w' => e = .returned (szV 0 0 0) ∧ Below w.heap.size w w' := by
  have HM := Lib.hid (fun w' (hb : Below w.heap.size w w') => qmadeNone (h.later hb))
  clear h
  go_enter Try.func64, Try.ntmps64
  go_wp2_with (go_at_call 54; refine (HM.out _ ((Below.refl _ _).alloc (Nat.le_refl _) _)).mono ?_; rintro e w' ⟨rfl, rfl⟩)
  exact bodyPost_ret (v := szV 0 0 0) (by simp [results, Try.f64, go_sem]) rfl ⟨rfl, (Below.refl _ _).alloc (Nat.le_refl _) _⟩
set_option maxHeartbeats 400000 in
theorem qleftNone {w : World} {p : Option Addr} (h : NoQueue w p) : Calls Try.prog 35 #[.pointer p] w fun e w' => e = .returned (.int .i64 0) ∧ Below w.heap.size w w' := by
  have HK := Lib.hid (qknownNone h)
  clear h
  go_enter Try.func35, Try.ntmps35
  go_wp2_with fail
  refine HK.out.mono ?_
  rintro e w1 ⟨rfl, b1⟩
  go_wp2_with fail
  refine (left_any 0 0 0 _ (by omega) (by omega)).mono ?_
  rintro e w2 ⟨rfl, b2⟩
  go_wp2
  go_ret
  exact ⟨rfl, below_chain b1 (Nat.le_refl _) b2⟩
set_option maxHeartbeats 400000 in
theorem qfreeNone {w : World} {p : Option Addr} (h : NoQueue w p) : Calls Try.prog 36 #[.pointer p] w fun e w' => e = .returned (.int .i64 0) ∧ Below w.heap.size w w' := by
  have HK := Lib.hid (qknownNone h)
  clear h
  go_enter Try.func36, Try.ntmps36
  go_wp2_with fail
  refine HK.out.mono ?_
  rintro e w1 ⟨rfl, b1⟩
  go_wp2_with fail
  refine (free_any 0 0 0 _ (by omega) (by omega) (by omega) (by omega)).mono ?_
  rintro e w2 ⟨rfl, b2⟩
  go_wp2
  go_ret
  exact ⟨rfl, below_chain b1 (Nat.le_refl _) b2⟩
set_option maxRecDepth 100000 in
set_option maxHeartbeats 400000 in
theorem qcameNone {w : World} {p : Option Addr} (h : NoQueue w p) : Calls Try.prog 37 #[.pointer p] w fun e w' => e = .returned (.int .i64 0) ∧ Below w.heap.size w w' := by
  have HK := Lib.hid (qknownNone h)
  have hfld := fun (m c g : Value) (w : World) => sz_came m c g w
  clear h
  go_enter Try.func37, Try.ntmps37
  go_wp2_with fail
  refine HK.out.mono ?_
  rintro e w1 ⟨rfl, b1⟩
  go_wp2
  go_ret
  exact ⟨rfl, b1⟩
set_option maxRecDepth 100000 in
set_option maxHeartbeats 400000 in
theorem qgoneNone {w : World} {p : Option Addr} (h : NoQueue w p) : Calls Try.prog 38 #[.pointer p] w fun e w' => e = .returned (.int .i64 0) ∧ Below w.heap.size w w' := by
  have HK := Lib.hid (qknownNone h)
  have hfld := fun (m c g : Value) (w : World) => sz_gone m c g w
  clear h
  go_enter Try.func38, Try.ntmps38
  go_wp2_with fail
  refine HK.out.mono ?_
  rintro e w1 ⟨rfl, b1⟩
  go_wp2
  go_ret
  exact ⟨rfl, b1⟩

/-- one round of the law: all calls of a queue that is none -/
theorem len_row {a : Option Addr} {len cap : Nat} {zs : List UInt8} {w : World} {n₀ : Nat} (h : Byt n₀ w (.slice a len cap) zs) : zs.length = len := by
  obtain ⟨_, _, e, _⟩ := h; simp at e; exact e.2.1.symm

set_option maxRecDepth 100000 in
set_option maxHeartbeats 4000000 in
theorem queueNone_walk (a : Option Addr) (len cap : Nat) (zs : List Int) (n : Int) (w : World) (h : IsRow .u8 w a len cap zs) (hn : (Lit.int .i64 n).wf = true) :
    Calls Try.prog 5 #[.slice a len cap, .int .i64 n] w fun e w' => e = .returned (.bool true) ∧ Below w.heap.size w w' := by
  have hl : len ≤ 9223372036854775807 := by
    rcases h with ⟨_, rfl, _⟩ | ⟨x, _, h1, h2, _⟩
    · omega
    · unfold maxLen at h2; omega
  clear h hn
  by_cases hlen : 100 < len
  · go_enter Try.func5, Try.ntmps5
    go_wp2_with (go_at_call 24; refine (awake2_any _).mono ?_; rintro e w5 ⟨rfl, hb5⟩)
    go_ret
    exact ⟨rfl, hb5⟩
  · have hd100 : decide ((100 : Int) < (len : Int)) = false := by simp; omega
    go_enter Try.func5, Try.ntmps5
    go_wp2_with fail
    have z0 : ((w.alloc (Obj.cells #[Value.pointer none, Value.int IntKind.i64 0, Value.int IntKind.i64 0, Value.int IntKind.i64 0, Value.slice none 0 0, Value.bool false] 61)).alloc (Obj.cells #[Value.pointer none, Value.pointer (some { block := w.heap.size, off := 0 })] 42)).cell? ⟨w.heap.size, 0, none⟩ = some (.pointer none) := by go_simp
    have z1 : ((w.alloc (Obj.cells #[Value.pointer none, Value.int IntKind.i64 0, Value.int IntKind.i64 0, Value.int IntKind.i64 0, Value.slice none 0 0, Value.bool false] 61)).alloc (Obj.cells #[Value.pointer none, Value.pointer (some { block := w.heap.size, off := 0 })] 42)).cell? ⟨w.heap.size + 1, 0, none⟩ = some (.pointer none) := by go_simp
    have z2 : ((w.alloc (Obj.cells #[Value.pointer none, Value.int IntKind.i64 0, Value.int IntKind.i64 0, Value.int IntKind.i64 0, Value.slice none 0 0, Value.bool false] 61)).alloc (Obj.cells #[Value.pointer none, Value.pointer (some { block := w.heap.size, off := 0 })] 42)).cell? ⟨w.heap.size + 1, 1, none⟩ = some (.pointer (some ⟨w.heap.size, 0, none⟩)) := by go_simp
    have zb : Below w.heap.size w ((w.alloc (Obj.cells #[Value.pointer none, Value.int IntKind.i64 0, Value.int IntKind.i64 0, Value.int IntKind.i64 0, Value.slice none 0 0, Value.bool false] 61)).alloc (Obj.cells #[Value.pointer none, Value.pointer (some { block := w.heap.size, off := 0 })] 42)) := ((Below.refl _ w).alloc (Nat.le_refl _) _).alloc (by simp) _
    generalize ((w.alloc (Obj.cells #[Value.pointer none, Value.int IntKind.i64 0, Value.int IntKind.i64 0, Value.int IntKind.i64 0, Value.slice none 0 0, Value.bool false] 61)).alloc (Obj.cells #[Value.pointer none, Value.pointer (some { block := w.heap.size, off := 0 })] 42)) = W1 at *
    have l0 := cell_lt z0
    have l1 := cell_lt z1
    simp only at l0 l1
    have Z0 := Lib.hid z0
    have Z1 := Lib.hid z1
    have Z2 := Lib.hid z2
    clear z0 z1 z2
    go_loopw [6] (fun i wr => (i = .int .i64 0 ∨ i = .int .i64 1 ∨ i = .int .i64 2) ∧ Below W1.heap.size W1 wr) (fun i _ => 2 - (intOf i).toNat)
    case atStart => exact ⟨.inl rfl, Below.refl _ _⟩
    case round =>
      obtain ⟨hi, hb⟩ := hrel
      have hs := hb.size
      have HB := Lib.hid hb
      rcases hi with rfl | rfl | rfl
      · have y1 := (hb.cell (p := ⟨w.heap.size + 1, 0, none⟩) l1).trans Z1.out
        have HN : Hid (∀ w', Below wr.heap.size wr w' → NoQueue w' none) := fun w' _ => .inl rfl
        clear hb
        go_wp2_with fail
        refine (qfeedNone (HN.out _ (Below.refl _ _)) _).mono ?_
        rintro e w5 ⟨rfl, rfl⟩
        go_wp2_with fail
        refine (qbitsNone (HN.out _ (Below.refl _ _))).mono ?_
        rintro e w5 ⟨rfl, rfl⟩
        go_wp2_with fail
        refine (qendNone (HN.out _ (Below.refl _ _))).mono ?_
        rintro e w5 ⟨rfl, rfl⟩
        go_wp2_with fail
        refine (qskipNone (HN.out _ (Below.refl _ _)) _).mono ?_
        rintro e w5 ⟨rfl, rfl⟩
        go_wp2_with fail
        refine (qleftNone (HN.out _ (Below.refl _ _))).mono ?_
        rintro e w1 ⟨rfl, b1⟩
        go_wp2_with fail
        refine (qfreeNone (HN.out _ b1)).mono ?_
        rintro e w2 ⟨rfl, d2⟩
        have b2 := below_chain b1 (Nat.le_refl _) d2
        go_wp2_with fail
        refine (qcameNone (HN.out _ b2)).mono ?_
        rintro e w3 ⟨rfl, d3⟩
        have b3 := below_chain b2 (Nat.le_refl _) d3
        go_wp2_with fail
        refine (qgoneNone (HN.out _ b3)).mono ?_
        rintro e w4 ⟨rfl, d4⟩
        have b4 := below_chain b3 (Nat.le_refl _) d4
        go_wp2_with fail
        refine (qendedNone (HN.out _ b4)).mono ?_
        rintro e w5 ⟨rfl, rfl⟩
        have b5 := below_chain HB.out (Nat.le_refl _) b4
        clear b1 d2 b2 d3 b3 d4
        go_wp2
        go_roundw
        case rel => exact ⟨.inr (.inl rfl), b5⟩
        case measure => simp [intOf]
      · have y1 := (hb.cell (p := ⟨w.heap.size + 1, 1, none⟩) l1).trans Z2.out
        have HN : Hid (∀ w', Below wr.heap.size wr w' → NoQueue w' (some ⟨w.heap.size, 0, none⟩)) := fun w' hw => .inr ⟨_, rfl, (hw.cell (p := ⟨w.heap.size, 0, none⟩) (by simp only; omega)).trans ((HB.out.cell (p := ⟨w.heap.size, 0, none⟩) l0).trans Z0.out)⟩
        clear hb
        go_wp2_with fail
        refine (qfeedNone (HN.out _ (Below.refl _ _)) _).mono ?_
        rintro e w5 ⟨rfl, rfl⟩
        go_wp2_with fail
        refine (qbitsNone (HN.out _ (Below.refl _ _))).mono ?_
        rintro e w5 ⟨rfl, rfl⟩
        go_wp2_with fail
        refine (qendNone (HN.out _ (Below.refl _ _))).mono ?_
        rintro e w5 ⟨rfl, rfl⟩
        go_wp2_with fail
        refine (qskipNone (HN.out _ (Below.refl _ _)) _).mono ?_
        rintro e w5 ⟨rfl, rfl⟩
        go_wp2_with fail
        refine (qleftNone (HN.out _ (Below.refl _ _))).mono ?_
        rintro e w1 ⟨rfl, b1⟩
        go_wp2_with fail
        refine (qfreeNone (HN.out _ b1)).mono ?_
        rintro e w2 ⟨rfl, d2⟩
        have b2 := below_chain b1 (Nat.le_refl _) d2
        go_wp2_with fail
        refine (qcameNone (HN.out _ b2)).mono ?_
        rintro e w3 ⟨rfl, d3⟩
        have b3 := below_chain b2 (Nat.le_refl _) d3
        go_wp2_with fail
        refine (qgoneNone (HN.out _ b3)).mono ?_
        rintro e w4 ⟨rfl, d4⟩
        have b4 := below_chain b3 (Nat.le_refl _) d4
        go_wp2_with fail
        refine (qendedNone (HN.out _ b4)).mono ?_
        rintro e w5 ⟨rfl, rfl⟩
        have b5 := below_chain HB.out (Nat.le_refl _) b4
        clear b1 d2 b2 d3 b3 d4
        go_wp2
        go_roundw
        case rel => exact ⟨.inr (.inr rfl), b5⟩
        case measure => simp [intOf]
      · clear hb
        go_wp2_with (go_at_call 24; refine (awake2_any _).mono ?_; rintro e w5 ⟨rfl, hb5⟩)
        go_ret
        exact ⟨rfl, below_chain (below_chain zb (Nat.le_refl _) HB.out) (Nat.le_refl _) hb5⟩

end Go.Proofs.Ytglnmaekhpaffaa
