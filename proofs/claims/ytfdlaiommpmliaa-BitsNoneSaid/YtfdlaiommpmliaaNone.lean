/- The contract of the law BitsNone: it returns true, and nothing that lay is changed. -/
import Derived.Test.YtfdlaiommpmliaaActs
namespace Go.Proofs.Ytfdlaiommpmliaa
open Go.RowKit Go.Shelf
set_option linter.unusedVariables false

/-- the pointer is nil, or leads to a pen that nobody made -/
def NoPen (w : World) (p : Option Addr) : Prop := p = none ∨ ∃ b, p = some ⟨b, 0, none⟩ ∧ w.cell? ⟨b, 0, none⟩ = some (.pointer none)

theorem ptr_nil (a : Addr) (w : World) : (binOp .eql 25 (.pointer none) (.pointer (some a))).run Try.prog w = .ok (.bool false) w := by kernel_rfl

theorem madeNone_any {w : World} {p : Option Addr} (h : NoPen w p) : Calls Try.prog 30 #[.pointer p] w fun e w' => e = .returned (.bool false) ∧ w = w' := by
  rcases h with rfl | ⟨b, rfl, hc⟩
  · go_enter Try.func30, Try.ntmps30
    go_wp2
    go_ret
    exact ⟨rfl, rfl⟩
  · have he := ptr_nil ⟨b, 0, none⟩ w
    go_enter Try.func30, Try.ntmps30
    go_wp2
    go_ret
    exact ⟨rfl, rfl⟩
theorem putNone_any {w : World} {p : Option Addr} (h : NoPen w p) (n k : Int) : Calls Try.prog 15 #[.pointer p, .int .i64 n, .int .i64 k] w fun e w' => e = .returned (.int .i64 1) ∧ w = w' := by
  have HM := Lib.hid (madeNone_any h)
  clear h
  go_enter Try.func15, Try.ntmps15
  go_wp2_with (go_at_call 30; refine HM.out.mono ?_; rintro e w' ⟨rfl, rfl⟩)
  go_ret
  exact ⟨rfl, rfl⟩
theorem codeNone_any {w : World} {p : Option Addr} (h : NoPen w p) (s : ByteArray) : Calls Try.prog 13 #[.pointer p, .string s] w fun e w' => e = .returned (.int .i64 1) ∧ w = w' := by
  have HM := Lib.hid (madeNone_any h)
  clear h
  go_enter Try.func13, Try.ntmps13
  go_wp2_with (go_at_call 30; refine HM.out.mono ?_; rintro e w' ⟨rfl, rfl⟩)
  go_ret
  exact ⟨rfl, rfl⟩
theorem lenNone_any {w : World} {p : Option Addr} (h : NoPen w p) : Calls Try.prog 12 #[.pointer p] w fun e w' => e = .returned (.int .i64 0) ∧ w = w' := by
  have HM := Lib.hid (madeNone_any h)
  clear h
  go_enter Try.func12, Try.ntmps12
  go_wp2_with (go_at_call 30; refine HM.out.mono ?_; rintro e w' ⟨rfl, rfl⟩)
  go_ret
  exact ⟨rfl, rfl⟩
theorem bytesNone_any {w : World} {p : Option Addr} (h : NoPen w p) : Calls Try.prog 17 #[.pointer p] w fun e w' => e = .returned (.slice none 0 0) ∧ w = w' := by
  have HM := Lib.hid (madeNone_any h)
  clear h
  go_enter Try.func17, Try.ntmps17
  go_wp2_with (go_at_call 30; refine HM.out.mono ?_; rintro e w' ⟨rfl, rfl⟩)
  go_ret
  exact ⟨rfl, rfl⟩

set_option maxRecDepth 100000 in
set_option maxHeartbeats 2000000 in
theorem none_law (c : Bool) (n k : Int) (s : ByteArray) (w : World) (hn : n ≤ 9223372036854775807) (hs : s.size ≤ 9223372036854775807) :
    Calls Try.prog 4 #[.agg #[.bool c, .int .i64 n, .int .i64 k, .string s]] w fun e w' => e = .returned (.bool true) ∧ Below w.heap.size w w' := by
  have hb1 : Below w.heap.size w ((w.alloc (Obj.cells #[Value.bool c, Value.int IntKind.i64 n, Value.int IntKind.i64 k, Value.string s] 33)).alloc (Obj.cells #[Value.bool c, Value.int IntKind.i64 n, Value.int IntKind.i64 k, Value.string s] 33)) :=
    ((Below.refl _ w).alloc (Nat.le_refl _) _).alloc (by simp) _
  have ha : IsActs (w.heap.size + 2) ((w.alloc (Obj.cells #[Value.bool c, Value.int IntKind.i64 n, Value.int IntKind.i64 k, Value.string s] 33)).alloc (Obj.cells #[Value.bool c, Value.int IntKind.i64 n, Value.int IntKind.i64 k, Value.string s] 33)) (.slice (some ⟨w.heap.size + 1, 0, none⟩) 1 1) [⟨c, n, k, s⟩] := by
    refine ⟨_, 1, rfl, by simp, by simpa [Act4.ok] using ⟨hn, hs⟩, .inr ⟨w.heap.size + 1, 0, rfl, by omega, fun i hi j hj => ?_⟩⟩
    obtain rfl : i = 0 := by simp at hi; omega
    match j, hj with
    | 0, _ => go_simp; rfl
    | 1, _ => go_simp; rfl
    | 2, _ => go_simp; rfl
    | 3, _ => go_simp; rfl
  have d1 : (w.alloc (Obj.cells #[Value.bool c, Value.int IntKind.i64 n, Value.int IntKind.i64 k, Value.string s] 33)).heap.size = w.heap.size + 1 := by simp
  have e1 : ∀ o : Obj, ((w.alloc (Obj.cells #[Value.bool c, Value.int IntKind.i64 n, Value.int IntKind.i64 k, Value.string s] 33)).alloc o).cell? ⟨w.heap.size, 1, none⟩ = some (.int .i64 n) := fun o => by go_simp
  have e2 : ∀ o : Obj, ((w.alloc (Obj.cells #[Value.bool c, Value.int IntKind.i64 n, Value.int IntKind.i64 k, Value.string s] 33)).alloc o).cell? ⟨w.heap.size, 2, none⟩ = some (.int .i64 k) := fun o => by go_simp
  have e3 : ∀ o : Obj, ((w.alloc (Obj.cells #[Value.bool c, Value.int IntKind.i64 n, Value.int IntKind.i64 k, Value.string s] 33)).alloc o).cell? ⟨w.heap.size, 3, none⟩ = some (.string s) := fun o => by go_simp
  replace e1 := e1 (Obj.cells #[Value.bool c, Value.int IntKind.i64 n, Value.int IntKind.i64 k, Value.string s] 33)
  replace e2 := e2 (Obj.cells #[Value.bool c, Value.int IntKind.i64 n, Value.int IntKind.i64 k, Value.string s] 33)
  replace e3 := e3 (Obj.cells #[Value.bool c, Value.int IntKind.i64 n, Value.int IntKind.i64 k, Value.string s] 33)
  have hsz : w.heap.size + 2 ≤ ((w.alloc (Obj.cells #[Value.bool c, Value.int IntKind.i64 n, Value.int IntKind.i64 k, Value.string s] 33)).alloc (Obj.cells #[Value.bool c, Value.int IntKind.i64 n, Value.int IntKind.i64 k, Value.string s] 33)).heap.size := by simp
  have HL := Lib.hid (long_any ha)
  have hlb : longB [⟨c, n, k, s⟩] = decide (100 < s.size) := by simp [longB]
  rw [hlb] at HL
  have HB1 := Lib.hid hb1
  have E1 := Lib.hid e1
  have E2 := Lib.hid e2
  have E3 := Lib.hid e3
  clear ha hlb hb1 d1 e1 e2 e3
  by_cases hs100 : 100 < s.size
  · have hd : decide (100 < s.size) = true := by simpa using hs100
    rw [hd] at HL
    go_enter Try.func4, Try.ntmps4
    go_wp2_with fail
    refine HL.out.mono ?_
    rintro e w2 ⟨rfl, rfl⟩
    generalize ((w.alloc (Obj.cells #[Value.bool c, Value.int IntKind.i64 n, Value.int IntKind.i64 k, Value.string s] 33)).alloc (Obj.cells #[Value.bool c, Value.int IntKind.i64 n, Value.int IntKind.i64 k, Value.string s] 33)) = W at *
    go_wp2_with fail
    refine (awake_any W).mono ?_
    rintro e w3 ⟨rfl, hb3⟩
    go_wp2
    go_ret
    exact ⟨rfl, below_chain HB1.out (Nat.le_refl _) hb3⟩
  · have hd : decide (100 < s.size) = false := by simpa using hs100
    rw [hd] at HL
    go_enter Try.func4, Try.ntmps4
    go_wp2_with fail
    refine HL.out.mono ?_
    rintro e w2 ⟨rfl, rfl⟩
    generalize ((w.alloc (Obj.cells #[Value.bool c, Value.int IntKind.i64 n, Value.int IntKind.i64 k, Value.string s] 33)).alloc (Obj.cells #[Value.bool c, Value.int IntKind.i64 n, Value.int IntKind.i64 k, Value.string s] 33)) = W at *
    clear HL hd
    go_wp2_with fail
    go_loop [4] (fun i => i = .int .i64 0 ∨ i = .int .i64 1 ∨ i = .int .i64 2) (fun i => 2 - (intOf i).toNat)
    case atStart => exact .inl rfl
    case round =>
      have c1 := E1.out
      have c2 := E2.out
      have c3 := E3.out
      have l0 : w.heap.size < W.heap.size := by omega
      have hn0 : NoPen ((W.alloc (Obj.cells #[Value.pointer none, Value.slice none 0 0, Value.int IntKind.i64 0] 42)).alloc (Obj.cells #[Value.pointer none, Value.pointer (some { block := W.heap.size, off := 0 })] 25)) none := .inl rfl
      have hn1 : NoPen ((W.alloc (Obj.cells #[Value.pointer none, Value.slice none 0 0, Value.int IntKind.i64 0] 42)).alloc (Obj.cells #[Value.pointer none, Value.pointer (some { block := W.heap.size, off := 0 })] 25)) (some ⟨W.heap.size, 0, none⟩) := .inr ⟨_, rfl, by go_simp⟩
      have HN0 := Lib.hid hn0
      have HN1 := Lib.hid hn1
      clear hn0 hn1
      rcases hrel with rfl | rfl | rfl
      · go_wp2_with (first | (go_at_call 15; refine (putNone_any HN0.out _ _).mono ?_; rintro e w5 ⟨rfl, rfl⟩) | (go_at_call 13; refine (codeNone_any HN0.out _).mono ?_; rintro e w5 ⟨rfl, rfl⟩) | (go_at_call 12; refine (lenNone_any HN0.out).mono ?_; rintro e w5 ⟨rfl, rfl⟩) | (go_at_call 17; refine (bytesNone_any HN0.out).mono ?_; rintro e w5 ⟨rfl, rfl⟩))
        exact ⟨.inr (.inl rfl), by simp [intOf]⟩
      · go_wp2_with (first | (go_at_call 15; refine (putNone_any HN1.out _ _).mono ?_; rintro e w5 ⟨rfl, rfl⟩) | (go_at_call 13; refine (codeNone_any HN1.out _).mono ?_; rintro e w5 ⟨rfl, rfl⟩) | (go_at_call 12; refine (lenNone_any HN1.out).mono ?_; rintro e w5 ⟨rfl, rfl⟩) | (go_at_call 17; refine (bytesNone_any HN1.out).mono ?_; rintro e w5 ⟨rfl, rfl⟩))
        exact ⟨.inr (.inr rfl), by simp [intOf]⟩
      · have hb2 : Below w.heap.size w ((W.alloc (Obj.cells #[Value.pointer none, Value.slice none 0 0, Value.int IntKind.i64 0] 42)).alloc (Obj.cells #[Value.pointer none, Value.pointer (some { block := W.heap.size, off := 0 })] 25)) :=
          (HB1.out.alloc HB1.out.size _).alloc (by have := HB1.out.size; simp; omega) _
        go_wp2_with (go_at_call 10; refine (awake_any _).mono ?_; rintro e w5 ⟨rfl, hb5⟩)
        go_ret
        exact ⟨rfl, below_chain hb2 (Nat.le_refl _) hb5⟩

end Go.Proofs.Ytfdlaiommpmliaa
