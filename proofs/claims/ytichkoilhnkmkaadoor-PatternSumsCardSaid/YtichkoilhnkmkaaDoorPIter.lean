/- prefix's iterators: bitsOf (the bits that a text spells) and bitsOn (the bits from a place on). prefix's tree in memory: its nodes; contracts of made, isEnd, lay. Contracts of prefix's name and read. -/
import Derived.Test.YtichkoilhnkmkaaDoorPCode
import Derived.Test.YtichkoilhnkmkaaDoorFind
/- prefix's iterators: bitsOf (the bits that a text spells) and bitsOn (the bits from a place on). -/
namespace Go.Proofs.YtichkoilhnkmkaaDoor
open Go.RowKit Go.Shelf
set_option linter.unusedVariables false
attribute [local go_sem] Oper.semAt_some

/-! ### bitsOf -/
/-- what bitsOf hands to a round -/
abbrev encT (s : ByteArray) (k : Nat) : Array Value := #[.int .i64 ((bitsL s)[k]?.getD 0 : Nat)]
theorem bitsOf_in (F : Fence) (n : Nat) (hf : F.fn 67) (hro : F.round = none) (s : ByteArray) (w : World) :
    CallsIn F n Tryd.prog 67 #[.string s] w fun e w' => e = .returned (.func (.func 74) #[] #[.pointer (some ⟨w.heap.size, 0, none⟩)]) ∧ w' = w.alloc (.cells #[.string s] 9) := by
  refine callsIn_of_wp Tryd.func67 rfl hf ?_ hro
  simp only [Tryd.ntmps67, List.size_toArray, List.length_cons, List.length_nil, Nat.reduceAdd, Nat.reduceSub, Array.replicate_succ, Array.replicate_zero, List.push_toArray, List.append_toArray, List.nil_append, List.cons_append]
  gi_wp2
  go_ret
  exact ⟨rfl, rfl⟩

theorem bitsL_val {s : ByteArray} (hs : AllBits s) {k : Nat} (hk : k < s.size) : (((bitsL s)[k]?.getD 0 : Nat) : Int) = ((s[k].toNat : Int) - 48) % 256 := by
  have e : (bitsL s)[k]? = some (s[k].toNat - 48) := by
    rw [List.getElem?_eq_getElem (by rw [bitsL_len]; exact hk)]
    unfold bitsL
    rw [List.getElem_map]
    have : s.data.toList[k]'(by simpa using hk) = s[k] := by simp; rfl
    rw [this]
  rw [e, Option.getD_some]
  rcases hs k hk with h | h
  · rw [h]; decide
  · rw [h]; decide

set_option maxRecDepth 100000 in
set_option maxHeartbeats 2000000 in
theorem bitsOf1_in (n : Nat) (hn : 1 ≤ n) (l m bb : Nat) (s : ByteArray) (hs : AllBits s) (hsz : s.size ≤ 9223372036854775807) (J Jx : List Nat → World → Prop)
    (hY : ∀ pre x W, J pre W → pre.length < s.size → YieldAt Fence.wide (n - 1) Tryd.prog l (encT s x) W fun e W' =>
      (e = .returned (.bool true) ∧ J (pre ++ [x]) W' ∧ KpB m bb bb W W') ∨ (e = .returned (.bool false) ∧ Jx (pre ++ [x]) W'))
    (W : World) (hbb : W.cell? ⟨bb, 0, none⟩ = some (.string s)) (h0 : J [] W) :
    CallsIn Fence.wide n Tryd.prog 74 #[.func (.yield l) #[] #[], .pointer (some ⟨bb, 0, none⟩)] W fun e W' => (∃ v, e = .returned v) ∧
      ((∃ ys, ys = List.range s.size ∧ J ys W') ∨ (∃ pre, (∃ k, k < s.size ∧ pre = List.range (k + 1)) ∧ Jx pre W')) := by
  have HS := Lib.hid hs
  clear hs
  refine callsIn_of_wp Tryd.func74 rfl trivial ?_ rfl
  simp only [Tryd.ntmps74, List.size_toArray, List.length_cons, List.length_nil, Nat.reduceAdd, Nat.reduceSub, Array.replicate_succ, Array.replicate_zero, List.push_toArray, List.append_toArray, List.nil_append, List.cons_append]
  gi_wp2
  gi_loopw [6] (fun p wr => ∃ k : Nat, k ≤ s.size ∧ p = .int .i64 k ∧ J (List.range k) wr ∧ KpB m bb bb W wr)
    (fun p _ => s.size - (intOf p).toNat)
  case atStart => exact ⟨0, Nat.zero_le _, rfl, h0, KpB.rfl⟩
  case round =>
    obtain ⟨k, hk, rfl, hJs, hK⟩ := hrel
    have hbb' := hK.2.1.trans hbb
    by_cases hlt : k < s.size
    · obtain ⟨fn, tmps, assign, body, hy, hR⟩ := hY _ k wr hJs (by simpa using hlt)
      simp only [encT] at hy
      rw [bitsL_val HS.out hlt] at hy
      gi_wp2
      refine hR.mono ?_
      rintro e W3 (⟨rfl, hJ3, hk3⟩ | ⟨rfl, hJx3⟩)
      · gi_wp2
        go_roundw
        case rel => exact ⟨k + 1, by omega, by go_num, by rw [List.range_succ]; exact hJ3, hK.t hk3⟩
        case measure => simp [intOf]; omega
      · gi_wp2
        refine bodyPost_ret (results_none rfl _ _ _) rfl ?_
        exact ⟨⟨_, rfl⟩, .inr ⟨_, ⟨k, hlt, by rw [List.range_succ]⟩, hJx3⟩⟩
    · obtain rfl : k = s.size := by omega
      gi_wp2
      go_end0
      exact ⟨⟨_, rfl⟩, .inl ⟨_, rfl, hJs⟩⟩

theorem bitsOf_stops (n : Nat) (hn : 1 ≤ n) (m bb : Nat) (s : ByteArray) (hs : AllBits s) (hsz : s.size ≤ 9223372036854775807) (w : World) (hbb : bb < w.heap.size) (hcb : w.cell? ⟨bb, 0, none⟩ = some (.string s)) :
    SeqStopsK Fence.wide n Tryd.prog 74 #[.pointer (some ⟨bb, 0, none⟩)] (encT s) (KpB m bb bb) (fun ys => ys = List.range s.size) (fun pre => ∃ k, k < s.size ∧ pre = List.range (k + 1)) s.size w := fun l J Jx W hW _ _ hY h0 =>
  bitsOf1_in n hn l m bb s hs hsz J Jx hY W ((hW.cell (p := ⟨bb, 0, none⟩) hbb).trans hcb) h0

/-! ### bitsOn -/
/-- what bitsOn hands to a round: the k-th bit behind a place -/
abbrev encB (zs : List UInt8) (i k : Nat) : Array Value := #[.int .i64 (bt zs (i + k))]
theorem pbitsOn_in (F : Fence) (n : Nat) (hf : F.fn 43) (hro : F.round = none) (a : Option Addr) (len cap : Nat) (i : Int) (w : World) :
    CallsIn F n Tryd.prog 43 #[.slice a len cap, .int .i64 i] w fun e w' => e = .returned (.func (.func 58) #[] #[.pointer (some ⟨w.heap.size + 1, 0, none⟩), .pointer (some ⟨w.heap.size, 0, none⟩)]) ∧
      w' = (w.alloc (.cells #[.slice a len cap] 22)).alloc (.cells #[.int .i64 i] 3) := by
  refine callsIn_of_wp Tryd.func43 rfl hf ?_ hro
  simp only [Tryd.ntmps43, List.size_toArray, List.length_cons, List.length_nil, Nat.reduceAdd, Nat.reduceSub, Array.replicate_succ, Array.replicate_zero, List.push_toArray, List.append_toArray, List.nil_append, List.cons_append]
  gi_wp2
  go_ret
  exact ⟨rfl, rfl⟩
theorem read_one {n₀ : Nat} {w : World} {sv : Value} {zs : List UInt8} (hB : Byt n₀ w sv zs) (k : Nat) (h : k < 8 * zs.length) :
    Calls Tryd.prog 60 #[sv, .int .i64 (k : Int), .int .i64 1] w fun e w' => e = .returned (.tuple #[.int .i64 (bt zs k), .int .i64 0]) ∧ w = w' := by
  have hl : zs.length ≤ 1152921504606846975 := by obtain ⟨_, _, _, h, _⟩ := hB; exact h
  have hr := read_any hB (k : Int) 1 (by omega)
  have e : readV zs (k : Int) 1 = .tuple #[.int .i64 (bt zs k), .int .i64 0] := by
    unfold readV
    rw [if_neg (by omega), if_neg (by omega)]
    simp [num]
  rw [e] at hr
  exact hr

set_option maxRecDepth 100000 in
set_option maxHeartbeats 4000000 in
theorem pbitsOn1_in (n : Nat) (hn : 1 ≤ n) (l m bb bf n₁ : Nat) (sv : Value) (zs : List UInt8) (i : Nat) (hi : i ≤ 9223372036854775807) (hm : n₁ ≤ m) (J Jx : List Nat → World → Prop)
    (hY : ∀ pre x W, J pre W → pre.length < zs.length * 8 - i → YieldAt Fence.wide (n - 1) Tryd.prog l (encB zs i x) W fun e W' =>
      (e = .returned (.bool true) ∧ J (pre ++ [x]) W' ∧ KpB m bb bf W W') ∨ (e = .returned (.bool false) ∧ Jx (pre ++ [x]) W'))
    (W : World) (hbb : W.cell? ⟨bb, 0, none⟩ = some sv) (hbf : W.cell? ⟨bf, 0, none⟩ = some (.int .i64 i)) (hB : Byt n₁ W sv zs) (h0 : J [] W) :
    CallsIn Fence.wide n Tryd.prog 58 #[.func (.yield l) #[] #[], .pointer (some ⟨bf, 0, none⟩), .pointer (some ⟨bb, 0, none⟩)] W fun e W' => (∃ v, e = .returned v) ∧
      ((∃ ys, ys = List.range (zs.length * 8 - i) ∧ J ys W') ∨ (∃ pre, (∃ k, k < zs.length * 8 - i ∧ pre = List.range (k + 1)) ∧ Jx pre W')) := by
  have hl : zs.length ≤ 1152921504606846975 := by obtain ⟨_, _, _, h, _⟩ := hB; exact h
  have HB := Lib.hid hB
  obtain ⟨a, cap, rfl, _, _⟩ := hB
  refine callsIn_of_wp Tryd.func58 rfl trivial ?_ rfl
  simp only [Tryd.ntmps58, List.size_toArray, List.length_cons, List.length_nil, Nat.reduceAdd, Nat.reduceSub, Array.replicate_succ, Array.replicate_zero, List.push_toArray, List.append_toArray, List.nil_append, List.cons_append]
  gi_wp2
  gi_loopw [4] (fun p wr => ∃ k : Nat, k ≤ zs.length * 8 - i ∧ p = .int .i64 ((i : Int) + (k : Int)) ∧ J (List.range k) wr ∧ KpB m bb bf W wr)
    (fun p _ => zs.length * 8 - (intOf p).toNat)
  case atStart => exact ⟨0, Nat.zero_le _, by simp, h0, KpB.rfl⟩
  case round =>
    obtain ⟨k, hk, rfl, hJs, hK⟩ := hrel
    have hbb' := hK.2.1.trans hbb
    by_cases hlt : k < zs.length * 8 - i
    · obtain ⟨fn, tmps, assign, body, hy, hR⟩ := hY _ k wr hJs (by simpa using hlt)
      simp only [encB] at hy
      have hrd := read_one (HB.out.below (hK.1.mono hm)) (i + k) (by omega)
      rw [Int.natCast_add] at hrd
      have HR := Lib.hid hrd
      clear hrd
      gi_wp2_with (first | (refine ⟨trivial, ?_⟩; gi_at_call 59; refine (callsIn_wide.2 (count_any _ _ _ _ (by omega))).mono ?_; rintro e w' ⟨rfl, rfl⟩) | (refine ⟨trivial, ?_⟩; gi_at_call 60; refine (callsIn_wide.2 HR.out).mono ?_; rintro e w' ⟨rfl, rfl⟩))
      refine hR.mono ?_
      rintro e W3 (⟨rfl, hJ3, hk3⟩ | ⟨rfl, hJx3⟩)
      · gi_wp2
        go_roundw
        case rel => exact ⟨k + 1, by omega, by go_num, by rw [List.range_succ]; exact hJ3, hK.t hk3⟩
        case measure => simp [intOf]; omega
      · gi_wp2
        refine bodyPost_ret (results_none rfl _ _ _) rfl ?_
        exact ⟨⟨_, rfl⟩, .inr ⟨_, ⟨k, hlt, by rw [List.range_succ]⟩, hJx3⟩⟩
    · obtain rfl : k = zs.length * 8 - i := by omega
      gi_wp2_with (refine ⟨trivial, ?_⟩; gi_at_call 59; refine (callsIn_wide.2 (count_any _ _ _ _ (by omega))).mono ?_; rintro e w' ⟨rfl, rfl⟩)
      go_end0
      exact ⟨⟨_, rfl⟩, .inl ⟨_, rfl, hJs⟩⟩

theorem pbitsOn_stops (n : Nat) (hn : 1 ≤ n) (m bb bf i n₁ : Nat) (sv : Value) (zs : List UInt8) (w : World) (hi : i ≤ 9223372036854775807) (hm : m ≤ w.heap.size) (hn1 : n₁ ≤ m) (hbb : bb < w.heap.size) (hbf : bf < w.heap.size)
    (hcb : w.cell? ⟨bb, 0, none⟩ = some sv) (hcf : w.cell? ⟨bf, 0, none⟩ = some (.int .i64 i)) (hB : Byt n₁ w sv zs) :
    SeqStopsK Fence.wide n Tryd.prog 58 #[.pointer (some ⟨bf, 0, none⟩), .pointer (some ⟨bb, 0, none⟩)] (encB zs i) (KpB m bb bf) (fun ys => ys = List.range (zs.length * 8 - i)) (fun pre => ∃ k, k < zs.length * 8 - i ∧ pre = List.range (k + 1)) (zs.length * 8 - i) w := fun l J Jx W hW _ _ hY h0 =>
  pbitsOn1_in n hn l m bb bf n₁ sv zs i hi hn1 J Jx hY W ((hW.cell (p := ⟨bb, 0, none⟩) hbb).trans hcb) ((hW.cell (p := ⟨bf, 0, none⟩) hbf).trans hcf) (hB.below (hW.mono (by omega))) h0

end Go.Proofs.YtichkoilhnkmkaaDoor

/- prefix's tree in memory: its nodes; contracts of made, isEnd, lay. -/
namespace Go.Proofs.YtichkoilhnkmkaaDoor
open Go.RowKit Go.Shelf
set_option linter.unusedVariables false

theorem Tryd.info65n : (Tryd.prog.info? 65).map (fun i => (i.zero, i.size, i.bytes)) = some (some (.agg #[.int .i64 0, .int .i64 0]), 2, 16) := by kernel_rfl
theorem Tryd.underlying66n : Tryd.prog.underlying 66 = some (.slice 65) := by kernel_rfl

/-- a tree's four cells -/
abbrev pCells (sf : Value) (g len cap be bf : Nat) : Obj := .cells #[sf, .slice (some ⟨g, 0, none⟩) len cap, .map (some be), .map (some bf)] 69 (0, 0)
/-- the tree in block b has the nodes of the paths P, in block g -/
structure Nodes (n₀ : Nat) (w : World) (b : Nat) (sf : Value) (P : List (List Nat)) (be bf g : Nat) : Prop where
  low : n₀ ≤ b
  apart : g ≠ b ∧ g ≠ be ∧ g ≠ bf ∧ b ≠ be ∧ b ≠ bf ∧ be ≠ bf
  few : P.length ≤ 10000
  maps : be < w.heap.size ∧ bf < w.heap.size
  is : ∃ cap xs, w.heap[b]? = some (pCells sf g P.length cap be bf) ∧ w.ownsRow n₀ 65 2 (.slice (some ⟨g, 0, none⟩) P.length cap) P.length xs ∧ Cells P xs

theorem p_cells {w : World} {b : Nat} {sf : Value} {g len cap be bf : Nat} (h : w.heap[b]? = some (pCells sf g len cap be bf)) :
    w.cell? ⟨b, 0, none⟩ = some sf ∧ w.cell? ⟨b, 1, none⟩ = some (.slice (some ⟨g, 0, none⟩) len cap) ∧ w.cell? ⟨b, 2, none⟩ = some (.map (some be)) ∧ w.cell? ⟨b, 3, none⟩ = some (.map (some bf)) := by
  simp [World.cell?, h, pCells]
theorem Nodes.row {n₀ : Nat} {w : World} {b be bf g : Nat} {sf : Value} {P : List (List Nat)} (h : Nodes n₀ w b sf P be bf g) : g < w.heap.size ∧ n₀ ≤ g ∨ P = [] := by
  obtain ⟨cap, xs, _, hrow, _⟩ := h.is
  rcases hrow.2 with ⟨e, h0⟩ | ⟨g', cap', cur, e, hb, hg, _⟩
  · cases e
  · cases e; exact .inl ⟨(Array.getElem?_eq_some_iff.1 hg).1, hb⟩
theorem Nodes.kids {n₀ : Nat} {w : World} {b be bf g : Nat} {sf : Value} {P : List (List Nat)} (h : Nodes n₀ w b sf P be bf g) {i : Nat} (hi : i < P.length) :
    w.cell? ⟨g, i * 2, none⟩ = some (.int .i64 (kid P i 0)) ∧ w.cell? ⟨g, i * 2 + 1, none⟩ = some (.int .i64 (kid P i 1)) := by
  obtain ⟨cap, xs, _, hrow, hc⟩ := h.is
  have hl := hc.1
  have c0 := hrow.cellAt (g := g) (i * 2) (by omega)
  have c1 := hrow.cellAt (g := g) (i * 2 + 1) (by omega)
  have d0 := hc.2 i 0 hi (by omega)
  rw [Nat.add_zero] at d0
  exact ⟨c0.trans d0, c1.trans (hc.2 i 1 hi (by omega))⟩
theorem Nodes.lt {n₀ : Nat} {w : World} {b be bf g : Nat} {sf : Value} {P : List (List Nat)} (h : Nodes n₀ w b sf P be bf g) : b < w.heap.size := by
  obtain ⟨cap, xs, h1, _⟩ := h.is
  exact (Array.getElem?_eq_some_iff.1 h1).1
theorem Nodes.keep {S : Nat → Prop} {n₀ : Nat} {w w' : World} {b be bf g : Nat} {sf : Value} {P : List (List Nat)} (h : Nodes n₀ w b sf P be bf g) (hb : Bar S w w') (h1 : ¬ S b) (h2 : ¬ S g) : Nodes n₀ w' b sf P be bf g := by
  have hlt := h.lt
  obtain ⟨cap, xs, e1, e2, e3⟩ := h.is
  refine ⟨h.low, h.apart, h.few, ⟨Nat.lt_of_lt_of_le h.maps.1 hb.size, Nat.lt_of_lt_of_le h.maps.2 hb.size⟩, cap, xs, (hb.block b hlt h1).trans e1, ?_, e3⟩
  rcases e2.2 with ⟨e, h0⟩ | ⟨g', cap', cur, e, hb', hg, r⟩
  · cases e
  · refine ⟨e2.1, .inr ⟨g', cap', cur, e, hb', ?_, r⟩⟩
    cases e
    exact (hb.block g (Array.getElem?_eq_some_iff.1 hg).1 h2).trans hg

theorem Tryd.underlying65n : Tryd.prog.underlying 65 = some (.array 2 3) := by kernel_rfl
theorem node_eq (x y : Int) (w : World) : (Op.equalIn 10000 65 (.agg #[.int .i64 x, .int .i64 y]) (.agg #[.int .i64 0, .int .i64 0])).run Tryd.prog w = .ok ((x == 0) && (y == 0)) w := by
  obtain ⟨i0, hi, hz0, hz1, hz2⟩ := info_parts Tryd.info3y
  simp only [show (10000 : Nat) = 9998 + 1 + 1 from rfl]
  unfold Op.equalIn
  simp [run_underlying Tryd.underlying65n, sizeOf, typeInfo, hi, hz1, Std.Legacy.Range.forIn_eq_forIn_range', List.range', part, go_sem]
  by_cases hx : x = 0
  · by_cases hy : y = 0 <;> simp [hx, hy]
  · simp [hx]
theorem pptr_eq (a : Addr) (w : World) : (binOp .eql 47 (.pointer (some a)) (.pointer (some a))).run Tryd.prog w = .ok (.bool true) w := by
  obtain ⟨j, hj⟩ : ∃ j, Tryd.prog.info? 69 = some j := Option.isSome_iff_exists.1 (by kernel_rfl)
  exact run_eql_ptr_same w a (show Tryd.prog.underlying 47 = some (.pointer 69) by kernel_rfl) hj
set_option maxHeartbeats 1000000 in
theorem pmade_any {w : World} {b : Nat} (h0 : w.cell? ⟨b, 0, none⟩ = some (.pointer (some ⟨b, 0, none⟩))) :
    Calls Tryd.prog 42 #[.pointer (some ⟨b, 0, none⟩)] w fun e w' => e = .returned (.bool true) ∧ w = w' := by
  have he := pptr_eq ⟨b, 0, none⟩ w
  go_enter Tryd.func42, Tryd.ntmps42
  go_wp2
  go_ret
  exact ⟨rfl, rfl⟩

def leafB (P : List (List Nat)) (i : Nat) : Bool := decide (kid P i 0 = 0 ∧ kid P i 1 = 0)
set_option maxRecDepth 100000 in
set_option maxHeartbeats 2000000 in
theorem isEnd_any {n₀ : Nat} {w : World} {b be bf g : Nat} {sf : Value} {P : List (List Nat)} (h : Nodes n₀ w b sf P be bf g) {i : Nat} (hi : i < P.length) :
    Calls Tryd.prog 44 #[.pointer (some ⟨b, 0, none⟩), .int .i64 i] w fun e w' => e = .returned (.bool (leafB P i)) ∧ w = w' := by
  obtain ⟨k0, k1⟩ := h.kids hi
  have hf := h.few
  obtain ⟨cap, xs, hb, hrow, hc⟩ := h.is
  obtain ⟨c0, c1, c2, c3⟩ := p_cells hb
  have HE : Hid (leafB P i = (((kid P i 0 : Int) == 0) && ((kid P i 1 : Int) == 0))) := by
    show leafB P i = _
    unfold leafB
    rw [Bool.eq_iff_iff]
    simp only [decide_eq_true_eq, Bool.and_eq_true, beq_iff_eq]
    omega
  clear hb hrow hc h
  generalize kid P i 0 = x at *
  generalize kid P i 1 = y at *
  have hne := node_eq (x : Int) (y : Int) w
  go_enter Tryd.func44, Tryd.ntmps44
  go_wp2
  go_ret
  exact ⟨ret_bool HE.out.symm, rfl⟩

set_option maxRecDepth 100000 in
set_option maxHeartbeats 2000000 in
theorem lay_any {n₀ : Nat} {w : World} {b be bf g : Nat} {sf : Value} {P : List (List Nat)} (h : Nodes n₀ w b sf P be bf g) (hP : Paths P) {k bit : Nat} {p : List Nat} (hk : P[k]? = some p) (hb2 : bit < 2) (hq : p ++ [bit] ∉ P) (hf : P.length + 1 ≤ 10000) (hn : n₀ ≤ w.heap.size) :
    Calls Tryd.prog 68 #[.pointer (some ⟨b, 0, none⟩), .int .i64 k, .int .i64 bit] w fun e w' => e = .returned (.int .i64 P.length) ∧ ∃ g', Nodes n₀ w' b sf (P ++ [p ++ [bit]]) be bf g' ∧ (g' = g ∨ w.heap.size ≤ g') ∧ Bar (fun j => j = b ∨ j = g) w w' := by
  obtain ⟨i0, hi, hz0, hz1, hz2⟩ := info_parts Tryd.info65n
  have hlow := h.low
  obtain ⟨a1, a2, a3, a4, a5, a6⟩ := h.apart
  have hmaps := h.maps
  have hlt := h.lt
  have hkl := (List.getElem?_eq_some_iff.1 hk).1
  obtain ⟨cap, xs, hb, hrow, hc⟩ := h.is
  obtain ⟨c0, c1, c2, c3⟩ := p_cells hb
  have HC : Hid (Cells (P ++ [p ++ [bit]]) ((xs ++ [Value.int .i64 0, Value.int .i64 0]).set (k * 2 + bit) (.int .i64 P.length))) := hc.snoc hP hk hb2 hq
  have HL : Hid ((P ++ [p ++ [bit]]).length = P.length + 1) := by show (P ++ [p ++ [bit]]).length = _; simp
  have HB := Lib.hid hb
  clear hb hc h hk hP hq
  generalize hP' : P ++ [p ++ [bit]] = P' at *
  clear hP'
  generalize hm : P.length = m at *
  clear hm
  have f1 : w.frozen? ⟨b, 1, none⟩ = false := Lib.frozen_of_heap HB.out 1
  go_enter Tryd.func68, Tryd.ntmps68
  go_wp2_with (at_builtin; refine wpList_append_where _ rfl _ _ 66 rfl n₀ 65 i0 (.agg #[.int .i64 0, .int .i64 0]) 2 16 Tryd.underlying66n hi hz0 hz1 hz2 rfl (by decide) _ _ _ rfl (hrow.alloc _) ⟨w.heap.size, 0, none⟩ 1 1 [.int .i64 0, .int .i64 0] rfl rfl ?c1 ?c2 ?c3 ?c4 ?c5 ?_)
  case c1 =>
    intro j u hj
    match j, hj with
    | 0, hj => simp at hj; subst hj; simp [Addr.add]
    | 1, hj => simp at hj; subst hj; simp [Addr.add]
  case c2 => intro u hu; simp at hu; subst hu; rfl
  case c3 => unfold maxLen; omega
  case c4 => omega
  case c5 => simp; omega
  intro v' w2 hown hgrow hloc
  obtain ⟨g', cap', rfl⟩ : ∃ g' cap', v' = .slice (some ⟨g', 0, none⟩) (m + 1) cap' := by
    rcases hown.2 with ⟨_, h0⟩ | ⟨g', cap', cur, e, _⟩
    · omega
    · exact ⟨g', cap', e⟩
  have hl2 : g' = g ∨ w.heap.size ≤ g' := by
    rcases hloc g' rfl with e | e
    · simp [Value.ownBlock] at e; exact .inl e.symm
    · exact .inr (by omega)
  clear hloc
  have hg'b : g' ≠ b := by omega
  have hbb : w2.heap[b]? = some (pCells sf g m cap be bf) := by
    rw [hgrow.block b (by simp; omega) (by intro e; simp [Value.ownBlock] at e; omega), Lib.alloc_old w _ b hlt]
    exact HB.out
  obtain ⟨d0, d1, d2, d3⟩ := p_cells hbb
  have f2 : w2.frozen? ⟨b, 1, none⟩ = false := Lib.frozen_of_heap hbb 1
  have hxl : xs.length = m * 2 := hrow.1
  have row3 := ownsRow_setCell_other hown (a := ⟨b, 1, none⟩) (by simp [Value.ownBlock]; omega) (.slice (some ⟨g', 0, none⟩) (m + 1) cap')
  obtain ⟨u, e3⟩ : ∃ u, (w2.setCell ⟨b, 1, none⟩ (.slice (some ⟨g', 0, none⟩) (m + 1) cap')).cell? ⟨g', k * 2 + bit, none⟩ = some u := by
    rw [row3.cellAt (k * 2 + bit) (by omega), List.getElem?_eq_getElem (by simp; omega)]
    exact ⟨_, rfl⟩
  have f3 := row3.frozenAt (k * 2 + bit)
  have row4 := (row3.stored (k * 2 + bit) (.int .i64 m)).1
  have HR4 := Lib.hid row4
  have HG := Lib.hid hgrow
  have HBB := Lib.hid hbb
  clear row3 row4 hgrow hbb hown hrow
  go_wp2
  go_ret
  refine ⟨rfl, g', ⟨hlow, ⟨hg'b, by omega, by omega, a4, a5, a6⟩, by rw [HL.out]; exact hf, ?_, cap', _, ?_, ?_, HC.out⟩, hl2, ?_⟩
  · have := HG.out.size
    simp at this
    simp
    omega
  · rw [HL.out]
    rw [RowKit.Below.heap_setCell _ _ _ _ (by simpa using hg'b.symm)]
    exact heap_setCell_same w2 b 1 _ _ _ HBB.out
  · rw [HL.out]
    exact HR4.out
  · exact (((Bar.refl _ w).alloc _).trans (bar_of_grown HG.out (fun j e => by simp [Value.ownBlock] at e; exact .inr e.symm)) (fun j _ h => h)).setCell (p := ⟨b, 1, none⟩) (fun _ => .inl rfl) _ |>.setCell (p := ⟨g', k * 2 + bit, none⟩) (fun h => .inr (by have h : g' < w.heap.size := h; show g' = g; omega)) _

end Go.Proofs.YtichkoilhnkmkaaDoor

/- Contracts of prefix's name and read. -/
namespace Go.Proofs.YtichkoilhnkmkaaDoor
open Go.RowKit Go.Shelf
set_option linter.unusedVariables false

theorem bar_turned {w w' : World} {b : Nat} (h : w.mapTurned w' b) : Bar (fun j => j = b) w w' := bar_of_grown h.grown (fun k e => by cases e; rfl)
theorem CMap.alloc {w : World} {b n c : Nat} {f : Int → Option (Int × Int × Int)} (h : CMap w b n f c) (o : Obj) : CMap (w.alloc o) b n f c := h.block (Below.heap_alloc _ _ _ h.lt)
theorem CMap.drew {w : World} {b n c : Nat} {f : Int → Option (Int × Int × Int)} (h : CMap w b n f c) : CMap w.drew b n f c := h

/-- what a call of name leaves -/
def Named (w w' : World) (be bf n1 n2 c1 : Nat) (f1 f2 : Int → Option (Int × Int × Int)) (en : Int) (c : Int × Int × Int) : Prop :=
  Bar (fun j => j = be ∨ j = bf) w w' ∧ CMap w' be (n1 + 1) (put1 f1 en c) (if (f1 en).isSome then c1 else c1 + 1) ∧
    ∃ n2' c2', n2' ≤ n2 + 1 ∧ CMap w' bf n2' (if (f2 c.1).isSome then f2 else put1 f2 c.1 c) c2'
set_option maxRecDepth 100000 in
set_option maxHeartbeats 2000000 in
theorem name_any {w : World} {b be bf g len cap : Nat} {sf : Value} (hb : w.heap[b]? = some (pCells sf g len cap be bf)) (hne : b ≠ be ∧ b ≠ bf ∧ be ≠ bf) {f1 f2 : Int → Option (Int × Int × Int)} {n1 n2 c1 c2 : Nat}
    (h1 : CMap w be n1 f1 c1) (h2 : CMap w bf n2 f2 c2) (hn1 : n1 < 10000) (hn2 : n2 < 10000) {en num : Int} (x m : Int) (he1 : -9223372036854775808 ≤ en) (he2 : en ≤ 9223372036854775807) (hm1 : -9223372036854775808 ≤ num) (hm2 : num ≤ 9223372036854775807) :
    Calls Tryd.prog 56 #[.pointer (some ⟨b, 0, none⟩), .int .i64 en, codeV (num, x, m)] w fun e w' => e = .returned (.tuple #[]) ∧ Named w w' be bf n1 n2 c1 f1 f2 en (num, x, m) := by
  have hlt := (Array.getElem?_eq_some_iff.1 hb).1
  have ha1 := h1.alloc (.cells #[.int .i64 num, .int .i64 x, .int .i64 m] 71)
  have ha2 := h2.alloc (.cells #[.int .i64 num, .int .i64 x, .int .i64 m] 71)
  obtain ⟨w2, hrun, hm, hturn⟩ := ha1.drew.store (by omega) he1 he2 (num, x, m)
  obtain ⟨c0, cc1, cc2, cc3⟩ := p_cells hb
  have HM := Lib.hid hm
  have HT := Lib.hid hturn
  clear hm hturn
  go_enter Tryd.func56, Tryd.ntmps56
  go_wp2
  go_region
  have hbar2 : Bar (fun j => j = be ∨ j = bf) w w2 := ((Bar.refl _ w).alloc _).drew.trans (bar_turned HT.out) (fun j _ e => .inl e)
  have hb2 : w2.heap[b]? = some (pCells sf g len cap be bf) := by rw [hbar2.block b hlt (by omega)]; exact hb
  obtain ⟨d0, d1, d2, d3⟩ := p_cells hb2
  have hbe := h1.lt
  have hbf := h2.lt
  have hbox : w2.heap[w.heap.size]? = some (.cells #[.int .i64 num, .int .i64 x, .int .i64 m] 71 (0, 0)) := by
    rw [(bar_turned HT.out).block w.heap.size (by simp) (by omega)]
    exact World.alloc_heap_new w _
  have b0 : w2.cell? ⟨w.heap.size, 0, none⟩ = some (.int .i64 num) := by rw [Lib.cell_of_heap hbox]; rfl
  have b1 : w2.cell? ⟨w.heap.size, 1, none⟩ = some (.int .i64 x) := by rw [Lib.cell_of_heap hbox]; rfl
  have b2 : w2.cell? ⟨w.heap.size, 2, none⟩ = some (.int .i64 m) := by rw [Lib.cell_of_heap hbox]; rfl
  have hf2 : CMap w2 bf n2 f2 c2 := ha2.drew.bar (bar_turned HT.out) (by omega)
  have hlook := hf2.drew.look_ok hm1 hm2
  have hlook2 := (hf2.alloc (.cells #[.int .i64 0, .int .i64 0, .int .i64 0] 71)).drew.look_ok hm1 hm2
  have hsz2 : w.heap.size < w2.heap.size := (Array.getElem?_eq_some_iff.1 hbox).1
  have hbs2 : b < w2.heap.size := by omega
  have HF2 := Lib.hid hf2
  have HBar2 := Lib.hid hbar2
  have HBox := Lib.hid hbox
  clear hf2 hbar2 hbox
  cases hk : f2 num with
  | some c =>
    have HK := Lib.hid hk
    rw [hk] at hlook hlook2
    simp only [Option.isSome_some] at hlook hlook2
    clear hk
    go_wp2
    go_region
    all_goals
      go_wp2
      go_end0
      refine ⟨rfl, (HBar2.out.alloc _).drew, (HM.out.alloc _).drew, n2, c2, by omega, ?_⟩
      rw [HK.out]
      exact (HF2.out.alloc _).drew
  | none =>
    have HK := Lib.hid hk
    rw [hk] at hlook hlook2
    simp only [Option.isSome_none] at hlook hlook2
    clear hk
    have h3 := (HF2.out.alloc (.cells #[.int .i64 0, .int .i64 0, .int .i64 0] 71)).drew.drew
    obtain ⟨w4, hrun4, hm4, hturn4⟩ := h3.store (by omega) hm1 hm2 (num, x, m)
    have HM4 := Lib.hid hm4
    have HT4 := Lib.hid hturn4
    clear hm4 hturn4 h3
    go_wp2
    go_region
    all_goals
      go_wp2
      go_region
      all_goals
        go_wp2
        go_end0
        have hb4 := (bar_turned HT4.out)
        refine ⟨rfl, ((HBar2.out.alloc _).drew.drew).trans hb4 (fun j _ e => (show j = be ∨ j = bf from .inr e)), ((HM.out.alloc _).drew.drew).bar hb4 (by omega), n2 + 1, (if (f2 num).isSome then c2 else c2 + 1), Nat.le_refl _, ?_⟩
        have hm5 := HM4.out
        rw [HK.out] at hm5 ⊢
        exact hm5

/-! ### read -/
abbrev cCells (n x m : Int) : Obj := .cells #[.int .i64 n, .int .i64 x, .int .i64 m] 71 (0, 0)
theorem c_cells {w : World} {b : Nat} {n x m : Int} (h : w.heap[b]? = some (cCells n x m)) :
    w.cell? ⟨b, 0, none⟩ = some (.int .i64 n) ∧ w.cell? ⟨b, 1, none⟩ = some (.int .i64 x) ∧ w.cell? ⟨b, 2, none⟩ = some (.int .i64 m) ∧ ∀ j, w.frozen? ⟨b, j, none⟩ = false :=
  ⟨by rw [Lib.cell_of_heap h]; rfl, by rw [Lib.cell_of_heap h]; rfl, by rw [Lib.cell_of_heap h]; rfl, fun j => Lib.frozen_of_heap h j⟩
/-- the bits that a text spells at some places -/
def bitsAt (s : ByteArray) (pre : List Nat) : List Nat := pre.map fun k => (bitsL s)[k]?.getD 0
theorem bitsAt_snoc (s : ByteArray) (pre : List Nat) (x : Nat) : bitsAt s (pre ++ [x]) = bitsAt s pre ++ [(bitsL s)[x]?.getD 0] := by simp [bitsAt]
theorem bitsAt_range (s : ByteArray) (n : Nat) (h : n ≤ s.size) : bitsAt s (List.range n) = (bitsL s).take n := by
  apply List.ext_getElem?
  intro i
  unfold bitsAt
  by_cases hi : i < n
  · have h1 : i < (bitsL s).length := by rw [bitsL_len]; omega
    simp [hi, h1]
  · rw [List.getElem?_eq_none (by simp; omega), List.getElem?_eq_none (by simp; omega)]
theorem bit_low {s : ByteArray} (hs : AllBits s) (k : Nat) : (bitsL s)[k]?.getD 0 < 2 := by
  by_cases h : k < (bitsL s).length
  · rw [List.getElem?_eq_getElem h]
    exact bitsL_low hs _ (List.getElem_mem h)
  · rw [List.getElem?_eq_none (by omega)]; decide
theorem bitsAt_low {s : ByteArray} (hs : AllBits s) (pre : List Nat) : ∀ b ∈ bitsAt s pre, b < 2 := by
  intro b hb
  unfold bitsAt at hb
  rw [List.mem_map] at hb
  obtain ⟨k, _, rfl⟩ := hb
  exact bit_low hs k

theorem KpB.set {m bx by_ : Nat} {A B : World} (h : KpB m bx by_ A B) {p : Addr} (v : Value) (h0 : m ≤ p.block) (h1 : p.block ≠ bx) (h2 : p.block ≠ by_) : KpB m bx by_ A (B.setCell p v) :=
  ⟨h.1.setCell (p := p) h0 _, (World.cell?_setCell_other _ _ _ _ (by rintro rfl; exact h1 (Eq.refl _))).trans h.2.1, (World.cell?_setCell_other _ _ _ _ (by rintro rfl; exact h2 (Eq.refl _))).trans h.2.2⟩
attribute [local go_sem] Oper.semAt_some
set_option maxRecDepth 100000 in
set_option maxHeartbeats 4000000 in
theorem read_in (n : Nat) (hn : 4 ≤ n) {s : ByteArray} (hs : AllBits s) (h24 : s.size ≤ 24) (num : Int) (w : World) :
    CallsIn Fence.wide n Tryd.prog 57 #[.string s, .int .i64 num] w fun e w' => e = .returned (codeV (num, (numOf (bitsL s) : Nat), (s.size : Nat))) ∧ Below w.heap.size w w' := by
  have h1 : 1 ≤ n := by omega
  have HS := Lib.hid hs
  clear hs
  refine callsIn_of_wp_marks Tryd.func57 rfl trivial ?_ rfl
  simp only [Tryd.ntmps57, List.size_toArray, List.length_cons, List.length_nil, Nat.reduceAdd, Nat.reduceSub, Array.replicate_succ, Array.replicate_zero, List.push_toArray, List.append_toArray, List.nil_append, List.cons_append]
  gi_wp2_with (refine ⟨trivial, ?_⟩; gi_at_call 67; refine (bitsOf_in Fence.wide (n - 1) trivial rfl _ _).mono ?_; rintro e w' ⟨rfl, rfl⟩)
  have hB5 : Below w.heap.size w (((w.alloc (Obj.cells #[Value.int IntKind.i64 0, Value.int IntKind.i64 0, Value.int IntKind.i64 0] 71)).alloc (Obj.cells #[Value.int IntKind.i64 num, Value.int IntKind.i64 0, Value.int IntKind.i64 0] 71)).alloc (Obj.cells #[Value.string s] 9)) :=
    (((Below.refl _ w).alloc (Nat.le_refl _) _).alloc (by simp) _).alloc (by simp; omega) _
  refine wpIn_rangeFunc_ownF rfl h1 (gf := 74) (lb := #[.pointer (some ⟨w.heap.size + 1 + 1, 0, none⟩)]) rfl trivial (enters_of Tryd.func74 (by kernel_rfl) rfl)
    (bitsOf_stops (n - 1) (by omega) w.heap.size (w.heap.size + 1 + 1) s HS.out (by omega) _ (by simp) (by go_simp)) KpB.t (KpB.b (by simp; omega) (by simp) (by simp)) (Below.refl _ _) (fun _ => rfl)
    (fun pre W => (W.heap[w.heap.size]? = some (cCells 0 0 0) ∧ W.heap[w.heap.size + 1]? = some (cCells num (numOf (bitsAt s pre) : Nat) (pre.length : Nat))) ∧ Below w.heap.size w W)
    (fun _ _ _ => False)
    ?own (fun _ _ _ _ _ hs _ _ => hs)
    ?start
    (fun x => { tmps := #[Value.string s, Value.int IntKind.i64 num, undef, undef, Value.pointer (some { block := w.heap.size, off := 0 }),
        Value.pointer (some { block := w.heap.size + 1, off := 0 }), .int .i64 ((bitsL s)[x]?.getD 0 : Nat), .int .i64 num, .agg #[.int .i64 num, .int .i64 0, .int .i64 0], Value.string s,
        Value.func (Fn.func 74) #[] #[Value.pointer (some { block := w.heap.size + 1 + 1, off := 0 })],
        .int .i64 ((bitsL s)[x]?.getD 0 : Nat), undef, undef, undef, undef, undef, undef, undef, undef, undef, undef, undef], defers := [] }) ?assign ?body ?done ?stop
  case own =>
    exact OwnFrom.and (Own.from (fun s A B row hs hg hr => ⟨(grownBy_keeps_cells hg hr hs.1 rfl).trans hs.1, (grownBy_keeps_cells hg hr hs.2 rfl).trans hs.2⟩) _) (ownFrom_below (Nat.le_refl _) (by simp; omega))
  case start =>
    refine ⟨⟨?_, ?_⟩, hB5⟩
    · rw [Below.heap_alloc _ _ _ (by simp; omega), Below.heap_alloc _ _ _ (by simp)]
      exact World.alloc_heap_new w _
    · rw [Below.heap_alloc _ _ _ (by simp)]
      have e := World.alloc_heap_new (w.alloc (Obj.cells #[Value.int IntKind.i64 0, Value.int IntKind.i64 0, Value.int IntKind.i64 0] 71)) (Obj.cells #[Value.int IntKind.i64 num, Value.int IntKind.i64 0, Value.int IntKind.i64 0] 71)
      rw [World.size_alloc] at e
      exact e
  case assign =>
    intro l x W K hK
    gi_wp2
    exact hK
  case body =>
    rintro l pre x W ⟨⟨hr, hc⟩, hB⟩ hlt
    obtain ⟨c0, c1, c2, hfz⟩ := c_cells hc
    have f1 := hfz 1
    have f2 := hfz 2
    have hx := bit_low HS.out x
    have hv := numOf_lt (bitsAt_low HS.out pre)
    have hpw := Nat.pow_le_pow_right (n := 2) (by omega) (show (bitsAt s pre).length ≤ 24 by simp [bitsAt]; omega)
    have HN := Lib.hid (bitsAt_snoc s pre x)
    have HNs := numOf_snoc (bitsAt s pre) ((bitsL s)[x]?.getD 0)
    rw [← HN.out] at HNs
    have HV := Lib.hid HNs
    have hor := i64_or_bit (numOf (bitsAt s pre) * 2) ((bitsL s)[x]?.getD 0) (by omega) (by omega) (by omega)
    rw [show ((numOf (bitsAt s pre) * 2 : Nat) : Int) = (numOf (bitsAt s pre) : Int) * 2 by omega] at hor
    clear hfz HNs
    generalize numOf (bitsAt s pre) = y at *
    generalize (bitsL s)[x]?.getD 0 = bb at *
    gi_wp2
    refine ⟨(KeepsOthers.setCell _ _ _).trans (KeepsOthers.setCell _ _ _), (KpB.rfl.set (p := ⟨w.heap.size + 1, 1, none⟩) _ (by simp) (by simp) (by simp)).set (p := ⟨w.heap.size + 1, 2, none⟩) _ (by simp) (by simp) (by simp), ⟨?_, ?_⟩, (hB.setCell (p := ⟨w.heap.size + 1, 1, none⟩) (by simp) _).setCell (p := ⟨w.heap.size + 1, 2, none⟩) (by simp) _⟩
    · rw [Below.heap_setCell _ _ _ _ (by simp), Below.heap_setCell _ _ _ _ (by simp)]
      exact hr
    · refine (heap_setCell_same _ (w.heap.size + 1) 2 _ _ _ (heap_setCell_same W (w.heap.size + 1) 1 _ _ _ hc)).trans ?_
      show some (cCells num ((y : Int) * 2 + (bb : Int)) ((pre.length : Int) + 1)) = _
      rw [HV.out, List.length_append, List.length_singleton, show ((2 * y + bb : Nat) : Int) = (y : Int) * 2 + (bb : Int) by omega, Int.natCast_add pre.length 1]
      rfl
  case done =>
    rintro D ys W hD rfl ⟨⟨hr, hc⟩, hB⟩ hK
    obtain ⟨c0, c1, c2, hfz⟩ := c_cells hc
    obtain ⟨r0, r1, r2, rfz⟩ := c_cells hr
    have g0 := rfz 0
    have g1 := rfz 1
    have g2 := rfz 2
    clear hfz rfz
    rw [bitsAt_range s s.size (Nat.le_refl _), List.take_of_length_le (by rw [bitsL_len]; omega)] at hc c1
    rw [List.length_range] at hc c2
    generalize hy : numOf (bitsL s) = y at *
    have HY := Lib.hid hy
    clear hy
    gi_wp2
    have hKO : KeepsOthers W (((W.setCell ⟨w.heap.size, 0, none⟩ (.int .i64 num)).setCell ⟨w.heap.size, 1, none⟩ (.int .i64 y)).setCell ⟨w.heap.size, 2, none⟩ (.int .i64 s.size)) := ((KeepsOthers.setCell _ _ _).trans (KeepsOthers.setCell _ _ _)).trans (KeepsOthers.setCell _ _ _)
    have hK' := hKO.same D _ hK rfl
    refine ⟨by simp, .inl ⟨_, _, rfl, run_takeDeferred hK', ?_⟩⟩
    have e0 := heap_setCell_same W w.heap.size 0 _ _ (.int .i64 num) hr
    have e1 := heap_setCell_same _ w.heap.size 1 _ _ (.int .i64 y) e0
    have e2 := heap_setCell_same _ w.heap.size 2 _ _ (.int .i64 s.size) e1
    have e3 := (grownBy_keeps_cells (grownBy_putObj' _ D (.deferred none)) (fun r e => by cases e; exact ⟨_, hK', rfl⟩) e2 rfl).trans e2
    obtain ⟨q0, q1, q2, _⟩ := c_cells e3
    refine ⟨codeV (num, (y : Int), (s.size : Int)), ?_, by rw [HY.out], (((hB.setCell (p := ⟨w.heap.size, 0, none⟩) (by simp) _).setCell (p := ⟨w.heap.size, 1, none⟩) (by simp) _).setCell (p := ⟨w.heap.size, 2, none⟩) (by simp) _).trans (belowK_b (w := w) (Nat.le_refl _) _ D _ _ (by simp at hD; omega) hK' rfl rfl)⟩
    simp [results, Tryd.f57, go_sem, q0, q1, q2]
  case stop =>
    rintro D c pre W _ _ h _
    exact h.elim

end Go.Proofs.YtichkoilhnkmkaaDoor
