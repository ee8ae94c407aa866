/- Queues: what a queue in memory is; contracts of queue.New, made, known, Left, Free, Came, Gone, Ended, End, Skip. -/
import Derived.Test.YtglnmaekhpaffaaQSizes
namespace Go.Proofs.Ytglnmaekhpaffaa
open Go.RowKit Go.Shelf
set_option linter.unusedVariables false

/-- a queue: its room, all bytes that ever came, how many bits were read, whether it is ended -/
structure Qs where
  most : Nat
  all : List UInt8
  gone : Nat
  ended : Bool
structure Qs.ok (q : Qs) : Prop where
  m1 : 1 ≤ q.most
  m2 : q.most ≤ 1048576
  len : q.all.length ≤ 1099511627776
  gone : q.gone ≤ 8 * q.all.length
  held : q.all.length - q.gone / 8 ≤ q.most
/-- the ring holds what is there, each byte at its place, counted round -/
def Ringed (ring : List UInt8) (q : Qs) : Prop := ring.length = q.most ∧ ∀ j, q.gone / 8 ≤ j → j < q.all.length → ring.getD (j % q.most) 0 = q.all.getD j 0
abbrev qCells (b g most came gone : Nat) (ended : Bool) : Obj :=
  .cells #[.pointer (some ⟨b, 0, none⟩), .int .i64 most, .int .i64 came, .int .i64 gone, .slice (some ⟨g, 0, none⟩) most most, .bool ended] 61 (0, 0)
def IsQueue (w : World) (b g : Nat) (q : Qs) : Prop :=
  q.ok ∧ b ≠ g ∧ w.heap[b]? = some (qCells b g q.most q.all.length q.gone q.ended) ∧ ∃ ring, Ringed ring q ∧ w.heap[g]? = some (.cells (u8s ring).toArray 5 (0, 0))
theorem IsQueue.lt {w : World} {b g : Nat} {q : Qs} (h : IsQueue w b g q) : b < w.heap.size ∧ g < w.heap.size := by
  obtain ⟨_, _, hb, ring, _, hg⟩ := h
  exact ⟨(Array.getElem?_eq_some_iff.1 hb).1, (Array.getElem?_eq_some_iff.1 hg).1⟩
theorem IsQueue.bar {S : Nat → Prop} {w w' : World} {b g : Nat} {q : Qs} (h : IsQueue w b g q) (hb : Bar S w w') (h1 : ¬ S b) (h2 : ¬ S g) : IsQueue w' b g q := by
  have hlt := h.lt
  obtain ⟨ho, hne, hc, ring, hr, hg⟩ := h
  exact ⟨ho, hne, (hb.block b hlt.1 h1).trans hc, ring, hr, (hb.block g hlt.2 h2).trans hg⟩
theorem IsQueue.later {w w' : World} {b g : Nat} {q : Qs} (h : IsQueue w b g q) (hb : Below w.heap.size w w') : IsQueue w' b g q :=
  h.bar (bar_of_below (S := fun _ => False) hb) (fun e => e) (fun e => e)
theorem IsQueue.drew {w : World} {b g : Nat} {q : Qs} (h : IsQueue w b g q) : IsQueue w.drew b g q := h
theorem q_cells {w : World} {b g m c n : Nat} {e : Bool} (h : w.heap[b]? = some (qCells b g m c n e)) :
    w.cell? ⟨b, 0, none⟩ = some (.pointer (some ⟨b, 0, none⟩)) ∧ w.cell? ⟨b, 1, none⟩ = some (.int .i64 m) ∧ w.cell? ⟨b, 2, none⟩ = some (.int .i64 c) ∧ w.cell? ⟨b, 3, none⟩ = some (.int .i64 n) ∧
    w.cell? ⟨b, 4, none⟩ = some (.slice (some ⟨g, 0, none⟩) m m) ∧ w.cell? ⟨b, 5, none⟩ = some (.bool e) := by
  simp [World.cell?, h, qCells]
theorem q_free {w : World} {b g m c n : Nat} {e : Bool} (h : w.heap[b]? = some (qCells b g m c n e)) (o : Nat) : w.frozen? ⟨b, o, none⟩ = false := by
  simp [World.frozen?, h, qCells]

/-- a call did something to a queue, and to nothing else -/
def QDid (w w' : World) (b g : Nat) (q : Qs) : Prop := IsQueue w' b g q ∧ Bar (fun k => k = b ∨ k = g) w w'
theorem QDid.below {w w' : World} {b g B : Nat} {q : Qs} (h : QDid w w' b g q) (hB : B ≤ w.heap.size) (h1 : B ≤ b) (h2 : B ≤ g) : Below B w w' :=
  h.2.below hB fun k hk e => by omega

def newQ (m : Nat) : Qs := ⟨m, [], 0, false⟩

theorem row_block {w : World} {base g n : Nat} {e : TypeId} {xs : List Value} (h : w.ownsRow base e 1 (.slice (some ⟨g, 0, none⟩) n n) n xs) : w.heap[g]? = some (.cells xs.toArray e (0, 0)) := by
  rcases h.2 with ⟨h0, _⟩ | ⟨g', cap, cur, e1, _, hg, _, _, hs, ht⟩
  · simp at h0
  · simp at e1
    obtain ⟨rfl, rfl⟩ := e1
    rw [List.take_of_length_le (by simp; omega)] at ht
    rw [hg, ← ht]
theorem made_u8 (m : Nat) : (madeCells #[Value.int .u8 0] m).toList = u8s (List.replicate m 0) := by
  rw [toList_madeCells_one]; simp [u8s]
theorem newQ_ok {m : Nat} (h1 : 1 ≤ m) (h2 : m ≤ 1048576) : (newQ m).ok := ⟨h1, h2, by simp [newQ], by simp [newQ], by simp [newQ]⟩
theorem newQ_ring (m : Nat) : Ringed (List.replicate m 0) (newQ m) := ⟨by simp [newQ], fun j _ h => by simp [newQ] at h⟩

set_option maxRecDepth 100000 in
set_option maxHeartbeats 1000000 in
theorem qnew_ok (m : Nat) (w : World) (h1 : 1 ≤ m) (h2 : m ≤ 1048576) :
    Calls Try.prog 21 #[.int .i64 m] w fun e w' => ∃ b g, e = .returned (.tuple #[.pointer (some ⟨b, 0, none⟩), .int .i64 0]) ∧ IsQueue w' b g (newQ m) ∧ w.heap.size ≤ b ∧ w.heap.size ≤ g ∧ Below w.heap.size w w' := by
  obtain ⟨i0, hi, hz0, hz1, hz2⟩ := info_parts Try.info5
  go_enter Try.func21, Try.ntmps21
  go_wp2_with (at_make; refine wpList_make_full _ rfl _ _ 37 rfl w.heap.size 5 i0 (.int .u8 0) 1 Try.underlying37 hi hz0 hz1 .i64 .i64 _ _ m rfl rfl ?m1 ?m2 ?m3 ?m4 (Nat.le_refl _) ?_)
  case m1 => rfl
  case m2 => rfl
  case m3 => rw [hz2]; omega
  case m4 => unfold maxLen; omega
  intro w1 hown hgrow
  have hs := hgrow.size
  have hrow := row_block hown
  rw [made_u8] at hrow
  have hlt := (Array.getElem?_eq_some_iff.1 hrow).1
  have HR := Lib.hid hrow
  have hb : Below w.heap.size w w1 := ⟨hgrow.os, hgrow.tape, hgrow.output, hgrow.size, fun k hk => hgrow.block k hk (by simp)⟩
  clear hown hgrow hrow
  go_wp2
  go_ret2
  refine ⟨w1.heap.size, w.heap.size, rfl, ⟨newQ_ok h1 h2, by omega, ?_, List.replicate m 0, newQ_ring m, ?_⟩, hs, Nat.le_refl _, ?_⟩
  · exact World.alloc_heap_new w1 _
  · exact (Below.heap_alloc _ _ _ hlt).trans HR.out
  · exact hb.alloc hs _

set_option maxHeartbeats 400000 in
theorem qnew_range (m : Int) (w : World) (h : m < 1 ∨ 1048576 < m) :
    Calls Try.prog 21 #[.int .i64 m] w fun e w' => e = .returned (.tuple #[.pointer none, .int .i64 3]) ∧ w = w' := by
  by_cases h1 : m < 1
  · go_enter Try.func21, Try.ntmps21
    go_wp2
    go_ret2
    exact ⟨rfl, rfl⟩
  · have h2 : 1048576 < m := by omega
    go_enter Try.func21, Try.ntmps21
    go_wp2
    go_ret2
    exact ⟨rfl, rfl⟩

theorem qptr_eq (a : Addr) (w : World) : (binOp .eql 42 (.pointer (some a)) (.pointer (some a))).run Try.prog w = .ok (.bool true) w := by
  obtain ⟨j, hj⟩ : ∃ j, Try.prog.info? 61 = some j := Option.isSome_iff_exists.1 (by kernel_rfl)
  exact run_eql_ptr_same w a Try.underlying42 hj
theorem qmade_any {w : World} {b g : Nat} {q : Qs} (h : IsQueue w b g q) :
    Calls Try.prog 54 #[.pointer (some ⟨b, 0, none⟩)] w fun e w' => e = .returned (.bool true) ∧ w = w' := by
  obtain ⟨_, _, hb, _⟩ := h
  obtain ⟨c0, _⟩ := q_cells hb
  clear hb
  have he := qptr_eq ⟨b, 0, none⟩ w
  go_enter Try.func54, Try.ntmps54
  go_wp2
  go_ret
  exact ⟨rfl, rfl⟩

set_option maxHeartbeats 400000 in
theorem qknown_any {w : World} {b g : Nat} {q : Qs} (h : IsQueue w b g q) :
    Calls Try.prog 64 #[.pointer (some ⟨b, 0, none⟩)] w fun e w' => e = .returned (szV q.most q.all.length q.gone) ∧ Below w.heap.size w w' := by
  have hlt := h.lt.1
  have HM := Lib.hid (fun w' (hb : Below w.heap.size w w') => qmade_any (h.later hb))
  obtain ⟨_, _, hb, _⟩ := h
  obtain ⟨c0, c1, c2, c3, c4, c5⟩ := q_cells hb
  clear hb
  go_enter Try.func64, Try.ntmps64
  go_wp2_with (go_at_call 54; refine (HM.out _ ((Below.refl _ _).alloc (Nat.le_refl _) _)).mono ?_; rintro e w' ⟨rfl, rfl⟩)
  exact bodyPost_ret (v := szV q.most q.all.length q.gone) (by simp [results, Try.f64, go_sem]) rfl ⟨rfl, (Below.refl _ _).alloc (Nat.le_refl _) _⟩

set_option maxHeartbeats 400000 in
theorem qleft_any {w : World} {b g : Nat} {q : Qs} (h : IsQueue w b g q) :
    Calls Try.prog 35 #[.pointer (some ⟨b, 0, none⟩)] w fun e w' => e = .returned (.int .i64 ((8 * q.all.length - q.gone : Nat) : Int)) ∧ Below w.heap.size w w' := by
  have HK := Lib.hid (qknown_any h)
  have ho := h.1
  have h1 := ho.len
  have h2 := ho.gone
  clear h ho
  go_enter Try.func35, Try.ntmps35
  go_wp2_with fail
  refine HK.out.mono ?_
  rintro e w1 ⟨rfl, b1⟩
  go_wp2_with fail
  refine (left_any q.most q.all.length q.gone _ h1 h2).mono ?_
  rintro e w2 ⟨rfl, b2⟩
  go_wp2
  go_ret
  exact ⟨rfl, below_chain b1 (Nat.le_refl _) b2⟩

set_option maxHeartbeats 400000 in
theorem qfree_any {w : World} {b g : Nat} {q : Qs} (h : IsQueue w b g q) :
    Calls Try.prog 36 #[.pointer (some ⟨b, 0, none⟩)] w fun e w' => e = .returned (.int .i64 ((q.most - (q.all.length - q.gone / 8) : Nat) : Int)) ∧ Below w.heap.size w w' := by
  have HK := Lib.hid (qknown_any h)
  have ho := h.1
  have h1 := ho.len
  have h2 := ho.gone
  have h3 := ho.held
  have h4 := ho.m2
  clear h ho
  go_enter Try.func36, Try.ntmps36
  go_wp2_with fail
  refine HK.out.mono ?_
  rintro e w1 ⟨rfl, b1⟩
  go_wp2_with fail
  refine (free_any q.most q.all.length q.gone _ h1 h2 h3 h4).mono ?_
  rintro e w2 ⟨rfl, b2⟩
  go_wp2
  go_ret
  exact ⟨rfl, below_chain b1 (Nat.le_refl _) b2⟩

theorem sz_came (m c g : Value) (w : World) : (Instr.field 59 (.agg #[m, c, g]) 1).run Try.prog w = .ok c w := by kernel_rfl
theorem sz_gone (m c g : Value) (w : World) : (Instr.field 59 (.agg #[m, c, g]) 2).run Try.prog w = .ok g w := by kernel_rfl
set_option maxHeartbeats 400000 in
set_option maxRecDepth 100000 in
theorem qcame_any {w : World} {b g : Nat} {q : Qs} (h : IsQueue w b g q) :
    Calls Try.prog 37 #[.pointer (some ⟨b, 0, none⟩)] w fun e w' => e = .returned (.int .i64 q.all.length) ∧ Below w.heap.size w w' := by
  have HK := Lib.hid (qknown_any h)
  have hfld := fun (m c g : Value) (w : World) => sz_came m c g w
  clear h
  go_enter Try.func37, Try.ntmps37
  go_wp2_with fail
  refine HK.out.mono ?_
  rintro e w1 ⟨rfl, b1⟩
  go_wp2
  go_ret
  exact ⟨rfl, b1⟩

set_option maxHeartbeats 400000 in
set_option maxRecDepth 100000 in
theorem qgone_any {w : World} {b g : Nat} {q : Qs} (h : IsQueue w b g q) :
    Calls Try.prog 38 #[.pointer (some ⟨b, 0, none⟩)] w fun e w' => e = .returned (.int .i64 q.gone) ∧ Below w.heap.size w w' := by
  have HK := Lib.hid (qknown_any h)
  have hfld := fun (m c g : Value) (w : World) => sz_gone m c g w
  clear h
  go_enter Try.func38, Try.ntmps38
  go_wp2_with fail
  refine HK.out.mono ?_
  rintro e w1 ⟨rfl, b1⟩
  go_wp2
  go_ret
  exact ⟨rfl, b1⟩

theorem qended_any {w : World} {b g : Nat} {q : Qs} (h : IsQueue w b g q) :
    Calls Try.prog 39 #[.pointer (some ⟨b, 0, none⟩)] w fun e w' => e = .returned (.bool q.ended) ∧ w = w' := by
  have HM := Lib.hid (qmade_any h)
  obtain ⟨_, _, hb, _⟩ := h
  obtain ⟨c0, c1, c2, c3, c4, c5⟩ := q_cells hb
  clear hb
  go_enter Try.func39, Try.ntmps39
  go_wp2_with (go_at_call 54; refine HM.out.mono ?_; rintro e w' ⟨rfl, rfl⟩)
  go_ret
  exact ⟨rfl, rfl⟩

/-! ### what turns a queue -/
theorem q_set {w : World} {b g m c n : Nat} {e : Bool} (h : w.heap[b]? = some (qCells b g m c n e)) :
    (∀ c' : Nat, (w.setCell ⟨b, 2, none⟩ (.int .i64 c')).heap[b]? = some (qCells b g m c' n e)) ∧ (∀ n' : Nat, (w.setCell ⟨b, 3, none⟩ (.int .i64 n')).heap[b]? = some (qCells b g m c n' e)) ∧
    (w.setCell ⟨b, 5, none⟩ (.bool true)).heap[b]? = some (qCells b g m c n true) := by
  refine ⟨fun c' => ?_, fun n' => ?_, ?_⟩ <;> (rw [heap_setCell_same _ _ _ _ _ _ h]; simp [qCells])

def endE (q : Qs) : Int := if q.ended then 20 else 0
theorem qend_any {w : World} {b g : Nat} {q : Qs} (h : IsQueue w b g q) :
    Calls Try.prog 31 #[.pointer (some ⟨b, 0, none⟩)] w fun e w' => e = .returned (.int .i64 (endE q)) ∧ QDid w w' b g { q with ended := true } := by
  have HM := Lib.hid (qmade_any h)
  have H := Lib.hid h
  obtain ⟨ho, hne, hb, ring, hr, hg⟩ := h
  obtain ⟨c0, c1, c2, c3, c4, c5⟩ := q_cells hb
  have hf := q_free hb 5
  obtain ⟨_, _, hs⟩ := q_set hb
  by_cases he : q.ended = true
  · rw [he] at c5
    have HE := Lib.hid he
    clear hb hs hg hr ho he
    go_enter Try.func31, Try.ntmps31
    go_wp2_with (go_at_call 54; refine HM.out.mono ?_; rintro e w' ⟨rfl, rfl⟩)
    go_ret
    refine ⟨ret_int (by simp [endE, HE.out]), ?_, Bar.refl _ _⟩
    have := H.out
    rw [show q = { q with ended := true } by cases q; have := HE.out; simp_all] at this
    exact this
  · have he' : q.ended = false := by simpa using he
    rw [he'] at c5
    have HE := Lib.hid he'
    have HD : Hid (QDid w (w.setCell ⟨b, 5, none⟩ (.bool true)) b g { q with ended := true }) :=
      ⟨⟨⟨ho.1, ho.2, ho.3, ho.4, ho.5⟩, hne, hs, ring, hr, (heap_setCell_other _ _ _ _ (Ne.symm hne)).trans hg⟩, (Bar.refl _ w).setCell (fun _ => .inl rfl) _⟩
    clear hb hs hg hr ho he he'
    go_enter Try.func31, Try.ntmps31
    go_wp2_with (go_at_call 54; refine HM.out.mono ?_; rintro e w' ⟨rfl, rfl⟩)
    go_ret
    exact ⟨ret_int (by simp [endE, HE.out]), HD.out⟩

def skipE (q : Qs) (n : Int) : Int := if n < 0 ∨ ((8 * q.all.length - q.gone : Nat) : Int) < n then 3 else 0
def skipQ (q : Qs) (n : Int) : Qs := if n < 0 ∨ ((8 * q.all.length - q.gone : Nat) : Int) < n then q else { q with gone := q.gone + n.toNat }
set_option maxHeartbeats 1000000 in
theorem qskip_range {w : World} {b g : Nat} {q : Qs} (h : IsQueue w b g q) (n : Int) (hn : n < 0 ∨ ((8 * q.all.length - q.gone : Nat) : Int) < n) :
    Calls Try.prog 29 #[.pointer (some ⟨b, 0, none⟩), .int .i64 n] w fun e w' => e = .returned (.int .i64 3) ∧ Below w.heap.size w w' := by
  have HM := Lib.hid (qmade_any h)
  obtain ⟨ho, hne, hb, ring, hr, hg⟩ := h
  obtain ⟨c0, c1, c2, c3, c4, c5⟩ := q_cells hb
  have h1 := ho.len
  have h2 := ho.gone
  clear hb ho hr hg
  by_cases hn0 : n < 0
  · go_enter Try.func29, Try.ntmps29
    go_wp2_with (go_at_call 54; refine HM.out.mono ?_; rintro e w' ⟨rfl, rfl⟩)
    go_ret
    exact ⟨rfl, Below.refl _ _⟩
  · have hn' : ((8 * q.all.length - q.gone : Nat) : Int) < n := by omega
    go_enter Try.func29, Try.ntmps29
    go_wp2_with (first | (go_at_call 54; refine HM.out.mono ?_; rintro e w' ⟨rfl, rfl⟩) | (go_at_call 58; refine (left_any q.most q.all.length q.gone _ h1 h2).mono ?_; rintro e w2 ⟨rfl, b2⟩))
    go_ret
    exact ⟨rfl, b2⟩

set_option maxHeartbeats 1000000 in
theorem qskip_ok {w : World} {b g : Nat} {q : Qs} (h : IsQueue w b g q) (n : Nat) (hn : n ≤ 8 * q.all.length - q.gone) :
    Calls Try.prog 29 #[.pointer (some ⟨b, 0, none⟩), .int .i64 n] w fun e w' => e = .returned (.int .i64 0) ∧ QDid w w' b g { q with gone := q.gone + n } := by
  have HM := Lib.hid (qmade_any h)
  have hlt := h.lt
  have H := Lib.hid h
  obtain ⟨ho, hne, hb, ring, hr, hg⟩ := h
  obtain ⟨c0, c1, c2, c3, c4, c5⟩ := q_cells hb
  have h1 := ho.len
  have h2 := ho.gone
  have hn' : ¬ (((8 * q.all.length - q.gone : Nat) : Int) < (n : Int)) := by omega
  clear hb ho hr hg
  go_enter Try.func29, Try.ntmps29
  go_wp2_with (go_at_call 54; refine HM.out.mono ?_; rintro e w' ⟨rfl, rfl⟩)
  refine (left_any q.most q.all.length q.gone _ h1 h2).mono ?_
  rintro e w2 ⟨rfl, b2⟩
  obtain ⟨ho, _, hb, ring, hr, hg⟩ := H.out.later b2
  have hs := (q_set hb).2.1 (q.gone + n)
  have hf := q_free hb 3
  obtain ⟨_, _, _, d3, _, _⟩ := q_cells hb
  have HD : Hid (QDid w (w2.setCell ⟨b, 3, none⟩ (.int .i64 (q.gone + n : Nat))) b g { q with gone := q.gone + n }) :=
    ⟨⟨⟨ho.1, ho.2, ho.3, by simp only; omega, by have := ho.5; simp only; omega⟩, hne, hs, ring, ⟨hr.1, fun j hj => hr.2 j (by simp only at hj; omega)⟩, (heap_setCell_other _ _ _ _ (Ne.symm hne)).trans hg⟩, (bar_of_below b2).setCell (fun _ => .inl rfl) _⟩
  clear hb hs hg hr ho
  go_wp2
  go_ret
  exact ⟨rfl, by have := HD.out; rw [Int.natCast_add] at this; exact this⟩

theorem qskip_any {w : World} {b g : Nat} {q : Qs} (h : IsQueue w b g q) (n : Int) :
    Calls Try.prog 29 #[.pointer (some ⟨b, 0, none⟩), .int .i64 n] w fun e w' => e = .returned (.int .i64 (skipE q n)) ∧ QDid w w' b g (skipQ q n) := by
  by_cases hn : n < 0 ∨ ((8 * q.all.length - q.gone : Nat) : Int) < n
  · refine (qskip_range h n hn).mono ?_
    rintro e w' ⟨rfl, hb⟩
    rw [skipE, skipQ, if_pos hn, if_pos hn]
    exact ⟨rfl, h.later hb, bar_of_below hb⟩
  · obtain ⟨k, rfl⟩ := Int.eq_ofNat_of_zero_le (a := n) (by omega)
    rw [skipE, skipQ, if_neg hn, if_neg hn, Int.toNat_natCast]
    exact qskip_ok h k (by omega)

end Go.Proofs.Ytglnmaekhpaffaa
