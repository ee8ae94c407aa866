/- The reference's queue (praxinoscoperef02.Queue): what it holds; contracts of its New, Free, Left, Skip, End. -/
import Derived.Test.YtglnmaekhpaffaaQRead
import Derived.Deep.RegionLaw
namespace Go.Proofs.Ytglnmaekhpaffaa
open Go.RowKit Go.Shelf
set_option linter.unusedVariables false

abbrev wCells (m : Nat) (v : Value) (r : Nat) (o : Bool) : Obj := .cells #[.int .i64 m, v, .int .i64 r, .bool o] 81 (0, 0)
/-- the reference's queue in block b, its bytes at v -/
def IsW (n₀ : Nat) (w : World) (b : Nat) (v : Value) (q : Qs) : Prop :=
  q.ok ∧ n₀ ≤ b ∧ w.heap[b]? = some (wCells q.most v q.gone q.ended) ∧ w.ownsRow n₀ 5 1 v q.all.length (u8s q.all)
theorem IsW.apart {n₀ : Nat} {w : World} {b : Nat} {v : Value} {q : Qs} (h : IsW n₀ w b v q) : v.ownBlock ≠ some b := by
  obtain ⟨_, _, hb, hr⟩ := h
  intro e
  rcases hr.2 with ⟨rfl, _⟩ | ⟨g', cap, cur, rfl, _, hg, _⟩
  · simp [Value.ownBlock] at e
  · simp [Value.ownBlock] at e
    subst e
    rw [hb] at hg
    simp [wCells] at hg
theorem IsW.lt {n₀ : Nat} {w : World} {b : Nat} {v : Value} {q : Qs} (h : IsW n₀ w b v q) : b < w.heap.size := (Array.getElem?_eq_some_iff.1 h.2.2.1).1
theorem IsW.bar {S : Nat → Prop} {n₀ : Nat} {w w' : World} {b : Nat} {v : Value} {q : Qs} (h : IsW n₀ w b v q) (hb : Bar S w w') (h1 : ¬ S b) (h2 : ∀ k, v.ownBlock = some k → ¬ S k) : IsW n₀ w' b v q :=
  ⟨h.1, h.2.1, (hb.block b h.lt h1).trans h.2.2.1, ownsRow_bar h.2.2.2 hb h2⟩
theorem IsW.later {n₀ : Nat} {w w' : World} {b : Nat} {v : Value} {q : Qs} (h : IsW n₀ w b v q) (hb : Below w.heap.size w w') : IsW n₀ w' b v q :=
  h.bar (bar_of_below (S := fun _ => False) hb) (fun e => e) (fun _ _ e => e)
theorem w_cells {w : World} {b m r : Nat} {v : Value} {o : Bool} (h : w.heap[b]? = some (wCells m v r o)) :
    w.cell? ⟨b, 0, none⟩ = some (.int .i64 m) ∧ w.cell? ⟨b, 1, none⟩ = some v ∧ w.cell? ⟨b, 2, none⟩ = some (.int .i64 r) ∧ w.cell? ⟨b, 3, none⟩ = some (.bool o) := by
  simp [World.cell?, h, wCells]
theorem w_free {w : World} {b m r : Nat} {v : Value} {o : Bool} (h : w.heap[b]? = some (wCells m v r o)) (i : Nat) : w.frozen? ⟨b, i, none⟩ = false := by
  simp [World.frozen?, h, wCells]
theorem w_set {w : World} {b m r : Nat} {v : Value} {o : Bool} (h : w.heap[b]? = some (wCells m v r o)) :
    (∀ v' : Value, (w.setCell ⟨b, 1, none⟩ v').heap[b]? = some (wCells m v' r o)) ∧ (∀ r' : Nat, (w.setCell ⟨b, 2, none⟩ (.int .i64 r')).heap[b]? = some (wCells m v r' o)) ∧
    (w.setCell ⟨b, 3, none⟩ (.bool true)).heap[b]? = some (wCells m v r true) := by
  refine ⟨fun v' => ?_, fun r' => ?_, ?_⟩ <;> (rw [heap_setCell_same _ _ _ _ _ _ h]; simp [wCells])

/-- a call did something to the reference's queue, and to nothing else -/
def WDid (n₀ : Nat) (w w' : World) (b : Nat) (v : Value) (q : Qs) : Prop :=
  ∃ v', IsW n₀ w' b v' q ∧ Bar (fun k => k = b ∨ v.ownBlock = some k) w w' ∧ ∀ k, v'.ownBlock = some k → v.ownBlock = some k ∨ w.heap.size ≤ k
theorem WDid.later {n₀ : Nat} {w w' : World} {b : Nat} {v : Value} {q : Qs} (h : IsW n₀ w b v q) (hb : Below w.heap.size w w') : WDid n₀ w w' b v q :=
  ⟨v, h.later hb, bar_of_below hb, fun k e => .inl e⟩
theorem ownsRow_set {w : World} {base n b i : Nat} {e : TypeId} {v u : Value} {xs : List Value} (h : w.ownsRow base e 1 v n xs) (hb : v.ownBlock ≠ some b) : (w.setCell ⟨b, i, none⟩ u).ownsRow base e 1 v n xs :=
  ownsRow_bar h ((Bar.refl (fun k => k = b) w).setCell (fun _ => rfl) u) (fun k e1 e2 => hb (by rw [e1, e2]))

theorem wnew_ok (m : Nat) (w : World) (h1 : 1 ≤ m) (h2 : m ≤ 1048576) :
    Calls Try.prog 22 #[.int .i64 m] w fun e w' => ∃ b, e = .returned (.tuple #[.pointer (some ⟨b, 0, none⟩), .int .i64 0]) ∧ IsW w.heap.size w' b (.slice none 0 0) (newQ m) ∧ Below w.heap.size w w' := by
  go_enter Try.func22, Try.ntmps22
  go_wp2
  go_ret2
  exact ⟨w.heap.size, rfl, ⟨newQ_ok h1 h2, Nat.le_refl _, World.alloc_heap_new w _, World.ownsRow_nil _ _ _ _⟩, (Below.refl _ _).alloc (Nat.le_refl _) _⟩

theorem wnew_range (m : Int) (w : World) (h : m < 1 ∨ 1048576 < m) :
    Calls Try.prog 22 #[.int .i64 m] w fun e w' => e = .returned (.tuple #[.pointer none, .int .i64 3]) ∧ w = w' := by
  by_cases h1 : m < 1
  · go_enter Try.func22, Try.ntmps22
    go_wp2
    go_ret2
    exact ⟨rfl, rfl⟩
  · have h2 : 1048576 < m := by omega
    go_enter Try.func22, Try.ntmps22
    go_wp2
    go_ret2
    exact ⟨rfl, rfl⟩

theorem below_drewN (n : Nat) (w : World) (k : Nat) : Below n w (w.drewN k) := ⟨rfl, rfl, rfl, Nat.le_refl _, fun _ _ => rfl⟩

set_option maxHeartbeats 1000000 in
theorem wfree_any {n₀ : Nat} {w : World} {b : Nat} {v : Value} {q : Qs} (h : IsW n₀ w b v q) :
    Calls Try.prog 57 #[.pointer (some ⟨b, 0, none⟩)] w fun e w' => e = .returned (.int .i64 ((q.most - (q.all.length - q.gone / 8) : Nat) : Int)) ∧ Below w.heap.size w w' := by
  obtain ⟨ho, _, hb, hr⟩ := h
  obtain ⟨av, cv, rfl⟩ := row_form hr
  obtain ⟨c0, c1, c2, c3⟩ := w_cells hb
  have h1 := ho.len
  have h2 := ho.gone
  have h3 := ho.held
  have h4 := ho.m2
  have E : Hid (((q.most - (q.all.length - q.gone / 8) : Nat) : Int) = (q.most : Int) - ((q.all.length : Int) - (q.gone : Int) / 8)) := by
    show ((q.most - (q.all.length - q.gone / 8) : Nat) : Int) = (q.most : Int) - ((q.all.length : Int) - (q.gone : Int) / 8)
    omega
  clear hb hr ho
  go_enter Try.func57, Try.ntmps57
  go_wp2
  go_quiet (fail)
  go_wp2
  go_ret
  exact ⟨ret_int E.out.symm, below_drewN _ _ _⟩

set_option maxHeartbeats 1000000 in
theorem wleft_any {n₀ : Nat} {w : World} {b : Nat} {v : Value} {q : Qs} (h : IsW n₀ w b v q) :
    Calls Try.prog 59 #[.pointer (some ⟨b, 0, none⟩)] w fun e w' => e = .returned (.int .i64 ((8 * q.all.length - q.gone : Nat) : Int)) ∧ Below w.heap.size w w' := by
  obtain ⟨ho, _, hb, hr⟩ := h
  obtain ⟨av, cv, rfl⟩ := row_form hr
  obtain ⟨c0, c1, c2, c3⟩ := w_cells hb
  have h1 := ho.len
  have h2 := ho.gone
  have E : Hid (((8 * q.all.length - q.gone : Nat) : Int) = 8 * (q.all.length : Int) - (q.gone : Int)) := by
    show ((8 * q.all.length - q.gone : Nat) : Int) = 8 * (q.all.length : Int) - (q.gone : Int)
    omega
  clear hb hr ho
  go_enter Try.func59, Try.ntmps59
  go_wp2
  go_quiet (fail)
  go_wp2
  go_ret
  exact ⟨ret_int E.out.symm, below_drewN _ _ _⟩

theorem wend_any {n₀ : Nat} {w : World} {b : Nat} {v : Value} {q : Qs} (h : IsW n₀ w b v q) :
    Calls Try.prog 32 #[.pointer (some ⟨b, 0, none⟩)] w fun e w' => e = .returned (.int .i64 (endE q)) ∧ WDid n₀ w w' b v { q with ended := true } := by
  have H := Lib.hid h
  have hap := Lib.hid h.apart
  obtain ⟨ho, hn, hb, hr⟩ := h
  obtain ⟨c0, c1, c2, c3⟩ := w_cells hb
  have hf := w_free hb 3
  obtain ⟨_, _, hs⟩ := w_set hb
  by_cases he : q.ended = true
  · rw [he] at c3
    have HE := Lib.hid he
    clear hb hs hr ho he
    go_enter Try.func32, Try.ntmps32
    go_wp2
    go_ret
    refine ⟨ret_int (by simp [endE, HE.out]), v, ?_, Bar.refl _ _, fun k e => .inl e⟩
    have := H.out
    rw [show q = { q with ended := true } by cases q; have := HE.out; simp_all] at this
    exact this
  · have he' : q.ended = false := by simpa using he
    rw [he'] at c3
    have HE := Lib.hid he'
    have HD : Hid (WDid n₀ w (w.setCell ⟨b, 3, none⟩ (.bool true)) b v { q with ended := true }) :=
      ⟨v, ⟨⟨ho.1, ho.2, ho.3, ho.4, ho.5⟩, hn, hs, ownsRow_set hr hap.out⟩, (Bar.refl _ w).setCell (fun _ => .inl rfl) _, fun k e => .inl e⟩
    clear hb hs hr ho he he'
    go_enter Try.func32, Try.ntmps32
    go_wp2
    go_ret
    exact ⟨ret_int (by simp [endE, HE.out]), HD.out⟩

set_option maxHeartbeats 1000000 in
theorem wskip_any {n₀ : Nat} {w : World} {b : Nat} {v : Value} {q : Qs} (h : IsW n₀ w b v q) (n : Int) :
    Calls Try.prog 30 #[.pointer (some ⟨b, 0, none⟩), .int .i64 n] w fun e w' => e = .returned (.int .i64 (skipE q n)) ∧ WDid n₀ w w' b v (skipQ q n) := by
  have H := Lib.hid h
  have HF := Lib.hid (wleft_any h)
  have hlen := h.1.len
  have hgone := h.1.gone
  clear h
  by_cases hn : n < 0 ∨ ((8 * q.all.length - q.gone : Nat) : Int) < n
  · rw [skipE, skipQ, if_pos hn, if_pos hn]
    by_cases hn0 : n < 0
    · clear hn
      go_enter Try.func30, Try.ntmps30
      go_wp2
      go_ret
      exact ⟨rfl, WDid.later H.out (Below.refl _ _)⟩
    · have hn1 : ((8 * q.all.length - q.gone : Nat) : Int) < n := by omega
      clear hn
      go_enter Try.func30, Try.ntmps30
      go_wp2_with (go_at_call 59; refine HF.out.mono ?_; rintro e w' ⟨rfl, b1⟩)
      go_ret
      exact ⟨rfl, WDid.later H.out b1⟩
  · rw [skipE, skipQ, if_neg hn, if_neg hn]
    obtain ⟨k, rfl⟩ := Int.eq_ofNat_of_zero_le (a := n) (by omega)
    rw [Int.toNat_natCast]
    have hn1 : ¬ (((8 * q.all.length - q.gone : Nat) : Int) < (k : Int)) := by omega
    clear hn
    go_enter Try.func30, Try.ntmps30
    go_wp2_with fail
    refine HF.out.mono ?_
    rintro e w1 ⟨rfl, b1⟩
    have h1 := H.out.later b1
    have hap := h1.apart
    obtain ⟨ho, hn0, hb, hr⟩ := h1
    obtain ⟨c0, c1, c2, c3⟩ := w_cells hb
    have hf := w_free hb 2
    have hs := (w_set hb).2.1 (q.gone + k)
    have HD : Hid (WDid n₀ w (w1.setCell ⟨b, 2, none⟩ (.int .i64 (q.gone + k : Nat))) b v { q with gone := q.gone + k }) :=
      ⟨v, ⟨⟨ho.1, ho.2, ho.3, by simp only; omega, by have := ho.5; simp only; omega⟩, hn0, hs, ownsRow_set hr hap⟩, (bar_of_below b1).setCell (fun _ => .inl rfl) _, fun k e => .inl e⟩
    rw [Int.natCast_add] at HD
    clear hb hs hr ho hap
    go_wp2
    go_ret
    exact ⟨rfl, HD.out⟩

end Go.Proofs.Ytglnmaekhpaffaa
