/- Contracts of the law's own small functions (feeds, has, three, awake) and of the law QueueKnown. -/
import Derived.Test.YtglnmaekhpaffaaQBits
import Derived.Test.YtglnmaekhpaffaaRow
namespace Go.Proofs.Ytglnmaekhpaffaa
open Go.RowKit Go.Shelf
set_option linter.unusedVariables false

theorem bytA_new (w : World) (zs : List UInt8) (cs : Array Value) (h : cs = (zs.map fun z => Value.int .u8 z.toNat).toArray) (hl : zs.length ≤ 1152921504606846975) (g : Nat) (hg : g < w.heap.size) (t : TypeId) :
    BytA (w.alloc (.cells cs t)) g (.slice (some ⟨w.heap.size, 0, none⟩) zs.length zs.length) zs := by
  refine ⟨_, _, rfl, Nat.le_refl _, Nat.le_trans hl (by decide), .inr ⟨_, _, rfl, fun _ => ⟨by omega, by simp⟩, fun j hj => ?_⟩⟩
  subst h
  simp [hj, go_sem]
theorem bytA_nil (w : World) (g : Nat) : BytA w g (.slice none 0 0) [] := ⟨_, 0, rfl, Nat.le_refl _, by omega, .inl rfl⟩
theorem byt_nil (w : World) : Byt w.heap.size w (.slice none 0 0) [] := ⟨none, 0, rfl, by simp, .inl rfl⟩

theorem QDid.alloc {w w' : World} {b g : Nat} {q : Qs} {o : Obj} (h : QDid (w.alloc o) w' b g q) : QDid w w' b g q :=
  ⟨h.1, ((Bar.refl _ w).alloc o).trans h.2 (fun j _ e => e)⟩

set_option maxHeartbeats 1000000 in
theorem feeds_true {w : World} {b g : Nat} {q : Qs} (h : IsQueue w b g q) {sv : Value} {zs : List UInt8} (hB : BytA w g sv zs) (hfit : q.all.length + zs.length ≤ 1099511627776) (want err : Int) (hw : want = (fedL q zs).length) (he : err = feedE q) :
    Calls Try.prog 42 #[.pointer (some ⟨b, 0, none⟩), .int .i64 want, .int .i64 err, sv] w fun e w' => e = .returned (.bool true) ∧ QDid w w' b g (feedQ q zs) := by
  have HF := Lib.hid (qfeed_any h hB hfit)
  rw [← hw, ← he] at HF
  clear h hB hw he hfit
  go_enter Try.func42, Try.ntmps42
  go_wp2_with fail
  refine HF.out.mono ?_
  rintro e w' ⟨rfl, hd⟩
  have HD := Lib.hid hd
  clear hd
  go_wp2
  go_ret
  exact ⟨rfl, HD.out⟩

set_option maxHeartbeats 1000000 in
theorem has_true {w : World} {b g : Nat} {q : Qs} (h : IsQueue w b g q) {sv : Value} {zs : List UInt8} (hB : Byt w.heap.size w sv zs) (at_ : Int) (ha : at_ = (q.gone % 8 : Nat)) (hz : zs = q.all.drop (q.gone / 8)) :
    Calls Try.prog 41 #[.pointer (some ⟨b, 0, none⟩), .int .i64 at_, sv] w fun e w' => e = .returned (.bool true) ∧ Below w.heap.size w w' := by
  have HF := Lib.hid (qbits_any h)
  have hl : zs.length ≤ 1099511627776 := by have := h.1.len; rw [hz]; simp; omega
  rw [← hz] at HF
  generalize q.gone % 8 = p at *
  subst ha
  have HB := Lib.hid hB
  clear h hB hz
  go_enter Try.func41, Try.ntmps41
  go_wp2_with fail
  refine HF.out.mono ?_
  rintro e w' ⟨v, rfl, hv, hb⟩
  have h1 := byt_own hv (by omega) (n₀ := w'.heap.size) (Nat.le_refl _)
  have h2 := HB.out.below hb
  have HS := Lib.hid (same_any h1 h2)
  clear hv h1 h2
  go_wp2_with (go_at_call 18; refine HS.out.mono ?_; rintro e w5 ⟨rfl, rfl⟩)
  go_ret
  exact ⟨by simp, hb⟩

theorem feeds_lit (W : World) {b g : Nat} {q : Qs} (h : IsQueue W b g q) (zs : List UInt8) (cs : Array Value) (len : Nat) (hcs : cs = (zs.map fun z => Value.int .u8 z.toNat).toArray) (hlen : zs.length = len) (want err : Int)
    (hfit : q.all.length + len ≤ 1000) (hw : want = (fedL q zs).length) (he : err = feedE q) (t : TypeId) (q' : Qs) (hq' : q' = feedQ q zs) :
    Calls Try.prog 42 #[.pointer (some ⟨b, 0, none⟩), .int .i64 want, .int .i64 err, .slice (some ⟨W.heap.size, 0, none⟩) len len] (W.alloc (.cells cs t)) fun e w' => e = .returned (.bool true) ∧ QDid W w' b g q' := by
  subst hlen hq'
  refine (feeds_true (h.later ((Below.refl _ _).alloc (Nat.le_refl _) _)) (bytA_new W zs cs hcs (by omega) g h.lt.2 t) (by omega) want err hw he).mono ?_
  rintro e w' ⟨rfl, hd⟩
  exact ⟨rfl, hd.alloc⟩
theorem has_lit (W : World) {b g : Nat} {q : Qs} (h : IsQueue W b g q) (zs : List UInt8) (cs : Array Value) (len : Nat) (hcs : cs = (zs.map fun z => Value.int .u8 z.toNat).toArray) (hlen : zs.length = len) (at_ : Int)
    (hl : len ≤ 1000) (ha : at_ = (q.gone % 8 : Nat)) (hz : zs = q.all.drop (q.gone / 8)) (t : TypeId) :
    Calls Try.prog 41 #[.pointer (some ⟨b, 0, none⟩), .int .i64 at_, .slice (some ⟨W.heap.size, 0, none⟩) len len] (W.alloc (.cells cs t)) fun e w' => e = .returned (.bool true) ∧ Below W.heap.size W w' := by
  subst hlen
  have hb : Below W.heap.size W (W.alloc (.cells cs t)) := (Below.refl _ _).alloc (Nat.le_refl _) _
  refine (has_true (h.later hb) (byt_new W zs cs _ hcs (by omega) _ (by simp) t) at_ ha hz).mono ?_
  rintro e w' ⟨rfl, hd⟩
  exact ⟨rfl, below_chain hb (Nat.le_refl _) hd⟩

theorem skipQ_ok {q : Qs} {n : Nat} (h : n ≤ 8 * q.all.length - q.gone) : skipE q n = 0 ∧ skipQ q n = { q with gone := q.gone + n } := by
  have : ¬ ((n : Int) < 0 ∨ ((8 * q.all.length - q.gone : Nat) : Int) < (n : Int)) := by omega
  rw [skipE, skipQ, if_neg this, if_neg this, Int.toNat_natCast]
  exact ⟨rfl, rfl⟩

def q1 : Qs := ⟨3, [1, 2, 3], 0, false⟩
def q2 : Qs := ⟨3, [1, 2, 3], 12, false⟩
def q3 : Qs := ⟨3, [1, 2, 3, 9], 12, false⟩
def q4 : Qs := ⟨3, [1, 2, 3, 9], 32, false⟩
def q5 : Qs := ⟨3, [1, 2, 3, 9], 32, true⟩

set_option maxRecDepth 100000 in
set_option maxHeartbeats 4000000 in
theorem three_any (w : World) : Calls Try.prog 40 #[] w fun e w' => ∃ b g, e = .returned (.pointer (some ⟨b, 0, none⟩)) ∧ IsQueue w' b g q3 ∧ w.heap.size ≤ b ∧ w.heap.size ≤ g ∧ Below w.heap.size w w' := by
  go_enter Try.func40, Try.ntmps40
  go_wp2_with fail
  refine (qnew_ok 3 w (by omega) (by omega)).mono ?_
  rintro e w1 ⟨b, g, rfl, hq, hb, hg, b1⟩
  have HQ := Lib.hid hq
  clear hq
  go_wp2_with fail
  refine (feeds_lit w1 HQ.out [1, 2, 3, 4] _ 4 (by rfl) rfl 3 0 (by decide) (by decide) (by decide) _ q1 (by rfl)).mono ?_
  rintro e w2 ⟨rfl, hd⟩
  have b2 := b1.trans (hd.below b1.size hb hg)
  have HQ2 := Lib.hid hd.1
  clear hd b1 HQ
  go_wp2_with fail
  refine (qfree_any HQ2.out).mono ?_
  rintro e w3 ⟨rfl, d3⟩
  have HQ3 := Lib.hid (HQ2.out.later d3)
  have b3 := below_chain b2 (Nat.le_refl _) d3
  clear b2 d3 HQ2
  rw [show ((q1.most - (q1.all.length - q1.gone / 8) : Nat) : Int) = 0 by decide]
  go_wp2_with fail
  refine (qleft_any HQ3.out).mono ?_
  rintro e w4 ⟨rfl, d4⟩
  have HQ4 := Lib.hid (HQ3.out.later d4)
  have b4 := below_chain b3 (Nat.le_refl _) d4
  clear b3 d4 HQ3
  rw [show ((8 * q1.all.length - q1.gone : Nat) : Int) = 24 by decide]
  go_wp2_with fail
  refine (qskip_any HQ4.out 12).mono ?_
  rintro e w5 ⟨rfl, hd⟩
  rw [show skipE q1 12 = 0 by decide]
  rw [show skipQ q1 12 = q2 by rfl] at hd
  have b5 := b4.trans (hd.below b4.size hb hg)
  have HQ5 := Lib.hid hd.1
  clear b4 hd HQ4
  go_wp2_with fail
  refine (has_lit w5 HQ5.out [2, 3] _ 2 (by rfl) rfl 4 (by decide) (by decide) (by decide) _).mono ?_
  rintro e w6 ⟨rfl, d6⟩
  have HQ6 := Lib.hid (HQ5.out.later d6)
  have b6 := below_chain b5 (Nat.le_refl _) d6
  clear b5 d6 HQ5
  go_wp2_with fail
  refine (qfree_any HQ6.out).mono ?_
  rintro e w7 ⟨rfl, d7⟩
  have HQ7 := Lib.hid (HQ6.out.later d7)
  have b7 := below_chain b6 (Nat.le_refl _) d7
  clear b6 d7 HQ6
  rw [show ((q2.most - (q2.all.length - q2.gone / 8) : Nat) : Int) = 1 by decide]
  go_wp2_with fail
  refine (feeds_lit w7 HQ7.out [9, 9] _ 2 (by rfl) rfl 1 0 (by decide) (by decide) (by decide) _ q3 (by rfl)).mono ?_
  rintro e w8 ⟨rfl, hd⟩
  have b8 := b7.trans (hd.below b7.size hb hg)
  have HQ8 := Lib.hid hd.1
  clear b7 hd HQ7
  go_wp2
  go_ret
  exact ⟨b, g, rfl, HQ8.out, hb, hg, b8⟩

set_option maxRecDepth 100000 in
set_option maxHeartbeats 4000000 in
theorem awake2_any (w : World) : Calls Try.prog 24 #[] w fun e w' => e = .returned (.bool true) ∧ Below w.heap.size w w' := by
  go_enter Try.func24, Try.ntmps24
  go_wp2_with fail
  refine (three_any w).mono ?_
  rintro e w1 ⟨b, g, rfl, hq, hb, hg, b1⟩
  have HQ := Lib.hid hq
  clear hq
  go_wp2_with fail
  refine (has_lit w1 HQ.out [2, 3, 9] _ 3 (by rfl) rfl 4 (by decide) (by decide) (by decide) _).mono ?_
  rintro e w2 ⟨rfl, d2⟩
  have HQ2 := Lib.hid (HQ.out.later d2)
  have b2 := below_chain b1 (Nat.le_refl _) d2
  clear b1 d2 HQ
  go_wp2_with fail
  refine (qleft_any HQ2.out).mono ?_
  rintro e w3 ⟨rfl, d3⟩
  have b3 := below_chain b2 (Nat.le_refl _) d3
  clear b2 d3 HQ2
  rw [show ((8 * q3.all.length - q3.gone : Nat) : Int) = 20 by decide]
  go_wp2
  go_ret
  exact ⟨rfl, b3⟩

set_option maxRecDepth 100000 in
set_option maxHeartbeats 4000000 in
theorem queueKnown_any (w : World) : Calls Try.prog 6 #[] w fun e w' => e = .returned (.bool true) ∧ Below w.heap.size w w' := by
  go_enter Try.func6, Try.ntmps6
  go_wp2_with fail
  refine (three_any w).mono ?_
  rintro e w1 ⟨b, g, rfl, hq, hb, hg, b1⟩
  have HQ := Lib.hid hq
  clear hq
  go_wp2_with fail
  refine (qskip_any HQ.out 21).mono ?_
  rintro e w2 ⟨rfl, hd⟩
  rw [show skipE q3 21 = 3 by decide]
  rw [show skipQ q3 21 = q3 by rfl] at hd
  have b2 := b1.trans (hd.below b1.size hb hg)
  have HQ2 := Lib.hid hd.1
  clear b1 hd HQ
  go_wp2_with fail
  refine (qskip_any HQ2.out 20).mono ?_
  rintro e w3 ⟨rfl, hd⟩
  rw [show skipE q3 20 = 0 by decide]
  rw [show skipQ q3 20 = q4 by rfl] at hd
  have b3 := b2.trans (hd.below b2.size hb hg)
  have HQ3 := Lib.hid hd.1
  clear b2 hd HQ2
  go_wp2_with fail
  refine (has_true HQ3.out (byt_nil w3) 0 (by decide) (by decide)).mono ?_
  rintro e w4 ⟨rfl, d4⟩
  have HQ4 := Lib.hid (HQ3.out.later d4)
  have b4 := below_chain b3 (Nat.le_refl _) d4
  clear b3 d4 HQ3
  go_wp2_with fail
  refine (qgone_any HQ4.out).mono ?_
  rintro e w5 ⟨rfl, d5⟩
  have HQ5 := Lib.hid (HQ4.out.later d5)
  have b5 := below_chain b4 (Nat.le_refl _) d5
  clear b4 d5 HQ4
  rw [show (q4.gone : Int) = 32 by decide]
  go_wp2_with fail
  refine (qcame_any HQ5.out).mono ?_
  rintro e w6 ⟨rfl, d6⟩
  have HQ6 := Lib.hid (HQ5.out.later d6)
  have b6 := below_chain b5 (Nat.le_refl _) d6
  clear b5 d6 HQ5
  rw [show (q4.all.length : Int) = 4 by decide]
  go_wp2_with fail
  refine (qnew_range 0 w6 (by omega)).mono ?_
  rintro e w7 ⟨rfl, rfl⟩
  go_wp2_with fail
  refine (qnew_range 1048577 w6 (by omega)).mono ?_
  rintro e w7 ⟨rfl, rfl⟩
  go_wp2_with fail
  refine (awake2_any w6).mono ?_
  rintro e w7 ⟨rfl, d7⟩
  have HQ7 := Lib.hid (HQ6.out.later d7)
  have b7 := below_chain b6 (Nat.le_refl _) d7
  clear b6 d7 HQ6
  go_wp2_with fail
  refine (qend_any HQ7.out).mono ?_
  rintro e w8 ⟨rfl, hd⟩
  rw [show endE q4 = 0 by decide]
  rw [show ({ q4 with ended := true } : Qs) = q5 by rfl] at hd
  have b8 := b7.trans (hd.below b7.size hb hg)
  have HQ8 := Lib.hid hd.1
  clear b7 hd HQ7
  go_wp2_with fail
  refine (qend_any HQ8.out).mono ?_
  rintro e w9 ⟨rfl, hd⟩
  rw [show endE q5 = 20 by decide]
  rw [show ({ q5 with ended := true } : Qs) = q5 by rfl] at hd
  have b9 := b8.trans (hd.below b8.size hb hg)
  have HQ9 := Lib.hid hd.1
  clear b8 hd HQ8
  go_wp2_with fail
  refine (feeds_lit w9 HQ9.out [1] _ 1 (by rfl) rfl 0 20 (by decide) (by decide) (by decide) _ q5 (by rfl)).mono ?_
  rintro e w10 ⟨rfl, hd⟩
  have b10 := b9.trans (hd.below b9.size hb hg)
  have HQ10 := Lib.hid hd.1
  clear b9 hd HQ9
  go_wp2_with fail
  refine (feeds_true HQ10.out (bytA_nil w10 g) (by decide) 0 20 (by decide) (by decide)).mono ?_
  rintro e w11 ⟨rfl, hd⟩
  have b11 := b10.trans (hd.below b10.size hb hg)
  clear b10 hd HQ10
  go_wp2
  go_ret
  exact ⟨rfl, b11⟩

end Go.Proofs.Ytglnmaekhpaffaa
