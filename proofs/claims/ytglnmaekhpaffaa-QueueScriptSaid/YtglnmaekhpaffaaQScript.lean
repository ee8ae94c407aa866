/- The contract of the law QueueScript: it returns true, and nothing that lay is changed. -/
import Derived.Test.YtglnmaekhpaffaaQAlike
namespace Go.Proofs.Ytglnmaekhpaffaa
open Go.RowKit Go.Shelf
set_option linter.unusedVariables false

/-- a queue and the reference's queue hold the same, and lie apart -/
def Both (n₀ : Nat) (w : World) (b g b2 : Nat) (q : Qs) : Prop := IsQueue w b g q ∧ ∃ v, IsW n₀ w b2 v q ∧ v.ownBlock ≠ some b ∧ v.ownBlock ≠ some g
theorem Both.later {n₀ : Nat} {w w' : World} {b g b2 : Nat} {q : Qs} (h : Both n₀ w b g b2 q) (hb : Below w.heap.size w w') : Both n₀ w' b g b2 q := by
  obtain ⟨h1, v, h2, h3, h4⟩ := h
  exact ⟨h1.later hb, v, h2.later hb, h3, h4⟩
theorem alike_both {n₀ : Nat} {w : World} {b g b2 : Nat} {q : Qs} (h : Both n₀ w b g b2 q) :
    Calls Try.prog 33 #[.pointer (some ⟨b, 0, none⟩), .pointer (some ⟨b2, 0, none⟩)] w fun e w' => e = .returned (.bool true) ∧ Below w.heap.size w w' := by
  obtain ⟨h1, v, h2, _⟩ := h
  exact alike_any h1 h2
/-- the queue did something -/
theorem Both.queue {n₀ : Nat} {w w' : World} {b g b2 : Nat} {q q' : Qs} (h : Both n₀ w b g b2 q) (hd : QDid w w' b g q') (h1 : b2 ≠ b) (h2 : b2 ≠ g) : IsQueue w' b g q' ∧ ∃ v, IsW n₀ w' b2 v q ∧ v.ownBlock ≠ some b ∧ v.ownBlock ≠ some g := by
  obtain ⟨_, v, hw, h3, h4⟩ := h
  refine ⟨hd.1, v, hw.bar hd.2 (by omega) (fun k e e2 => ?_), h3, h4⟩
  rcases e2 with rfl | rfl
  · exact h3 e
  · exact h4 e
theorem QDid.undrew {w w' : World} {b g : Nat} {q : Qs} (h : QDid w.drew w' b g q) : QDid w w' b g q := ⟨h.1, ⟨h.2.os, h.2.tape, h.2.output, h.2.size, h.2.block⟩⟩
/-- then the reference's queue did the same -/
theorem both_ref {n₀ : Nat} {w w' : World} {b g b2 : Nat} {v : Value} {q' : Qs} (hq : IsQueue w b g q') (h3 : v.ownBlock ≠ some b) (h4 : v.ownBlock ≠ some g) (hd : WDid n₀ w w' b2 v q') (h1 : b2 ≠ b) (h2 : b2 ≠ g) : Both n₀ w' b g b2 q' := by
  obtain ⟨v', hw, hb, hk⟩ := hd
  have hlt := hq.lt
  refine ⟨hq.bar hb (fun e => ?_) (fun e => ?_), v', hw, fun e => ?_, fun e => ?_⟩
  · rcases e with e | e
    · exact h1 e.symm
    · exact h3 e
  · rcases e with e | e
    · exact h2 e.symm
    · exact h4 e
  · rcases hk b e with h | h
    · exact h3 h
    · omega
  · rcases hk g e with h | h
    · exact h4 h
    · omega
theorem WDid.below {n₀ B : Nat} {w w' : World} {b2 : Nat} {v : Value} {q q' : Qs} (hw : IsW n₀ w b2 v q) (h : WDid n₀ w w' b2 v q') (hB : B ≤ w.heap.size) (hn : B ≤ n₀) : Below B w w' := by
  obtain ⟨_, _, hb, _⟩ := h
  refine hb.below hB fun k hk e => ?_
  rcases e with rfl | e
  · have := hw.2.1; omega
  · have := (hw.2.2.2.lt k e).1; omega

theorem Lent.keep {S : Nat → Prop} {base : Nat} {w w' : World} {v : Value} {zs : List UInt8} (h : Lent base w v zs) (hb : Bar S w w') (hS : ∀ k, base ≤ k → ¬ S k) : Lent base w' v zs :=
  h.bar hb (fun k e => hS k (by
    obtain ⟨g, cap, rfl, hg, _⟩ := h
    simp [Value.ownBlock] at e
    omega))
theorem Lent.bytA {base g : Nat} {w : World} {v : Value} {zs : List UInt8} (h : Lent base w v zs) (hg : g < base) : BytA w g v zs := by
  obtain ⟨gi, cap, rfl, hgi, hr⟩ := h
  have hcap : zs.length + 4 ≤ cap ∧ cap ≤ 9223372036854775807 := by
    rcases hr.2 with ⟨e, _⟩ | ⟨g', cap', cur, e, _, _, h1, h2, _⟩
    · cases e
    · cases e
      unfold maxLen at h2
      omega
  refine ⟨_, cap, rfl, by omega, hcap.2, .inr ⟨gi, 0, rfl, fun _ => ⟨by omega, (hr.lt gi rfl).2⟩, fun j hj => ?_⟩⟩
  rw [Nat.zero_add, hr.cellAt j (by omega)]
  rw [show u8s (zs ++ tail4) = u8s zs ++ u8s tail4 by simp [u8s], List.getElem?_append_left (by simpa using hj)]
  simp [hj]
theorem over_lent {base : Nat} {w : World} {v : Value} {zs : List UInt8} (h : Lent base w v zs) (hl : zs.length ≤ 1099511627776) :
    Calls Try.prog 20 #[v] w fun e w' => e = .returned (.tuple #[]) ∧ Bar (fun k => v.ownBlock = some k) w w' := by
  obtain ⟨gi, cap, rfl, hgi, hr⟩ := h
  obtain ⟨cur, hg, hc⟩ := bytes0_own hr
  refine (over_some (g := gi) (n := zs.length) ⟨cur, hg, fun j hj => hc j (by omega)⟩ hl).mono ?_
  rintro e w' ⟨rfl, hb⟩
  exact ⟨rfl, ⟨hb.os, hb.tape, hb.output, hb.size, fun k hk hn => hb.block k hk (fun e => hn (by rw [e]; rfl))⟩⟩
theorem fed_one {n₀ : Nat} {wr w5 w6 : World} {b g b2 : Nat} {v vi : Value} {q q' : Qs} {zs : List UInt8} (hq : IsQueue wr b g q) (hw : IsW n₀ wr b2 v q) (h3 : v.ownBlock ≠ some b) (h4 : v.ownBlock ≠ some g)
    (d5 : Below wr.heap.size wr w5) (hLe : Lent wr.heap.size w5 vi zs) (hd : QDid w5 w6 b g q') (ne1 : b2 ≠ b) (ne2 : b2 ≠ g) : IsQueue w6 b g q' ∧ IsW n₀ w6 b2 v q ∧ Lent wr.heap.size w6 vi zs := by
  have hlt := hq.lt
  refine ⟨hd.1, (hw.later d5).bar hd.2 (by omega) (fun k e e2 => ?_), hLe.keep hd.2 (fun k hk e => by omega)⟩
  rcases e2 with rfl | rfl
  · exact h3 e
  · exact h4 e
theorem fed_two {n₀ : Nat} {wr w6 w7 : World} {b g b2 : Nat} {v vi : Value} {q q' : Qs} {zs : List UInt8} (hw : IsW n₀ wr b2 v q) (h3 : v.ownBlock ≠ some b) (h4 : v.ownBlock ≠ some g)
    (hq6 : IsQueue w6 b g q') (hlt : b < wr.heap.size ∧ g < wr.heap.size) (hLe : Lent wr.heap.size w6 vi zs) (hd : WDid n₀ w6 w7 b2 v q') (ne1 : b2 ≠ b) (ne2 : b2 ≠ g) :
    Lent wr.heap.size w7 vi zs ∧ ∀ w8 w9, Below w7.heap.size w7 w8 → Bar (fun k => vi.ownBlock = some k) w8 w9 → Both n₀ w9 b g b2 q' := by
  have hb := both_ref hq6 h3 h4 hd ne1 ne2
  obtain ⟨v', hw7, hbar, hk⟩ := hd
  have hb2 := hw.lt
  have hvl : ∀ k, v.ownBlock = some k → k < wr.heap.size := fun k e => (hw.2.2.2.lt k e).2
  obtain ⟨gi, cap, rfl, hgi, hr⟩ := id hLe
  have hgi6 := (hr.lt gi rfl).2
  have hbv : v'.ownBlock ≠ some b := fun e => by
    have := hq6.lt
    rcases hk b e with h | h
    · exact h3 h
    · omega
  have hbg : v'.ownBlock ≠ some g := fun e => by
    have := hq6.lt
    rcases hk g e with h | h
    · exact h4 h
    · omega
  refine ⟨hLe.keep hbar (fun k hk e => ?_), fun w8 w9 hb8 hb9 => ?_⟩
  · rcases e with e | e
    · omega
    · have := hvl k e; omega
  · refine ⟨(hb.1.later hb8).bar hb9 (fun e => ?_) (fun e => ?_), v', (hw7.later hb8).bar hb9 (fun e => ?_) (fun k e e2 => ?_), hbv, hbg⟩
    · simp [Value.ownBlock] at e; omega
    · simp [Value.ownBlock] at e; omega
    · simp [Value.ownBlock] at e; omega
    · simp [Value.ownBlock] at e2
      subst e2
      rcases hk gi e with h | h
      · have := hvl gi h; omega
      · omega

set_option maxRecDepth 100000 in
set_option maxHeartbeats 8000000 in
theorem queueScript_walk (most : Int) (sv : Value) (xs : List QAct) (w : World) (hB : IsQActs w.heap.size w sv xs) :
    Calls Try.prog 4 #[.int .i64 most, sv] w fun e w' => e = .returned (.bool true) ∧ Below w.heap.size w w' := by
  have HL := Lib.hid (fun w' (hb : Below w.heap.size w w') => qlong_any (hB.below hb))
  have HB := Lib.hid hB
  obtain ⟨a, cap, rfl, hxl, _⟩ := hB
  by_cases hm : most < 1 ∨ 1048576 < most
  · go_enter Try.func4, Try.ntmps4
    go_wp2_with (first
      | (go_at_call 21; refine (qnew_range most _ hm).mono ?_; rintro e w1 ⟨rfl, rfl⟩)
      | (go_at_call 22; refine (wnew_range most _ hm).mono ?_; rintro e w1 ⟨rfl, rfl⟩)
      | (go_at_call 24; refine (awake2_any _).mono ?_; rintro e w5 ⟨rfl, hb5⟩))
    go_ret
    exact ⟨rfl, hb5⟩
  obtain ⟨m, rfl⟩ := Int.eq_ofNat_of_zero_le (a := most) (by omega)
  have hm1 : 1 ≤ m := by omega
  have hm2 : m ≤ 1048576 := by omega
  clear hm
  go_enter Try.func4, Try.ntmps4
  go_wp2_with fail
  refine (qnew_ok m _ hm1 hm2).mono ?_
  rintro e w1 ⟨b, g, rfl, hq, hb, hg, d1⟩
  go_wp2_with fail
  refine (wnew_ok m _ hm1 hm2).mono ?_
  rintro e w2 ⟨b2, rfl, hw, d2⟩
  have hbl := hq.lt
  have hn1 := hw.2.1
  have ne1 : b2 ≠ b := by omega
  have ne2 : b2 ≠ g := by omega
  have hs1 := d1.size
  have hb2 : w.heap.size ≤ b2 := by omega
  have B2 := below_chain d1 (Nat.le_refl _) d2
  have HBo := Lib.hid (show Both w.heap.size w2 b g b2 (newQ m) from ⟨hq.later d2, .slice none 0 0, ⟨hw.1, hb2, hw.2.2.1, World.ownsRow_nil _ _ _ _⟩, by simp [Value.ownBlock], by simp [Value.ownBlock]⟩)
  clear hq hw d1 d2 hbl hn1 hs1
  go_wp2_with fail
  refine (HL.out _ B2).mono ?_
  rintro e w4 ⟨rfl, rfl⟩
  by_cases hlong : qlongB xs = true
  · rw [hlong]
    go_wp2_with (go_at_call 24; refine (awake2_any _).mono ?_; rintro e w5 ⟨rfl, hb5⟩)
    go_ret
    exact ⟨rfl, below_chain B2 (Nat.le_refl _) hb5⟩
  have hlf : qlongB xs = false := by simpa using hlong
  rw [hlf]
  obtain ⟨hx60, hx100⟩ := qlong_false hlf
  have HX := Lib.hid hx100
  clear hlong hlf hx100
  go_wp2_with fail
  go_loopw [9] (fun i wr => ∃ (k : Nat) (q : Qs), i = .int .i64 k ∧ k ≤ xs.length ∧ Both w.heap.size wr b g b2 q ∧ q.all.length ≤ 100 * k ∧ Below w.heap.size w wr) (fun i _ => 60 - (intOf i).toNat)
  case atStart => exact ⟨0, newQ m, rfl, by omega, HBo.out, by simp [newQ], B2⟩
  case round =>
    obtain ⟨k, q, rfl, hk, hbo, hql, hB⟩ := hrel
    have HBo' := Lib.hid hbo
    have HBw := Lib.hid hB
    clear hbo hB
    by_cases hk2 : k < xs.length
    · obtain ⟨a', cap', ea, _, hok, hcells⟩ := HB.out.below HBw.out
      cases ea
      rcases hcells with e | ⟨bx, off, rfl, hbx, hc⟩
      · rw [e] at hk2; simp at hk2
      have hmem : xs[k]?.getD default ∈ xs := by rw [List.getElem?_eq_getElem hk2]; exact List.getElem_mem _
      have hx := hok _ hmem
      have hx100 := HX.out _ hmem
      have HC := Lib.hid (fun w' (hb : Below w.heap.size wr w') j (hj : j < 3) => (hb.cell (p := ⟨bx, off + k * 3 + j, none⟩) hbx).trans (hc k hk2 j hj))
      clear hc hok
      generalize xs[k]?.getD default = x at *
      obtain ⟨kd, nn, xa, xlen, xcap, zs⟩ := x
      simp only [QAct.ok] at hx
      simp only at hx100
      obtain ⟨⟨kd1, kd2⟩, ⟨nn1, nn2⟩, hrow8⟩ := hx
      have HR8 := Lib.hid hrow8
      clear hrow8
      have c0 := HC.out _ (Below.refl _ _) 0 (by omega)
      have c1 := HC.out _ (Below.refl _ _) 1 (by omega)
      have c2 := HC.out _ (Below.refl _ _) 2 (by omega)
      simp only [QAct.cell, Nat.add_zero] at c0 c1 c2
      by_cases hkF : kd = 0 ∨ kd = 1
      · have hzl := HR8.out.1
        subst hzl
        have hzc := HR8.out.2.1
        have hzc2 := HR8.out.2.2.1
        have HSrc : Hid (Src wr xa zs.length (u8s zs)) := by
          have h := HR8.out.src (Nat.le_refl _)
          rw [List.take_length] at h
          exact h
        obtain ⟨hq, v, hw, h3, h4⟩ := HBo'.out
        have hlt := hq.lt
        have HQ1 := Lib.hid hq
        have HW1 := Lib.hid hw
        have hfl : (fedL q zs).length ≤ zs.length := by
          unfold fedL
          split
          · simp
          · simp; omega
        have hsr := HBw.out.size
        clear hq hw
        rcases hkF with rfl | rfl
        all_goals
          go_wp2_with fail
          refine (lent_any HSrc.out HR8.out.nocap (by omega)).mono ?_
          rintro e w5 ⟨vi, rfl, hLe, d5⟩
          have HLe := Lib.hid hLe
          have hBr5 : Below w.heap.size wr w5 := d5.mono hsr
          clear hLe
          go_wp2_with fail
          refine (qfeed_any (HQ1.out.later d5) (HLe.out.bytA hlt.2) (by omega)).mono ?_
          rintro e w6 ⟨rfl, hd⟩
          obtain ⟨hq6, hw6, hL6⟩ := fed_one HQ1.out HW1.out h3 h4 d5 HLe.out hd ne1 ne2
          have hBr6 : Below w.heap.size wr w6 := hBr5.trans (hd.below (Nat.le_trans hsr d5.size) hb hg)
          have c26 := HC.out _ hBr6 2 (by omega)
          simp only [QAct.cell] at c26
          have hs6 : w.heap.size ≤ w6.heap.size := Nat.le_trans hsr hBr6.size
          have HQ6 := Lib.hid hq6
          have HW6 := Lib.hid hw6
          have HL6 := Lib.hid hL6
          clear hd hq6 hw6 hL6 hBr5 d5
          go_wp2_with fail
          refine (wfeed_any HW6.out (HR8.out.later hBr6) hs6 (by omega)).mono ?_
          rintro e w7 ⟨rfl, hd⟩
          obtain ⟨hL7, hbo⟩ := fed_two HW1.out h3 h4 HQ6.out hlt HL6.out hd ne1 ne2
          have hBr7 : Below w.heap.size wr w7 := hBr6.trans (WDid.below HW6.out hd hs6 (Nat.le_refl _))
          have c27 := HC.out _ hBr7 2 (by omega)
          simp only [QAct.cell] at c27
          have hs7 : w.heap.size ≤ w7.heap.size := Nat.le_trans hsr hBr7.size
          have HL7 := Lib.hid hL7
          have HBo7 := Lib.hid hbo
          have HBy : Hid (Byt w7.heap.size w7 (.slice xa zs.length xcap) zs) := by
            have h := (HR8.out.later hBr7).byt hs7 (Nat.le_refl _) (by omega)
            rw [List.take_length] at h
            exact h
          clear hd hL7 hbo hBr6 c26
          obtain ⟨N, hN⟩ : ∃ N, N = (fedL q zs).length := ⟨_, rfl⟩
          rw [← hN]
          rw [← hN] at hfl
          have HN := Lib.hid hN
          clear hN
          generalize feedE q = ee
          go_wp2_with fail
          refine (kept_any HL7.out HBy.out (by omega)).mono ?_
          rintro e w8 ⟨rfl, b8⟩
          have HL8 := Lib.hid (HL7.out.keep (bar_of_below (S := fun _ => False) b8) (fun _ _ e => e))
          go_wp2_with fail
          refine (over_lent HL8.out (by omega)).mono ?_
          rintro e w9 ⟨rfl, hb9⟩
          have HBo9 := Lib.hid (HBo7.out _ _ b8 hb9)
          have hBr9 : Below w.heap.size wr w9 := (below_chain hBr7 hsr b8).trans (hb9.below (Nat.le_trans hs7 b8.size) (fun k hk e => by
            obtain ⟨gi, _, e1, h1, _⟩ := HL8.out
            rw [e1] at e
            simp [Value.ownBlock] at e
            omega))
          have B9 := HBw.out.trans hBr9
          clear hb9 hBr9 hBr7
          go_wp2_with fail
          refine (alike_both HBo9.out).mono ?_
          rintro e w10 ⟨rfl, b10⟩
          go_wp2
          go_roundw
          case rel => exact ⟨k + 1, feedQ q zs, by go_num, by omega, HBo9.out.later b10, by have := HN.out; simp only [feedQ, List.length_append]; omega, below_chain B9 (Nat.le_refl _) b10⟩
          case measure => simp [intOf]; omega
      by_cases hkS : kd = 2 ∨ kd = 3 ∨ kd = 4
      · clear hkF
        have hki : (k : Int) < (xs.length : Int) := by omega
        have hk0 : (0 : Int) ≤ (k : Int) := by omega
        have HK1 : Hid (Calls Try.prog 29 #[.pointer (some ⟨b, 0, none⟩), .int .i64 nn] wr.drew fun e w' => e = .returned (.int .i64 (skipE q nn)) ∧ QDid wr.drew w' b g (skipQ q nn)) := qskip_any (w := wr.drew) HBo'.out.1 nn
        have hsl : (skipQ q nn).all.length = q.all.length := by unfold skipQ; split <;> rfl
        have hsr := HBw.out.size
        rcases hkS with rfl | rfl | rfl
        all_goals
          go_wp2_with fail
          go_region_held3 (fun w' => w'.cell? ⟨bx, off + k * 3 + 1, none⟩ = some (.int .i64 nn))
            (first | go_keep | exact c16 | exact c15)
            (first
             | (go_at_call 29; refine HK1.out.mono ?_; rintro e w5 ⟨rfl, hd⟩; obtain ⟨hq5, v, hw5, h3, h4⟩ := HBo'.out.queue hd.undrew ne1 ne2; have hBr5 := hd.undrew.below hsr hb hg; have c15 := HC.out _ hBr5 1 (by omega); simp only [QAct.cell] at c15; have HQ5 := Lib.hid hq5; have HW5 := Lib.hid hw5; clear hd hq5 hw5)
             | (go_at_call 30; refine (wskip_any HW5.out nn).mono ?_; rintro e w6 ⟨rfl, hd⟩; have HBo6 := Lib.hid (both_ref HQ5.out h3 h4 hd ne1 ne2); have hBr6 := hBr5.trans (WDid.below HW5.out hd (Nat.le_trans hsr hBr5.size) (Nat.le_refl _)); have c16 := HC.out _ hBr6 1 (by omega); simp only [QAct.cell] at c16; clear hd))
          have B6 := HBw.out.trans hBr6
          clear hBr5 hBr6 c15 c16
          generalize skipE q nn = ee
          go_wp2_with fail
          refine (alike_both HBo6.out).mono ?_
          rintro e w10 ⟨rfl, b10⟩
          go_wp2
          go_roundw
          case rel => exact ⟨k + 1, skipQ q nn, by go_num, by omega, HBo6.out.later b10, by omega, below_chain B6 (Nat.le_refl _) b10⟩
          case measure => simp [intOf]; omega
      have t0 : (kd == 0) = false := by simp; omega
      have t1 : (kd == 1) = false := by simp; omega
      have t2 : (kd == 2) = false := by simp; omega
      have t3 : (kd == 3) = false := by simp; omega
      have t4 : (kd == 4) = false := by simp; omega
      clear hkF hkS
      by_cases hk5 : kd = 5
      · subst hk5
        clear t0 t1 t2 t3 t4
        go_wp2_with fail
        refine (qend_any HBo'.out.1).mono ?_
        rintro e w5 ⟨rfl, hd⟩
        obtain ⟨hq5, v, hw5, h3, h4⟩ := HBo'.out.queue hd ne1 ne2
        have B5 := HBw.out.trans (hd.below HBw.out.size hb hg)
        have HQ5 := Lib.hid hq5
        have HW5 := Lib.hid hw5
        clear hd hq5 hw5
        go_wp2_with fail
        refine (wend_any HW5.out).mono ?_
        rintro e w6 ⟨rfl, hd⟩
        have HBo6 := Lib.hid (both_ref HQ5.out h3 h4 hd ne1 ne2)
        have B6 := B5.trans (WDid.below HW5.out hd B5.size (Nat.le_refl _))
        clear hd B5
        generalize endE q = ee
        go_wp2_with fail
        refine (alike_both HBo6.out).mono ?_
        rintro e w9 ⟨rfl, b9⟩
        go_wp2
        go_roundw
        case rel => exact ⟨k + 1, { q with ended := true }, by go_num, by omega, HBo6.out.later b9, by simp only; omega, below_chain B6 (Nat.le_refl _) b9⟩
        case measure => simp [intOf]; omega
      · have t5 : (kd == 5) = false := by simp; omega
        clear hk5
        go_wp2_with fail
        refine (alike_both HBo'.out).mono ?_
        rintro e w9 ⟨rfl, b9⟩
        go_wp2
        go_roundw
        case rel => exact ⟨k + 1, q, by go_num, by omega, HBo'.out.later b9, by omega, below_chain HBw.out (Nat.le_refl _) b9⟩
        case measure => simp [intOf]; omega
    · have hkx : k = xs.length := by omega
      subst k
      go_wp2_with fail
      refine (alike_both HBo'.out).mono ?_
      rintro e w9 ⟨rfl, b9⟩
      go_wp2_with (go_at_call 24; refine (awake2_any _).mono ?_; rintro e w5 ⟨rfl, hb5⟩)
      go_ret
      exact ⟨rfl, below_chain (below_chain HBw.out (Nat.le_refl _) b9) (Nat.le_refl _) hb5⟩

end Go.Proofs.Ytglnmaekhpaffaa
