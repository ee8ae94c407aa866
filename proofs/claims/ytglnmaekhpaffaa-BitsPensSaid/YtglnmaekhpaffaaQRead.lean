/- The contract of the law QueueRead: it returns true, and nothing that lay is changed. -/
import Derived.Test.YtglnmaekhpaffaaQActs
import Derived.Test.YtglnmaekhpaffaaAppendSrc
namespace Go.Proofs.Ytglnmaekhpaffaa
open Go.RowKit Go.Shelf
set_option linter.unusedVariables false

theorem rem_bt (zs : List UInt8) (k : Nat) : (wrap64 (((zs[k / 8]?.getD 0).toNat : Int) / 2 ^ (7 - k % 8))).tmod 2 = (bt zs k : Int) := by
  have hb : (zs[k / 8]?.getD 0).toNat < 256 := UInt8.toNat_lt _
  have e : (((zs[k / 8]?.getD 0).toNat : Int) / 2 ^ (7 - k % 8)) = (((zs[k / 8]?.getD 0).toNat / 2 ^ (7 - k % 8) : Nat) : Int) := by
    rw [Int.natCast_ediv]; simp
  have hle : (zs[k / 8]?.getD 0).toNat / 2 ^ (7 - k % 8) ≤ (zs[k / 8]?.getD 0).toNat := Nat.div_le_self _ _
  rw [e]
  unfold bt
  rw [List.getD_eq_getElem?_getD]
  generalize (zs[k / 8]?.getD 0).toNat / 2 ^ (7 - k % 8) = q at *
  rw [IntWalk.wrap64_in _ ⟨by omega, by omega⟩, Int.tmod_eq_emod_of_nonneg (by omega)]
  omega
theorem bit2_at (b off len cap : Nat) (zs : List UInt8) (k : Nat) (w : World) (h1 : k < 8 * len) (hl : len ≤ 1152921504606846975)
    (hc : w.cell? ⟨b, off + k / 8, none⟩ = some (.int .u8 ((zs[k / 8]?.getD 0).toNat))) :
    Calls Try.prog 44 #[.slice (some ⟨b, off, none⟩) len cap, .int .i64 k] w fun e w' => e = .returned (.int .i64 (bt zs k)) ∧ w = w' := by
  go_enter Try.func44, Try.ntmps44
  go_wp2
  go_ret
  exact ⟨ret_int (rem_bt zs k), rfl⟩
theorem bit2_any {n₀ : Nat} {w : World} {sv : Value} {zs : List UInt8} (hB : Byt n₀ w sv zs) (i : Int) (k : Nat) (hi : i = k) (h : k < 8 * zs.length) :
    Calls Try.prog 44 #[sv, .int .i64 i] w fun e w' => e = .returned (.int .i64 (bt zs k)) ∧ w = w' := by
  subst hi
  obtain ⟨a, cap, rfl, hl, hz⟩ := hB
  rcases hz with rfl | ⟨b, off, rfl, _, hc⟩
  · simp at h
  · exact bit2_at b off zs.length cap zs k w h hl (hc _ (by omega))

theorem bt_drop (zs : List UInt8) (G k : Nat) : bt (zs.drop (G / 8)) (G % 8 + k) = bt zs (G + k) := by
  unfold bt
  rw [show (G + k) % 8 = (G % 8 + k) % 8 by omega, List.getD_eq_getElem?_getD, List.getD_eq_getElem?_getD, List.getElem?_drop, show G / 8 + (G % 8 + k) / 8 = (G + k) / 8 by omega]

theorem Row8.src {n₀ : Nat} {w : World} {a : Option Addr} {len cap : Nat} {zs : List UInt8} (h : Row8 n₀ w a len cap zs) {n : Nat} (hn : n ≤ len) : Src w a n (u8s (zs.take n)) := by
  obtain ⟨h1, h2, h3, h4⟩ := h
  refine ⟨by simp; omega, ?_⟩
  rcases h4 with rfl | ⟨b, off, rfl, hlt, hc⟩
  · left; omega
  · right
    refine ⟨_, rfl, fun j u hu => ?_⟩
    have hadd : (⟨b, off, none⟩ : Addr).add j = ⟨b, off + j, none⟩ := by unfold Addr.add; split <;> simp_all
    have hj : j < n := by
      false_or_by_contra
      rw [List.getElem?_eq_none (by simp; omega)] at hu
      cases hu
    rw [hadd, hc j (by omega)]
    simp only [u8s, List.getElem?_map, List.getElem?_take, if_pos hj] at hu
    rw [List.getElem?_eq_getElem (by omega)] at hu ⊢
    simpa using hu
theorem Row8.nocap {n₀ : Nat} {w : World} {a : Option Addr} {len cap : Nat} {zs : List UInt8} (h : Row8 n₀ w a len cap zs) : a = none → cap = 0 := by
  rcases h.2.2.2 with h | ⟨b, off, rfl, _⟩
  · exact fun _ => h
  · exact fun e => by cases e

/-- what the law's loop keeps -/
def ReadLoop (w wr : World) (b g M k : Nat) (v : Value) (q : Qs) : Prop :=
  q.most = M ∧ q.ended = false ∧ IsQueue wr b g q ∧ wr.ownsRow w.heap.size 5 1 v q.all.length (u8s q.all) ∧ v.ownBlock ≠ some g ∧ q.all.length ≤ 100 * k ∧ Below w.heap.size w wr
theorem row_form {w : World} {base n : Nat} {e : TypeId} {v : Value} {xs : List Value} (h : w.ownsRow base e 1 v n xs) : ∃ av cap, v = .slice av n cap := by
  rcases h.2 with ⟨rfl, rfl⟩ | ⟨g, cap, cur, rfl, _⟩
  · exact ⟨_, _, rfl⟩
  · exact ⟨_, _, rfl⟩

theorem ownsRow_bar {S : Nat → Prop} {w w' : World} {base n : Nat} {e : TypeId} {v : Value} {xs : List Value} (h : w.ownsRow base e 1 v n xs) (hb : Bar S w w') (hS : ∀ k, v.ownBlock = some k → ¬ S k) : w'.ownsRow base e 1 v n xs := by
  have hlt := h.lt
  refine ⟨h.1, ?_⟩
  rcases h.2 with hn | ⟨g', cap, cur, rfl, hbb, hg, rest⟩
  · exact .inl hn
  · exact .inr ⟨g', cap, cur, rfl, hbb, (hb.block g' (hlt g' rfl).2 (hS g' rfl)).trans hg, rest⟩
theorem row_not_queue {w : World} {base n b g : Nat} {v : Value} {xs : List Value} {q : Qs} (h : w.ownsRow base 5 1 v n xs) (hq : IsQueue w b g q) : v.ownBlock ≠ some b := by
  intro e
  obtain ⟨_, _, hb, _⟩ := hq
  rcases h.2 with ⟨rfl, _⟩ | ⟨g', cap, cur, rfl, _, hg, _⟩
  · simp [Value.ownBlock] at e
  · simp [Value.ownBlock] at e
    subst e
    rw [hb] at hg
    simp [qCells] at hg

/-- the end of a round that fed: all that the loop keeps, behind bytes were appended -/
theorem read_fed {w w6 w7 : World} {b g M k N : Nat} {v v' : Value} {q q' : Qs} {ys : List UInt8} (hb : w.heap.size ≤ b) (hg : w.heap.size ≤ g) (hB : Below w.heap.size w w6) (hrow : w6.ownsRow w.heap.size 5 1 v q.all.length (u8s q.all)) (hvg : v.ownBlock ≠ some g)
    (hq : IsQueue w6 b g q') (hap : Appended w6 w7 w.heap.size v v' (q.all.length + N) (u8s q.all ++ u8s ys)) (hq' : q' = { q with all := q.all ++ ys }) (hy : ys.length = N) (hM : q.most = M) (he : q.ended = false) (hl : q.all.length + N ≤ 100 * (k + 1)) :
    ReadLoop w w7 b g M (k + 1) v' q' := by
  obtain ⟨h1, h2, h3⟩ := hap
  subst hq'
  have hlt := hq.lt
  have hbar := bar_of_grown (S := fun k => v.ownBlock = some k) h2 (fun k e => e)
  refine ⟨hM, he, hq.bar hbar (row_not_queue hrow hq) hvg, ?_, ?_, by simp; omega, ?_⟩
  · have e1 : (q.all ++ ys).length = q.all.length + N := by simp [hy]
    have e2 : u8s (q.all ++ ys) = u8s q.all ++ u8s ys := by simp [u8s]
    simp only
    rw [e1, e2]
    exact h1
  · intro e
    rcases h3 g e with h | h
    · exact hvg h
    · omega
  · exact hB.trans (hbar.below hB.size (fun j hj e => by have := (hrow.lt j e).1; omega))

set_option maxRecDepth 100000 in
set_option maxHeartbeats 8000000 in
theorem queueRead_walk (most : Int) (sv : Value) (xs : List QAct) (w : World) (hB : IsQActs w.heap.size w sv xs) :
    Calls Try.prog 7 #[.int .i64 most, sv] w fun e w' => e = .returned (.bool true) ∧ Below w.heap.size w w' := by
  have HL := Lib.hid (fun w' (hb : Below w.heap.size w w') => qlong_any (hB.below hb))
  have HB := Lib.hid hB
  obtain ⟨a, cap, rfl, hxl, _⟩ := hB
  have HP1 := Lib.hid (fun w' => pick_any most 40 w' (by omega) (by omega))
  obtain ⟨m, hm⟩ : ∃ m : Nat, most % 40 = (m : Int) := ⟨(most % 40).toNat, by omega⟩
  rw [hm] at HP1
  have hm2 : m < 40 := by omega
  clear hm
  go_enter Try.func7, Try.ntmps7
  go_wp2_with fail
  refine (queueKnown_any _).mono ?_
  rintro e w1 ⟨rfl, b1⟩
  go_wp2_with fail
  refine (HP1.out _).mono ?_
  rintro e w2 ⟨rfl, rfl⟩
  go_wp2_with fail
  refine (qnew_at (1 + (m : Int)) (1 + m) (by omega) _ (by omega) (by omega)).mono ?_
  rintro e w3 ⟨b, g, rfl, hq, hb, hg, d3⟩
  have b3 := below_chain b1 (Nat.le_refl _) d3
  have hs1 := b1.size
  replace hb : w.heap.size ≤ b := by omega
  replace hg : w.heap.size ≤ g := by omega
  have HQ := Lib.hid hq
  clear hq b1 d3 hs1
  go_wp2_with fail
  refine (HL.out _ b3).mono ?_
  rintro e w4 ⟨rfl, rfl⟩
  by_cases hlong : qlongB xs = true
  · rw [hlong]
    go_wp2
    go_ret
    exact ⟨rfl, b3⟩
  have hlf : qlongB xs = false := by simpa using hlong
  rw [hlf]
  obtain ⟨hx60, hx100⟩ := qlong_false hlf
  have HX := Lib.hid hx100
  clear hlong hlf hx100
  go_wp2_with fail
  go_loopw [8, 9, 10] (fun v r i wr => ∃ (k : Nat) (q : Qs), i = .int .i64 k ∧ k ≤ xs.length ∧ r = .int .i64 q.gone ∧ ReadLoop w wr b g (1 + m) k v q) (fun _ _ i _ => 60 - (intOf i).toNat)
  case atStart => exact ⟨0, newQ (1 + m), rfl, by omega, rfl, rfl, rfl, HQ.out, World.ownsRow_nil _ _ _ _, by simp [Value.ownBlock], by simp [newQ], b3⟩
  case round =>
    obtain ⟨k, q, rfl, hk, rfl, hqm, hqe, hq, hrow, hvg, hql, hB⟩ := hrel
    obtain ⟨av, cv, rfl⟩ := row_form hrow
    have ho := hq.1
    have o1 := ho.gone
    have o2 := ho.held
    clear ho
    have HQ1 := Lib.hid hq
    have HRow := Lib.hid hrow
    have HVg := Lib.hid hvg
    have HBw := Lib.hid hB
    have HQm := Lib.hid hqm
    have HQe := Lib.hid hqe
    clear hq hrow hvg hB hqm hqe
    by_cases hk2 : k < xs.length
    · obtain ⟨a', cap', ea, _, hok, hcells⟩ := HB.out.below HBw.out
      cases ea
      rcases hcells with e | ⟨bx, off, rfl, hbx, hc⟩
      · rw [e] at hk2; simp at hk2
      have hmem : xs[k]?.getD default ∈ xs := by rw [List.getElem?_eq_getElem hk2]; exact List.getElem_mem _
      have hx := hok _ hmem
      have hx100 := HX.out _ hmem
      have HC := Lib.hid (fun w' (hb : Below w.heap.size wr w') j (hj : j < 3) => (hb.cell (p := ⟨bx, off + k * 3 + j, none⟩) hbx).trans (hc k hk2 j hj))
      clear hc hok
      generalize xs[k]?.getD default = x at *
      obtain ⟨kd, nn, xa, xlen, xcap, zs⟩ := x
      simp only [QAct.ok] at hx
      simp only at hx100
      obtain ⟨⟨kd1, kd2⟩, ⟨nn1, nn2⟩, hrow8⟩ := hx
      have HR8 := Lib.hid hrow8
      clear hrow8
      have c0 := HC.out _ (Below.refl _ _) 0 (by omega)
      have c1 := HC.out _ (Below.refl _ _) 1 (by omega)
      have c2 := HC.out _ (Below.refl _ _) 2 (by omega)
      simp only [QAct.cell, Nat.add_zero] at c0 c1 c2
      by_cases hkd : kd.tmod 2 = 0
      · have hkb : (kd.tmod 2 == 0) = true := by simpa using hkd
        clear hkd
        have hzl := HR8.out.1
        have hzc := HR8.out.2.1
        have hzc2 := HR8.out.2.2.1
        go_wp2_with fail
        refine (qfeed_any HQ1.out (HR8.out.bytA HBw.out.size hg) (by omega)).mono ?_
        rintro e w5 ⟨rfl, hd⟩
        have hfl : (fedL q zs).length = min xlen (q.most - (q.all.length - q.gone / 8)) := by
          simp only [fedL, HQe.out, Bool.false_eq_true, if_false, List.length_take, hzl]; omega
        have hfe : feedE q = 0 := by simp [feedE, HQe.out]
        have hft : fedL q zs = zs.take (fedL q zs).length := by
          simp only [fedL, HQe.out, Bool.false_eq_true, if_false, List.length_take]
          rw [List.take_eq_take_min]
        rw [hfe]
        have B5 := HBw.out.trans (hd.below HBw.out.size hb hg)
        have hbel : Below w.heap.size wr w5 := hd.below HBw.out.size hb hg
        have c2' := HC.out _ hbel 2 (by omega)
        simp only [QAct.cell] at c2'
        have hrow5 := HRow.out.kept (w' := w5) (row := some w5.heap.size)
        obtain ⟨N, hN⟩ : ∃ N, N = (fedL q zs).length := ⟨_, rfl⟩
        rw [← hN] at hfl hft ⊢
        have HQ5 := Lib.hid hd.1
        have HD5 := Lib.hid hd.2
        have hN1 : N ≤ xlen := by omega
        have HN := Lib.hid hN
        have HFL := Lib.hid hfl
        have HFT := Lib.hid hft
        clear hd hN hfl hft hfe hrow5
        by_cases hNx : N < xlen
        · go_wp2_with fail
          refine (qfree_any HQ5.out).mono ?_
          rintro e w6 ⟨rfl, d6⟩
          have EF0 : Hid ((((feedQ q zs).most - ((feedQ q zs).all.length - (feedQ q zs).gone / 8) : Nat) : Int) = 0) := by
            show (((feedQ q zs).most - ((feedQ q zs).all.length - (feedQ q zs).gone / 8) : Nat) : Int) = 0
            have h2 := HN.out
            have h4 := HFL.out
            simp only [feedQ, List.length_append, ← h2]
            omega
          rw [EF0.out]
          have HQ6 := Lib.hid (HQ5.out.later d6)
          have B6 := below_chain B5 (Nat.le_refl _) d6
          have hbel6 : Below w.heap.size wr w6 := hbel.trans (d6.mono B5.size)
          have BarF : Hid (Bar (fun k => k = b ∨ k = g) wr w6) := HD5.out.trans (bar_of_below (S := fun _ => False) d6) (fun _ _ e => e.elim)
          clear d6 B5 hbel
          have hrow6 := ownsRow_bar HRow.out (S := fun k => k = b ∨ k = g) (w' := w6) BarF.out (fun j e1 e2 => e2.elim (fun h => row_not_queue HRow.out HQ1.out (h ▸ e1)) (fun h => HVg.out (h ▸ e1)))
          have HRow6 := Lib.hid hrow6
          have hs6 := B6.size
          have HR6 := HR8.out.later hbel6
          have HSrc := Lib.hid (HR6.src hN1)
          have HNc := Lib.hid HR6.nocap
          have c26 := HC.out _ hbel6 2 (by omega)
          simp only [QAct.cell] at c26
          clear HR6 hrow6
          go_wp2_with (at_builtin; refine wpList_append_src rfl (.tmp 89) (.tmp 96) rfl w.heap.size (.slice av q.all.length cv) q.all.length (u8s q.all) rfl HRow6.out xa N xcap (u8s (zs.take N)) rfl HSrc.out HNc.out u8s_one (by omega) hs6 ?_; intro v' w7 hap)
          have hq7 := read_fed (M := 1 + m) (k := k) hb hg B6 HRow6.out HVg.out HQ6.out hap (by unfold feedQ; rw [HFT.out]) (by simp; omega) HQm.out HQe.out (by omega)
          obtain ⟨av', cv', rfl⟩ := row_form hap.1
          clear hap
          obtain ⟨n', hn'⟩ : ∃ n', n' = q.all.length + N := ⟨_, rfl⟩
          rw [← hn'] at hq7 ⊢
          have Hn' := Lib.hid hn'
          have HR7 := Lib.hid hq7
          have HQf : IsQueue w7 b g (feedQ q zs) := hq7.2.2.1
          clear hq7
          have hn'b : q.all.length ≤ n' ∧ n' ≤ 6100 := by omega
          clear hn'
          have HQt := Lib.hid HQf
          have EL : Hid (((8 * (feedQ q zs).all.length - (feedQ q zs).gone : Nat) : Int) = 8 * (n' : Int) - (q.gone : Int)) := by
            show ((8 * (feedQ q zs).all.length - (feedQ q zs).gone : Nat) : Int) = 8 * (n' : Int) - (q.gone : Int)
            have h1 := Hn'.out; have h2 := HN.out; have h3 := HQm.out; have h4 := HFL.out; simp only [feedQ, List.length_append, ← h2]; omega
          have EG : Hid ((((feedQ q zs).gone : Nat) : Int) = (q.gone : Int)) := Lib.hid rfl
          have EC : Hid ((((feedQ q zs).all.length : Nat) : Int) = (n' : Int)) := by
            show (((feedQ q zs).all.length : Nat) : Int) = (n' : Int)
            have h1 := Hn'.out; have h2 := HN.out; have h3 := HQm.out; have h4 := HFL.out; simp only [feedQ, List.length_append, ← h2]; omega
          have EF : Hid ((((feedQ q zs).most - ((feedQ q zs).all.length - (feedQ q zs).gone / 8) : Nat) : Int) = 1 + (m : Int) - ((n' : Int) - (q.gone : Int) / 8)) := by
            show (((feedQ q zs).most - ((feedQ q zs).all.length - (feedQ q zs).gone / 8) : Nat) : Int) = 1 + (m : Int) - ((n' : Int) - (q.gone : Int) / 8)
            have h1 := Hn'.out; have h2 := HN.out; have h3 := HQm.out; have h4 := HFL.out; simp only [feedQ, List.length_append, ← h2]; omega
          clear HQf
          go_wp2_with fail
          refine (qleft_any HQt.out).mono ?_
          rintro e x1 ⟨rfl, t1⟩
          rw [EL.out]
          go_wp2_with fail
          refine (qgone_any (HQt.out.later t1)).mono ?_
          rintro e x2 ⟨rfl, t2'⟩
          rw [EG.out]
          have t2 := below_chain t1 (Nat.le_refl _) t2'
          go_wp2_with fail
          refine (qcame_any (HQt.out.later t2)).mono ?_
          rintro e x3 ⟨rfl, t3'⟩
          rw [EC.out]
          have t3 := below_chain t2 (Nat.le_refl _) t3'
          go_wp2_with fail
          refine (qfree_any (HQt.out.later t3)).mono ?_
          rintro e x4 ⟨rfl, t4'⟩
          rw [EF.out]
          have t4 := below_chain t3 (Nat.le_refl _) t4'
          clear t1 t2 t2' t3 t3' t4'
          go_wp2
          go_roundw
          case rel => exact ⟨k + 1, feedQ q zs, by go_num, by omega, rfl, HR7.out.1, HR7.out.2.1, HR7.out.2.2.1.later t4, ownsRow_bar HR7.out.2.2.2.1 (bar_of_below (S := fun _ => False) t4) (fun _ _ e => e), HR7.out.2.2.2.2.1, HR7.out.2.2.2.2.2.1, below_chain HR7.out.2.2.2.2.2.2 (Nat.le_refl _) t4⟩
          case measure => simp [intOf]; omega
        · obtain rfl : N = xlen := by omega
          obtain ⟨w6, hw6⟩ : ∃ w6, w6 = w5 := ⟨_, rfl⟩
          subst hw6
          have HQ6 := HQ5
          have B6 := B5
          have hbel6 := hbel
          have BarF := HD5
          clear B5 hbel
          have hrow6 := ownsRow_bar HRow.out (S := fun k => k = b ∨ k = g) (w' := w6) BarF.out (fun j e1 e2 => e2.elim (fun h => row_not_queue HRow.out HQ1.out (h ▸ e1)) (fun h => HVg.out (h ▸ e1)))
          have HRow6 := Lib.hid hrow6
          have hs6 := B6.size
          have HR6 := HR8.out.later hbel6
          have HSrc := Lib.hid (HR6.src hN1)
          have HNc := Lib.hid HR6.nocap
          have c26 := HC.out _ hbel6 2 (by omega)
          simp only [QAct.cell] at c26
          clear HR6 hrow6
          go_wp2_with (at_builtin; refine wpList_append_src rfl (.tmp 89) (.tmp 96) rfl w.heap.size (.slice av q.all.length cv) q.all.length (u8s q.all) rfl HRow6.out xa N xcap (u8s (zs.take N)) rfl HSrc.out HNc.out u8s_one (by omega) hs6 ?_; intro v' w7 hap)
          have hq7 := read_fed (M := 1 + m) (k := k) hb hg B6 HRow6.out HVg.out HQ6.out hap (by unfold feedQ; rw [HFT.out]) (by simp; omega) HQm.out HQe.out (by omega)
          obtain ⟨av', cv', rfl⟩ := row_form hap.1
          clear hap
          obtain ⟨n', hn'⟩ : ∃ n', n' = q.all.length + N := ⟨_, rfl⟩
          rw [← hn'] at hq7 ⊢
          have Hn' := Lib.hid hn'
          have HR7 := Lib.hid hq7
          have HQf : IsQueue w7 b g (feedQ q zs) := hq7.2.2.1
          clear hq7
          have hn'b : q.all.length ≤ n' ∧ n' ≤ 6100 := by omega
          clear hn'
          have HQt := Lib.hid HQf
          have EL : Hid (((8 * (feedQ q zs).all.length - (feedQ q zs).gone : Nat) : Int) = 8 * (n' : Int) - (q.gone : Int)) := by
            show ((8 * (feedQ q zs).all.length - (feedQ q zs).gone : Nat) : Int) = 8 * (n' : Int) - (q.gone : Int)
            have h1 := Hn'.out; have h2 := HN.out; have h3 := HQm.out; have h4 := HFL.out; simp only [feedQ, List.length_append, ← h2]; omega
          have EG : Hid ((((feedQ q zs).gone : Nat) : Int) = (q.gone : Int)) := Lib.hid rfl
          have EC : Hid ((((feedQ q zs).all.length : Nat) : Int) = (n' : Int)) := by
            show (((feedQ q zs).all.length : Nat) : Int) = (n' : Int)
            have h1 := Hn'.out; have h2 := HN.out; have h3 := HQm.out; have h4 := HFL.out; simp only [feedQ, List.length_append, ← h2]; omega
          have EF : Hid ((((feedQ q zs).most - ((feedQ q zs).all.length - (feedQ q zs).gone / 8) : Nat) : Int) = 1 + (m : Int) - ((n' : Int) - (q.gone : Int) / 8)) := by
            show (((feedQ q zs).most - ((feedQ q zs).all.length - (feedQ q zs).gone / 8) : Nat) : Int) = 1 + (m : Int) - ((n' : Int) - (q.gone : Int) / 8)
            have h1 := Hn'.out; have h2 := HN.out; have h3 := HQm.out; have h4 := HFL.out; simp only [feedQ, List.length_append, ← h2]; omega
          clear HQf
          go_wp2_with fail
          refine (qleft_any HQt.out).mono ?_
          rintro e x1 ⟨rfl, t1⟩
          rw [EL.out]
          go_wp2_with fail
          refine (qgone_any (HQt.out.later t1)).mono ?_
          rintro e x2 ⟨rfl, t2'⟩
          rw [EG.out]
          have t2 := below_chain t1 (Nat.le_refl _) t2'
          go_wp2_with fail
          refine (qcame_any (HQt.out.later t2)).mono ?_
          rintro e x3 ⟨rfl, t3'⟩
          rw [EC.out]
          have t3 := below_chain t2 (Nat.le_refl _) t3'
          go_wp2_with fail
          refine (qfree_any (HQt.out.later t3)).mono ?_
          rintro e x4 ⟨rfl, t4'⟩
          rw [EF.out]
          have t4 := below_chain t3 (Nat.le_refl _) t4'
          clear t1 t2 t2' t3 t3' t4'
          go_wp2
          go_roundw
          case rel => exact ⟨k + 1, feedQ q zs, by go_num, by omega, rfl, HR7.out.1, HR7.out.2.1, HR7.out.2.2.1.later t4, ownsRow_bar HR7.out.2.2.2.1 (bar_of_below (S := fun _ => False) t4) (fun _ _ e => e), HR7.out.2.2.2.2.1, HR7.out.2.2.2.2.2.1, below_chain HR7.out.2.2.2.2.2.2 (Nat.le_refl _) t4⟩
          case measure => simp [intOf]; omega
      · have hkb : (kd.tmod 2 == 0) = false := by simpa using hkd
        clear hkd
        obtain ⟨nP, hnP⟩ : ∃ nP : Nat, nn % (8 * (q.all.length : Int) - (q.gone : Int) + 1) = (nP : Int) := ⟨_, (Int.toNat_of_nonneg (Int.emod_nonneg _ (by omega))).symm⟩
        have hnP2 : q.gone + nP ≤ 8 * q.all.length := by
          have := Int.emod_lt_of_pos nn (b := 8 * (q.all.length : Int) - q.gone + 1) (by omega)
          omega
        have HP := Lib.hid (fun w' => pick_any nn (8 * (q.all.length : Int) - q.gone + 1) w' (by omega) (by omega))
        rw [hnP] at HP
        clear hnP
        go_wp2_with fail
        refine (HP.out _).mono ?_
        rintro e w5 ⟨rfl, rfl⟩
        go_wp2_with fail
        refine (qbits_any HQ1.out).mono ?_
        rintro e w5 ⟨vb, rfl, hrowb, hd⟩
        obtain ⟨ab, cb, rfl⟩ := row_form hrowb
        have B5 := below_chain HBw.out (Nat.le_refl _) hd
        have HQ5 := Lib.hid (HQ1.out.later hd)
        have HR5 := Lib.hid (ownsRow_bar HRow.out (bar_of_below (S := fun _ => False) hd) (fun _ _ e => e))
        have HB1 := Lib.hid (fun (i : Int) (j : Nat) (hi : i = ((q.gone % 8 : Nat) : Int) + j) (hj : j < nP) => bit2_any (byt_own (n₀ := w5.heap.size) hrowb (by simp; omega) (Nat.le_refl _)) i (q.gone % 8 + j) (by omega) (by simp; omega))
        have HB2 := Lib.hid (fun (i : Int) (j : Nat) (hi : i = (q.gone : Int) + j) (hj : j < nP) => bit2_any (byt_own (n₀ := w5.heap.size) HR5.out (by omega) (Nat.le_refl _)) i (q.gone + j) (by omega) (by omega))
        simp only [bt_drop] at HB1
        obtain ⟨nb, hnb⟩ : ∃ nb, nb = (q.all.drop (q.gone / 8)).length := ⟨_, rfl⟩
        obtain ⟨pz, hpz⟩ : ∃ pz, pz = q.gone % 8 := ⟨_, rfl⟩
        rw [← hnb] at HB1 ⊢
        rw [← hpz] at HB1 ⊢
        have hnb2 : nP + pz ≤ 8 * nb ∧ nb ≤ 6100 := by rw [hnb, List.length_drop]; omega
        have hpz2 : pz ≤ 7 := by omega
        clear hnb hpz hrowb hd
        go_wp2_with fail
        go_loop [16] (fun i => ∃ j : Nat, i = .int .i64 j ∧ j ≤ nP) (fun i => nP - (intOf i).toNat)
        case atStart => exact ⟨0, rfl, by omega⟩
        case round =>
          obtain ⟨j, rfl, hj⟩ := hrel
          by_cases hj2 : j < nP
          · go_wp2_with fail
            refine (HB1.out _ j (by go_num) hj2).mono ?_
            rintro e w6 ⟨rfl, rfl⟩
            go_wp2_with fail
            refine (HB2.out _ j (by go_num) hj2).mono ?_
            rintro e w6 ⟨rfl, rfl⟩
            generalize bt q.all (q.gone + j) = bv
            go_wp2
            go_round
            case rel => exact ⟨j + 1, by go_num, by omega⟩
            case measure => simp [intOf]; omega
          · have hjn : j = nP := by omega
            subst j
            go_wp2_with fail
            refine (qskip_at HQ5.out _ nP rfl (by omega)).mono ?_
            rintro e w6 ⟨rfl, hd⟩
            have B6 := B5.trans (hd.below B5.size hb hg)
            have HR6 := Lib.hid (ownsRow_bar HR5.out (S := fun k => k = b ∨ k = g) hd.2 (fun j e1 e2 => e2.elim (fun h => row_not_queue HR5.out HQ5.out (h ▸ e1)) (fun h => HVg.out (h ▸ e1))))
            have HQt := Lib.hid hd.1
            clear hd B5
            have EL : Hid (((8 * q.all.length - (q.gone + nP) : Nat) : Int) = 8 * (q.all.length : Int) - ((q.gone : Int) + (nP : Int))) := by
              show ((8 * q.all.length - (q.gone + nP) : Nat) : Int) = 8 * (q.all.length : Int) - ((q.gone : Int) + (nP : Int))
              omega
            have EG : Hid (((q.gone + nP : Nat) : Int) = (q.gone : Int) + (nP : Int)) := by
              show ((q.gone + nP : Nat) : Int) = (q.gone : Int) + (nP : Int)
              omega
            have EF : Hid (((q.most - (q.all.length - (q.gone + nP) / 8) : Nat) : Int) = 1 + (m : Int) - ((q.all.length : Int) - ((q.gone : Int) + (nP : Int)) / 8)) := by
              show ((q.most - (q.all.length - (q.gone + nP) / 8) : Nat) : Int) = 1 + (m : Int) - ((q.all.length : Int) - ((q.gone : Int) + (nP : Int)) / 8)
              have := HQm.out
              omega
            go_wp2_with fail
            refine (qleft_any HQt.out).mono ?_
            rintro e x1 ⟨rfl, t1⟩
            rw [EL.out]
            go_wp2_with fail
            refine (qgone_any (HQt.out.later t1)).mono ?_
            rintro e x2 ⟨rfl, t2'⟩
            rw [EG.out]
            have t2 := below_chain t1 (Nat.le_refl _) t2'
            go_wp2_with fail
            refine (qcame_any (HQt.out.later t2)).mono ?_
            rintro e x3 ⟨rfl, t3'⟩
            have t3 := below_chain t2 (Nat.le_refl _) t3'
            go_wp2_with fail
            refine (qfree_any (HQt.out.later t3)).mono ?_
            rintro e x4 ⟨rfl, t4'⟩
            rw [EF.out]
            have t4 := below_chain t3 (Nat.le_refl _) t4'
            clear t1 t2 t2' t3 t3' t4'
            go_wp2
            go_roundw
            case rel => exact ⟨k + 1, { q with gone := q.gone + nP }, by go_num, by omega, by go_num, HQm.out, HQe.out, HQt.out.later t4, ownsRow_bar HR6.out (bar_of_below (S := fun _ => False) t4) (fun _ _ e => e), HVg.out, by simp only; omega, below_chain B6 (Nat.le_refl _) t4⟩
            case measure => simp [intOf]; omega
    · have hkx : k = xs.length := by omega
      subst k
      go_wp2
      go_ret
      exact ⟨rfl, HBw.out⟩

end Go.Proofs.Ytglnmaekhpaffaa
