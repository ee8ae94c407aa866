/- block: the cursor's code, its pairs (an iterator that moves the cursor), block, Get. block: the cursor's code; its pairs as what a range takes; an append of pairs inside any fence; what holds between two rounds. block: a cursor's block over the landed code (a range over its pairs); Get. block: a cursor's block, intra, over the landed code; Get. -/
import Derived.Test.YtbcfiafgolcbpaaGreatDoorYPlain
import Derived.Test.YtbcfiafgolcbpaaGreatDoorYLev
import Derived.Test.YtbcfiafgolcbpaaGreatDoorEGet
import Derived.Test.YtbcfiafgolcbpaaGreatDoorSeqM
import Derived.Test.YtbcfiafgolcbpaaGreatDoorQTail
import Derived.Test.YtbcfiafgolcbpaaGreatDoorZArr
import Derived.RangeFuncLeaves
/- block: the cursor's code, its pairs (an iterator that moves the cursor), block, Get. -/
namespace Go.Proofs.YtbcfiafgolcbpaaGreatDoor
open Go.RowKit Go.Shelf
set_option linter.unusedVariables false
attribute [local go_sem] Oper.semAt_some

/-- a cursor's block -/
abbrev curO (sv : Value) (n : Int) : Obj := .cells #[sv, .int .i64 n] 58 (0, 0)
/-- a round keeps what lay below m, the cursor, and the iterator's box -/
structure KpM (m c bc : Nat) (A B : World) : Prop where
  below : Below m A B
  cur : B.heap[c]? = A.heap[c]?
  box : B.heap[bc]? = A.heap[bc]?
theorem KpM.t {m c bc : Nat} {A B C : World} (h : KpM m c bc A B) (k : KpM m c bc B C) : KpM m c bc A C := ⟨h.below.trans k.below, k.cur.trans h.cur, k.box.trans h.box⟩
theorem KpM.refl {m c bc : Nat} {A : World} : KpM m c bc A A := ⟨Below.refl _ _, rfl, rfl⟩
/-- what the iterator hands over -/
abbrev encP (g : Got) : Array Value := #[.agg #[.int .i64 g.run, .int .i64 g.level], .int .i64 g.err]
/-- the cursor and the box, as the iterator finds them -/
structure CurS (w0 : World) (c bc : Nat) (sv : Value) (n : Int) (W : World) : Prop where
  below : Below w0.heap.size w0 W
  cur : W.heap[c]? = some (curO sv n)
  box : W.heap[bc]? = some (.cells #[.pointer (some ⟨c, 0, none⟩)] 82 (0, 0))

theorem ypairs_any (c : Nat) (first : Bool) (w : World) :
    Calls Tryz.prog 54 #[.pointer (some ⟨c, 0, none⟩), .bool first] w fun e w' => e = .returned (.func (.func 83) #[] #[.pointer (some ⟨w.heap.size + 1, 0, none⟩), .pointer (some ⟨w.heap.size, 0, none⟩)]) ∧
      w' = (w.alloc (.cells #[.pointer (some ⟨c, 0, none⟩)] 82 (0, 0))).alloc (.cells #[.bool first] 4 (0, 0)) := by
  go_enter Tryz.func54, Tryz.ntmps54
  go_wp2_with fail
  go_ret
  exact ⟨by simp, rfl⟩

theorem set_twoY {w : World} {g : Nat} {a b c d : Value} (h0 : w.cell? ⟨g, 0, none⟩ = some a) (h1 : w.cell? ⟨g, 1, none⟩ = some b) :
    ((w.setCell ⟨g, 0, none⟩ c).setCell ⟨g, 1, none⟩ d).cell? ⟨g, 0, none⟩ = some c ∧ ((w.setCell ⟨g, 0, none⟩ c).setCell ⟨g, 1, none⟩ d).cell? ⟨g, 1, none⟩ = some d ∧ ((w.setCell ⟨g, 0, none⟩ c).setCell ⟨g, 1, none⟩ d).heap.size = w.heap.size := by
  refine ⟨?_, ?_, ?_⟩
  · go_simp
  · go_simp
  · simp
/-- what the region that gets a pair reads -/
abbrev GetS (wr w' : World) (c bc : Nat) (sv : Value) (n : Int) : Prop := Below wr.heap.size wr w' ∧ w'.cell? ⟨bc, 0, none⟩ = some (.pointer (some ⟨c, 0, none⟩)) ∧ w'.cell? ⟨c, 0, none⟩ = some sv ∧ w'.cell? ⟨c, 1, none⟩ = some (.int .i64 n)

set_option maxRecDepth 100000 in
set_option maxHeartbeats 4000000 in
theorem ypairs1_in (n : Nat) (hn : 4 ≤ n) (l c bf bc A b0 : Nat) (sv : Value) (zs : List UInt8) (first : Bool) (n₁ : Nat) (w0 : World) (hB : Byt n₁ w0 sv zs) (hn1 : n₁ ≤ w0.heap.size) (hl : zs.length ≤ 1000000) (hT : Lay8 w0)
    (hx : ((A + b0 : Nat) : Int) ≤ 9223372036854775807) (hc : w0.heap.size ≤ c) (hcb : c < bc) (hbf : bc < bf) (J Jx : Nat → World → Prop)
    (hJ : ∀ s X Y, J s X → Bar (fun k => k = c) X Y → J s Y) (hJx : ∀ s X Y, Jx s X → Bar (fun k => k = c) X Y → Jx s Y)
    (hY : ∀ x W1, J x W1 → CurS w0 c bc sv ((A + offY zs A first b0 (x + 1) : Nat) : Int) W1 → (gY zs A first b0 x).over = false → YieldAt Fence.wide (n - 1) Tryz.prog l (encP (gY zs A first b0 x)) W1 fun e W' =>
      (e = .returned (.bool true) ∧ (gY zs A first b0 x).err = 0 ∧ J (x + 1) W' ∧ KpM w0.heap.size c bc W1 W') ∨ (e = .returned (.bool false) ∧ Jx x W'))
    (W : World) (hcur : CurS w0 c bc sv ((A + b0 : Nat) : Int) W) (hbx : W.heap[bf]? = some (.cells #[.bool first] 4 (0, 0))) (h0 : J 0 W) :
    CallsIn Fence.wide n Tryz.prog 83 #[.func (.yield l) #[] #[], .pointer (some ⟨bf, 0, none⟩), .pointer (some ⟨bc, 0, none⟩)] W fun e W' => (∃ v, e = .returned v) ∧
      ((∃ x, ¬ (gY zs A first b0 x).over = false ∧ J x W' ∧ CurS w0 c bc sv ((A + offY zs A first b0 (x + 1) : Nat) : Int) W') ∨ (∃ x, (gY zs A first b0 x).over = false ∧ Jx x W')) := by
  have HG := Lib.hid (fun (W : World) (hb : Below w0.heap.size w0 W) (x : Int) (hx : x ≤ 9223372036854775807) (fs : Bool) => eget_any (w := W) (hB.below (hb.mono hn1)) (Nat.le_trans hn1 hb.size) (by omega) (hT.below hb) x fs hx)
  have HY := Lib.hid hY
  have HJ := Lib.hid hJ
  have HJx := Lib.hid hJx
  have hfb : W.cell? ⟨bf, 0, none⟩ = some (.bool first) := by simp [World.cell?, hbx]
  clear hY hJ hJx hB hT
  refine callsIn_of_wp Tryz.func83 rfl trivial ?_ rfl
  simp only [Tryz.ntmps83, List.size_toArray, List.length_cons, List.length_nil, Nat.reduceAdd, Nat.reduceSub, Array.replicate_succ, Array.replicate_zero, List.push_toArray, List.append_toArray, List.nil_append, List.cons_append]
  gi_wp2
  gi_loopw [4] (fun f wr => ∃ x : Nat, f = .bool (first && x == 0) ∧ J x wr ∧ CurS w0 c bc sv ((A + offY zs A first b0 x : Nat) : Int) wr ∧ (x = 0 ∨ A + offY zs A first b0 x ≤ 8 * zs.length))
    (fun _ wr => 8 * zs.length - (intOf ((wr.cell? ⟨c, 1, none⟩).getD undef)).toNat)
  case atStart => exact ⟨0, by simp, h0, hcur, .inl rfl⟩
  case round =>
    obtain ⟨x, rfl, hj, hcs, hle⟩ := hrel
    have hin : ((A + offY zs A first b0 x : Nat) : Int) ≤ 9223372036854775807 := by
      rcases hle with rfl | h
      · exact hx
      · omega
    have hcx : c < wr.heap.size := (Array.getElem?_eq_some_iff.1 hcs.cur).1
    have hbx2 : bc < wr.heap.size := (Array.getElem?_eq_some_iff.1 hcs.box).1
    have c0 : wr.cell? ⟨c, 0, none⟩ = some sv := by simp [World.cell?, hcs.cur]
    have c1 : wr.cell? ⟨c, 1, none⟩ = some (.int .i64 ((A + offY zs A first b0 x : Nat) : Int)) := by simp [World.cell?, hcs.cur]
    have cb : wr.cell? ⟨bc, 0, none⟩ = some (.pointer (some ⟨c, 0, none⟩)) := by simp [World.cell?, hcs.box]
    have HCs := Lib.hid hcs
    have HJw := Lib.hid hj
    have HGx := Lib.hid (fun (W' : World) (hb : Below wr.heap.size wr W') => HG.out W' (hcs.below.trans (hb.mono hcs.below.size)) _ hin (first && x == 0))
    rw [show got (first && x == 0) zs ((A + offY zs A first b0 x : Nat) : Int) = gY zs A first b0 x from rfl] at HGx
    clear hcs hj
    obtain ⟨at_, hat⟩ : ∃ at_, ((A + offY zs A first b0 x : Nat) : Int) = at_ := ⟨_, rfl⟩
    have HAt := Lib.hid hat
    rw [hat] at c1 HGx HCs hin
    generalize hfs : (first && x == 0) = fs at *
    have HFs := Lib.hid hfs
    obtain ⟨g, hg⟩ : ∃ g, gY zs A first b0 x = g := ⟨_, rfl⟩
    have HGd := Lib.hid hg
    rw [hg] at HGx
    have hfact : (g.err ≠ 0 → g.over = false ∧ g.many = 0) ∧ (g.err = 0 → 1 ≤ g.many ∧ at_ + g.many ≤ 8 * zs.length) := by
      refine ⟨fun h => ?_, fun h => ?_⟩
      · rw [← hg] at h ⊢
        exact gY_bad h
      · rw [← hg] at h ⊢
        rw [← hat]
        exact gY_many h
    have hoff : ((A + offY zs A first b0 (x + 1) : Nat) : Int) = at_ + g.many := by
      rw [offY_succ, hg, ← hat]
      have : 0 ≤ g.many := by
        by_cases h : g.err = 0
        · have := (hfact.2 h).1; omega
        · rw [(hfact.1 h).2]; omega
      omega
    have hat0 : 0 ≤ at_ := by omega
    obtain ⟨r, lv, ov, mn, er⟩ := g
    simp only at hfact hoff
    have hwr : IntKind.i64.wrap (at_ + mn) = at_ + mn := by
      rw [IntKind.wrap_i64]
      by_cases h : er = 0
      · have := hfact.2 h; omega
      · have := (hfact.1 h).2; omega
    have HOff := Lib.hid hoff
    have HFact := Lib.hid hfact
    have HLe : Hid (er = 0 → A + offY zs A first b0 (x + 1) ≤ 8 * zs.length) := fun h => by have := (hfact.2 h).2; omega
    clear hat hfs hg hoff hfact
    have H0 : Hid (GetS wr wr.drew c bc sv at_) := ⟨below_undrew (Below.refl _ wr.drew), cb, c0, c1⟩
    have HKeep : ∀ {wx wy : World}, GetS wr wx c bc sv at_ → Below wr.heap.size wx wy → GetS wr wy c bc sv at_ := fun {wx wy} h hb =>
      ⟨h.1.trans hb, (hb.cell (p := ⟨bc, 0, none⟩) hbx2).trans h.2.1, (hb.cell (p := ⟨c, 0, none⟩) hcx).trans h.2.2.1, (hb.cell (p := ⟨c, 1, none⟩) hcx).trans h.2.2.2⟩
    have HKA : Hid (∀ W o, GetS wr W c bc sv at_ → GetS wr (W.alloc o) c bc sv at_) := fun W o h => HKeep h ((Below.refl _ W).alloc h.1.size o)
    have H0a : Hid (GetS wr (wr.alloc (.cells #[.int .i64 0, .int .i64 0] 66 (0, 0))).drew c bc sv at_) := HKeep (HKA.out wr _ ⟨Below.refl _ _, cb, c0, c1⟩) (below_undrew (Below.refl _ _))
    have HKB : Hid (∀ W v v', GetS wr W c bc sv at_ → GetS wr ((W.setCell ⟨wr.heap.size, 0, none⟩ v).setCell ⟨wr.heap.size, 1, none⟩ v') c bc sv at_) := fun W v v' h => HKeep h (((Below.refl _ W).setCell (p := ⟨wr.heap.size, 0, none⟩) (Nat.le_refl _) _).setCell (p := ⟨wr.heap.size, 1, none⟩) (Nat.le_refl _) _)
    have HO1 : Hid (∀ W, GetS wr W c bc sv at_ → Calls Tryz.prog 84 #[sv, .int .i64 at_, .bool fs] W fun e W' => e = .returned (gotV ⟨r, lv, ov, mn, er⟩) ∧ GetS wr W' c bc sv at_) := fun W h => (HGx.out W h.1).mono (by
      rintro e W' ⟨rfl, hb⟩
      exact ⟨rfl, HKeep h (hb.mono h.1.size)⟩)
    have HO2 : Hid (Calls Tryz.prog 84 #[sv, .int .i64 at_, .bool fs] (wr.alloc (.cells #[.int .i64 0, .int .i64 0] 66 (0, 0))).drew fun e W' => e = .returned (gotV ⟨r, lv, ov, mn, er⟩) ∧ GetS wr W' c bc sv at_ ∧ W'.cell? ⟨wr.heap.size, 0, none⟩ = some (.int .i64 0) ∧ W'.cell? ⟨wr.heap.size, 1, none⟩ = some (.int .i64 0) ∧ W'.frozen? ⟨wr.heap.size, 0, none⟩ = false ∧ W'.frozen? ⟨wr.heap.size, 1, none⟩ = false ∧ wr.heap.size < W'.heap.size) := (HGx.out _ H0a.out.1).mono (by
      rintro e W' ⟨rfl, hb⟩
      have hs : (wr.alloc (.cells #[.int .i64 0, .int .i64 0] 66 (0, 0))).drew.heap.size = wr.heap.size + 1 := by simp
      have hh := (hb.block wr.heap.size (by omega)).trans (World.alloc_heap_new wr (.cells #[.int .i64 0, .int .i64 0] 66 (0, 0)))
      obtain ⟨c0, c1, f0, f1⟩ := pair_cells hh
      exact ⟨rfl, HKeep H0a.out (hb.mono (by omega)), c0, c1, f0, f1, by have := hb.size; omega⟩)
    clear HKeep HGx HG
    gi_wp2
    refine wpIn_wide.2 ?_
    go_region_held3 (fun w' => GetS wr w' c bc sv at_)
      (first | exact H0.out | exact H0a.out | assumption | exact hSl | exact HKA.out _ _ (by assumption) | exact HKB.out _ _ _ (by assumption) | exact HKA.out _ _ hSl)
      (first
       | (go_at_call 84; refine HO2.out.mono ?_; rintro e wl ⟨rfl, hSl, hn0, hn1, hf0, hf1, hlt⟩)
       | (go_at_call 84; refine (HO1.out _ (by assumption)).mono ?_; rintro e wl ⟨rfl, hSl⟩))
    · have hb5 : Below wr.heap.size wr (wl.alloc (.cells #[.int .i64 r, .int .i64 lv] 66 (0, 0))) := hSl.1.alloc hSl.1.size _
      obtain ⟨y0, y1⟩ := two_cells wl (.int .i64 r) (.int .i64 lv) 66
      have hs5 : wl.heap.size < (wl.alloc (.cells #[.int .i64 r, .int .i64 lv] 66 (0, 0))).heap.size := by simp
      have hg5 : wr.heap.size ≤ wl.heap.size := hSl.1.size
      clear hSl HO1 HO2 HKA HKB H0 H0a
      generalize wl.alloc (.cells #[.int .i64 r, .int .i64 lv] 66 (0, 0)) = w5 at *
      generalize wl.heap.size = g5 at *
      have d0 := (hb5.cell (p := ⟨c, 0, none⟩) hcx).trans c0
      have d1 := (hb5.cell (p := ⟨c, 1, none⟩) hcx).trans c1
      have db := (hb5.cell (p := ⟨bc, 0, none⟩) hbx2).trans cb
      have hcu5 := (hb5.block c hcx).trans HCs.out.cur
      have hbo5 := (hb5.block bc hbx2).trans HCs.out.box
      have hf1 : w5.frozen? ⟨c, 1, none⟩ = false := Lib.frozen_of_heap hcu5 1
      have hcx5 : c < w5.heap.size := by omega
      have hbar : Bar (fun k => k = c) wr (w5.setCell ⟨c, 1, none⟩ (.int .i64 (at_ + mn))) := Bar.setCell (S := fun k => k = c) (bar_of_below hb5) (p := ⟨c, 1, none⟩) (fun _ => rfl) _
      have hcs6 : CurS w0 c bc sv ((A + offY zs A first b0 (x + 1) : Nat) : Int) (w5.setCell ⟨c, 1, none⟩ (.int .i64 (at_ + mn))) :=
        ⟨(HCs.out.below.trans (hb5.mono HCs.out.below.size)).setCell (p := ⟨c, 1, none⟩) hc _, by rw [heap_setCell_same _ c 1 _ _ _ hcu5, HOff.out]; rfl, (heap_setCell_other _ _ _ _ (by simp; omega)).trans hbo5⟩
      have HJ6 := Lib.hid (HJ.out x _ _ HJw.out hbar)
      have HCs6 := Lib.hid hcs6
      have z0 : (w5.setCell ⟨c, 1, none⟩ (.int .i64 (at_ + mn))).cell? ⟨g5, 0, none⟩ = some (.int .i64 r) := (World.cell?_of_block (heap_setCell_other _ _ _ _ (by simp; omega))).trans y0
      have z1 : (w5.setCell ⟨c, 1, none⟩ (.int .i64 (at_ + mn))).cell? ⟨g5, 1, none⟩ = some (.int .i64 lv) := (World.cell?_of_block (heap_setCell_other _ _ _ _ (by simp; omega))).trans y1
      have hs6 : g5 < (w5.setCell ⟨c, 1, none⟩ (.int .i64 (at_ + mn))).heap.size := by simpa using hs5
      clear hbar hcs6 hb5
      cases ov with
      | true =>
        gi_wp2
        refine ⟨fun f hf => (by cases hf), ?_⟩
        gi_wp2
        refine bodyPost_ret (results_none rfl _ _ _) rfl ?_
        exact ⟨⟨_, rfl⟩, .inl ⟨x, by rw [HGd.out]; simp, HJ6.out, HCs6.out⟩⟩
      | false =>
        obtain ⟨fn, tmps, assign, body, hy, hR⟩ := HY.out x _ HJ6.out HCs6.out (by rw [HGd.out])
        rw [HGd.out] at hy hR
        simp only [encP] at hy
        gi_wp2
        refine ⟨fun _ => by omega, ?_⟩
        refine hR.mono ?_
        rintro e W3 (⟨rfl, he0, hJ3, hk3⟩ | ⟨rfl, hJx3⟩)
        · subst he0
          gi_wp2
          go_roundw
          case rel => exact ⟨x + 1, by simp, hJ3, ⟨HCs6.out.below.trans hk3.below, hk3.cur.trans HCs6.out.cur, hk3.box.trans HCs6.out.box⟩, .inr (HLe.out trivial)⟩
          case measure =>
            have hm1 : W3.cell? ⟨c, 1, none⟩ = some (.int .i64 (at_ + mn)) := by
              have := hk3.cur.trans HCs6.out.cur
              rw [HOff.out] at this
              simp [World.cell?, this]
            have hf := HFact.out.2 trivial
            rw [hm1, c1]
            simp only [Option.getD_some, intOf]
            omega
        · gi_wp2
          refine bodyPost_ret (results_none rfl _ _ _) rfl ?_
          exact ⟨⟨_, rfl⟩, .inr ⟨x, by rw [HGd.out], hJx3⟩⟩
    · have hb5 : Below wr.heap.size wr ((wl.setCell ⟨wr.heap.size, 0, none⟩ (.int .i64 r)).setCell ⟨wr.heap.size, 1, none⟩ (.int .i64 lv)) := (hSl.1.setCell (p := ⟨wr.heap.size, 0, none⟩) (Nat.le_refl _) _).setCell (p := ⟨wr.heap.size, 1, none⟩) (Nat.le_refl _) _
      obtain ⟨y0, y1, hs5'⟩ := set_twoY (c := .int .i64 r) (d := .int .i64 lv) hn0 hn1
      have hs5 : wr.heap.size < ((wl.setCell ⟨wr.heap.size, 0, none⟩ (.int .i64 r)).setCell ⟨wr.heap.size, 1, none⟩ (.int .i64 lv)).heap.size := by omega
      clear hSl HO1 HO2 HKA HKB H0 H0a hn0 hn1 hf0 hf1 hs5' hlt
      generalize (wl.setCell ⟨wr.heap.size, 0, none⟩ (.int .i64 r)).setCell ⟨wr.heap.size, 1, none⟩ (.int .i64 lv) = w5 at *
      obtain ⟨g5, hg5⟩ : ∃ g5, g5 = wr.heap.size := ⟨_, rfl⟩
      rw [← hg5] at y0 y1 hs5 ⊢
      have hg5' : wr.heap.size ≤ g5 := by omega
      clear hg5
      have d0 := (hb5.cell (p := ⟨c, 0, none⟩) hcx).trans c0
      have d1 := (hb5.cell (p := ⟨c, 1, none⟩) hcx).trans c1
      have db := (hb5.cell (p := ⟨bc, 0, none⟩) hbx2).trans cb
      have hcu5 := (hb5.block c hcx).trans HCs.out.cur
      have hbo5 := (hb5.block bc hbx2).trans HCs.out.box
      have hf1 : w5.frozen? ⟨c, 1, none⟩ = false := Lib.frozen_of_heap hcu5 1
      have hcx5 : c < w5.heap.size := by omega
      have hbar : Bar (fun k => k = c) wr (w5.setCell ⟨c, 1, none⟩ (.int .i64 (at_ + mn))) := Bar.setCell (S := fun k => k = c) (bar_of_below hb5) (p := ⟨c, 1, none⟩) (fun _ => rfl) _
      have hcs6 : CurS w0 c bc sv ((A + offY zs A first b0 (x + 1) : Nat) : Int) (w5.setCell ⟨c, 1, none⟩ (.int .i64 (at_ + mn))) :=
        ⟨(HCs.out.below.trans (hb5.mono HCs.out.below.size)).setCell (p := ⟨c, 1, none⟩) hc _, by rw [heap_setCell_same _ c 1 _ _ _ hcu5, HOff.out]; rfl, (heap_setCell_other _ _ _ _ (by simp; omega)).trans hbo5⟩
      have HJ6 := Lib.hid (HJ.out x _ _ HJw.out hbar)
      have HCs6 := Lib.hid hcs6
      have z0 : (w5.setCell ⟨c, 1, none⟩ (.int .i64 (at_ + mn))).cell? ⟨g5, 0, none⟩ = some (.int .i64 r) := (World.cell?_of_block (heap_setCell_other _ _ _ _ (by simp; omega))).trans y0
      have z1 : (w5.setCell ⟨c, 1, none⟩ (.int .i64 (at_ + mn))).cell? ⟨g5, 1, none⟩ = some (.int .i64 lv) := (World.cell?_of_block (heap_setCell_other _ _ _ _ (by simp; omega))).trans y1
      have hs6 : g5 < (w5.setCell ⟨c, 1, none⟩ (.int .i64 (at_ + mn))).heap.size := by simpa using hs5
      clear hbar hcs6 hb5
      cases ov with
      | true =>
        gi_wp2
        refine ⟨fun f hf => (by cases hf), ?_⟩
        gi_wp2
        refine bodyPost_ret (results_none rfl _ _ _) rfl ?_
        exact ⟨⟨_, rfl⟩, .inl ⟨x, by rw [HGd.out]; simp, HJ6.out, HCs6.out⟩⟩
      | false =>
        obtain ⟨fn, tmps, assign, body, hy, hR⟩ := HY.out x _ HJ6.out HCs6.out (by rw [HGd.out])
        rw [HGd.out] at hy hR
        simp only [encP] at hy
        gi_wp2
        refine ⟨fun _ => by omega, ?_⟩
        refine hR.mono ?_
        rintro e W3 (⟨rfl, he0, hJ3, hk3⟩ | ⟨rfl, hJx3⟩)
        · subst he0
          gi_wp2
          go_roundw
          case rel => exact ⟨x + 1, by simp, hJ3, ⟨HCs6.out.below.trans hk3.below, hk3.cur.trans HCs6.out.cur, hk3.box.trans HCs6.out.box⟩, .inr (HLe.out trivial)⟩
          case measure =>
            have hm1 : W3.cell? ⟨c, 1, none⟩ = some (.int .i64 (at_ + mn)) := by
              have := hk3.cur.trans HCs6.out.cur
              rw [HOff.out] at this
              simp [World.cell?, this]
            have hf := HFact.out.2 trivial
            rw [hm1, c1]
            simp only [Option.getD_some, intOf]
            omega
        · gi_wp2
          refine bodyPost_ret (results_none rfl _ _ _) rfl ?_
          exact ⟨⟨_, rfl⟩, .inr ⟨x, by rw [HGd.out], hJx3⟩⟩

end Go.Proofs.YtbcfiafgolcbpaaGreatDoor

/- block: the cursor's code; its pairs as what a range takes; an append of pairs inside any fence; what holds between two rounds. -/
namespace Go.Proofs.YtbcfiafgolcbpaaGreatDoor
open Go.RowKit Go.Shelf
set_option linter.unusedVariables false
attribute [local go_sem] Oper.semAt_some

section In
variable {F : Fence} {n : Nat} {ops : Array Oper} {Q : Exit → Act → World → Prop}
theorem wpListIn_append_pY {w : World} {rest : List Oper} {o : Oper} {a : Act} (hgd : o.guard = none) (s x : Operand)
    (ho : o.op = .call { callee := .builtin .append, args := #[s, x], argTypes := #[25, 25] })
    (base : Nat) (v : Value) (n' : Nat) (xs : List (Int × Int)) (hv : a.eval s = v) (hown : w.ownsRow base 66 2 v n' (cellsQ xs))
    (A : Option Addr) (m c : Nat) (news : List (Int × Int)) (hx : a.eval x = .slice A m c) (hs : SrcP w A m news) (hnc : A = none → c = 0) (hfit : n' + m ≤ 1000000000) (hbase : base ≤ w.heap.size)
    (h : ∀ v' w', AppendedP w w' base v v' (n' + m) (xs ++ news) → wpListIn F n Tryz.prog ops Q rest (a.put o.dst v') w') : wpListIn F n Tryz.prog ops Q (o :: rest) a w :=
  by
    obtain ⟨v', w', hrun, hd⟩ := run_append_p (w := w) base v n' xs hown A m c news hs hnc hfit hbase o.type
    refine wpListIn_valZ (v := v') (w' := w') hgd ?_ (by rw [ho]; intro c hc; cases hc) ?_ (h v' w' hd)
    · simp [Oper.about, ho, resolve, Target.leads, Sem.run_pure]
    · unfold execOp
      simp only [ho, resolve, invoke, builtin, Sem.run_bind, Sem.run_pure, Result.andThen_ok, List.map_toArray, List.map_cons, List.map_nil, hv, hx, hrun]
end In
theorem srcP_oneY (w : World) (a b : Int) (t : TypeId) : SrcP (w.alloc (.cells #[.int .i64 a, .int .i64 b] t (0, 0))) (some ⟨w.heap.size, 0, none⟩) 1 [(a, b)] := ⟨rfl, .inr ⟨_, rfl, src_two w (.int .i64 a) (.int .i64 b) t⟩⟩

/-! ### code -/
abbrev CodS (wr w' : World) (c : Nat) (sv : Value) (n : Int) : Prop := (Below wr.heap.size wr w' ∧ w'.heap.size = wr.heap.size) ∧ w'.cell? ⟨c, 0, none⟩ = some sv ∧ w'.cell? ⟨c, 1, none⟩ = some (.int .i64 n)

set_option maxRecDepth 100000 in
set_option maxHeartbeats 4000000 in
theorem yCode_any {n₁ : Nat} {w0 w : World} {sv : Value} {zs : List UInt8} (hB : Byt n₁ w0 sv zs) (hn1 : n₁ ≤ w0.heap.size) (hl : zs.length ≤ 1000000) (hb0 : Below w0.heap.size w0 w) (c A : Nat) (hA : (A : Int) ≤ 9223372036854775807) (hc : w0.heap.size ≤ c) (hcur : w.heap[c]? = some (curO sv A)) :
    Calls Tryz.prog 53 #[.pointer (some ⟨c, 0, none⟩)] w fun e w' => e = .returned (.tuple #[.int .i64 (codeY zs A).1, .int .i64 (codeY zs A).2]) ∧ Bar (fun k => k = c) w w' ∧ w'.heap.size = w.heap.size ∧ ((codeY zs A).2 = 0 → w'.heap[c]? = some (curO sv ((A + 8 : Nat) : Int))) := by
  have hcx : c < w.heap.size := (Array.getElem?_eq_some_iff.1 hcur).1
  have c0 : w.cell? ⟨c, 0, none⟩ = some sv := by simp [World.cell?, hcur]
  have c1 : w.cell? ⟨c, 1, none⟩ = some (.int .i64 (A : Int)) := by simp [World.cell?, hcur]
  have HCur := Lib.hid hcur
  have HI := Lib.hid (fun W => yIsCode_any (num zs A 8 : Nat) W)
  have H0 : Hid (CodS w w.drew c sv A) := ⟨⟨below_undrew (Below.refl _ w.drew), rfl⟩, c0, c1⟩
  have HO1 : Hid (∀ W, CodS w W c sv A → Calls Tryz.prog 81 #[sv, .int .i64 (A : Int), .int .i64 8] W fun e W' => e = .returned (.tuple #[.int .i64 (readN zs A 8), .int .i64 (readE zs A 8)]) ∧ CodS w W' c sv A) := fun W h => (read_two (hB.below ((hb0.trans (h.1.1.mono hb0.size)).mono hn1)) (A : Int) 8 hA).mono (by
    rintro e W' ⟨rfl, rfl⟩
    exact ⟨rfl, h⟩)
  clear hcur hB
  by_cases h1 : 8 * zs.length < A + 8
  · have e1 : codeY zs A = (0, 5) := by unfold codeY; rw [if_pos h1]
    have e2 : readN zs A 8 = 0 := by unfold readN; rw [if_neg (by omega), if_pos (by omega)]
    have e3 : readE zs A 8 = 5 := by unfold readE; rw [if_neg (by omega), if_pos (by omega)]
    rw [e1]
    rw [e2, e3] at HO1
    clear e1 e2 e3
    go_enter Tryz.func53, Tryz.ntmps53
    go_wp2_with fail
    go_region_held3 (fun w' => CodS w w' c sv A)
      (first | exact H0.out | assumption | exact hSl)
      (first | (go_at_call 81; refine (HO1.out _ (by assumption)).mono ?_; rintro e wl ⟨rfl, hSl⟩))
    have HS := Lib.hid hSl
    clear hSl
    go_wp2_with fail
    go_ret2
    exact ⟨rfl, bar_of_below HS.out.1.1, HS.out.1.2, fun h => absurd h (by decide)⟩
  · have e2 : readN zs A 8 = (num zs A 8 : Nat) := by unfold readN; rw [if_neg (by omega), if_neg (by omega)]; rfl
    have e3 : readE zs A 8 = 0 := by unfold readE; rw [if_neg (by omega), if_neg (by omega)]
    rw [e2, e3] at HO1
    clear e2 e3
    cases hd : dcOk (num zs A 8 : Nat) with
    | false =>
      have e1 : codeY zs A = (0, 10) := by unfold codeY; rw [if_neg h1, if_pos hd]
      rw [e1]
      rw [hd] at HI
      generalize ((num zs A 8 : Nat) : Int) = nn at *
      clear e1 hd
      go_enter Tryz.func53, Tryz.ntmps53
      go_wp2_with fail
      go_region_held3 (fun w' => CodS w w' c sv A)
        (first | exact H0.out | assumption | exact hSl)
        (first | (go_at_call 81; refine (HO1.out _ (by assumption)).mono ?_; rintro e wl ⟨rfl, hSl⟩))
      have HS := Lib.hid hSl
      clear hSl
      go_wp2_with (go_at_call 82; refine (HI.out _).mono ?_; rintro e w' ⟨rfl, rfl⟩)
      go_ret2
      exact ⟨rfl, bar_of_below HS.out.1.1, HS.out.1.2, fun h => absurd h (by decide)⟩
    | true =>
      have e1 : codeY zs A = (((num zs A 8 : Nat) : Int), (0 : Int)) := by unfold codeY; rw [if_neg h1, if_neg (by rw [hd]; simp)]
      rw [e1]
      rw [hd] at HI
      have e4 : IntKind.i64.wrap ((A : Int) + 8) = (A : Int) + 8 := by rw [IntKind.wrap_i64]; omega
      generalize ((num zs A 8 : Nat) : Int) = nn at *
      clear e1 hd
      go_enter Tryz.func53, Tryz.ntmps53
      go_wp2_with fail
      go_region_held3 (fun w' => CodS w w' c sv A)
        (first | exact H0.out | assumption | exact hSl)
        (first | (go_at_call 81; refine (HO1.out _ (by assumption)).mono ?_; rintro e wl ⟨rfl, hSl⟩))
      have HS := Lib.hid hSl
      obtain ⟨⟨b1, b2⟩, k0, k1⟩ := hSl
      have hcw := (b1.block c hcx).trans HCur.out
      have hf1 : wl.frozen? ⟨c, 1, none⟩ = false := Lib.frozen_of_heap hcw 1
      have HCw := Lib.hid hcw
      have hlt : c < wl.heap.size := by omega
      clear b1 hcw c0 c1
      go_wp2_with (go_at_call 82; refine (HI.out _).mono ?_; rintro e w' ⟨rfl, rfl⟩)
      go_ret2
      exact ⟨rfl, Bar.setCell (S := fun k => k = c) (bar_of_below HS.out.1.1) (p := ⟨c, 1, none⟩) (fun _ => rfl) _, by simpa using b2, fun _ => by rw [heap_setCell_same _ c 1 _ _ _ HCw.out]; rfl⟩

/-! ### pairs, as a range takes them -/
theorem ypairs_M (n : Nat) (hn : 4 ≤ n) (c bf bc A b0 : Nat) (sv : Value) (zs : List UInt8) (first : Bool) (n₁ : Nat) (w0 w : World) (hB : Byt n₁ w0 sv zs) (hn1 : n₁ ≤ w0.heap.size) (hl : zs.length ≤ 1000000) (hT : Lay8 w0)
    (hx : ((A + b0 : Nat) : Int) ≤ 9223372036854775807) (hc : w0.heap.size ≤ c) (hcb : c < bc) (hbf : bc < bf) (hcur : CurS w0 c bc sv ((A + b0 : Nat) : Int) w) (hbx : w.heap[bf]? = some (.cells #[.bool first] 4 (0, 0))) :
    SeqM Fence.wide n Tryz.prog 83 #[.pointer (some ⟨bf, 0, none⟩), .pointer (some ⟨bc, 0, none⟩)] (fun x => encP (gY zs A first b0 x)) (fun k => k = c) (KpM w0.heap.size c bc)
      (fun x W => CurS w0 c bc sv ((A + offY zs A first b0 (x + 1) : Nat) : Int) W) (fun x => (gY zs A first b0 x).over = false) (fun x => (gY zs A first b0 x).err = 0) w := fun l J Jx W hW hJ hJx hY h0 =>
  ypairs1_in n hn l c bf bc A b0 sv zs first n₁ w0 hB hn1 hl hT hx hc hcb hbf J Jx hJ hJx hY W
    ⟨hcur.below.trans (hW.mono hcur.below.size), (hW.block _ (Array.getElem?_eq_some_iff.1 hcur.cur).1).trans hcur.cur, (hW.block _ (Array.getElem?_eq_some_iff.1 hcur.box).1).trans hcur.box⟩
    ((hW.block _ (Array.getElem?_eq_some_iff.1 hbx).1).trans hbx) h0

/-! ### between two rounds -/
structure BInv (w : World) (c s : Nat) (dc : Int) (zs : List UInt8) (A : Nat) (fst : Bool) (b0 p0 : Nat) (R : GotY) (x : Nat) (W : World) : Prop where
  bar : Bar (fun k => k = c) w W
  r4 : W.heap[w.heap.size]? = some (.cells #[.int .i64 0, .slice none 0 0] 27 (0, 0))
  r5 : W.heap[w.heap.size + 1]? = some (.cells #[.int .i64 0] 28 (0, 0))
  nx : W.heap[s]? = some (.cells #[.int .i64 (plY zs A fst b0 p0 x : Nat)] 3 (0, 0))
  xb : ∃ v, W.heap[w.heap.size + 2]? = some (.cells #[.int .i64 dc, v] 27 (0, 0)) ∧ W.ownsRow (s + 5) 66 2 v x (cellsQ (psY zs A fst b0 x))
  pl : plY zs A fst b0 p0 x ≤ 64
  rem : remY zs A fst b0 p0 dc x = R
theorem BInv.move {w : World} {c s : Nat} {dc : Int} {zs : List UInt8} {A : Nat} {fst : Bool} {b0 p0 : Nat} {R : GotY} {x : Nat} {W W' : World} (h : BInv w c s dc zs A fst b0 p0 R x W) (hb : Bar (fun k => k = c ∨ k = s + 4) W W') (hc : c < w.heap.size) (hs : w.heap.size + 3 ≤ s) : BInv w c s dc zs A fst b0 p0 R x W' := by
  obtain ⟨h1, h2, h3, h4, ⟨v, h5, h6⟩, h7, h8⟩ := h
  refine ⟨h1.trans hb (fun j hj e => by omega), (hb.block _ (Array.getElem?_eq_some_iff.1 h2).1 (by omega)).trans h2, (hb.block _ (Array.getElem?_eq_some_iff.1 h3).1 (by omega)).trans h3, (hb.block _ (Array.getElem?_eq_some_iff.1 h4).1 (by omega)).trans h4, ⟨v, (hb.block _ (Array.getElem?_eq_some_iff.1 h5).1 (by omega)).trans h5, ?_⟩, h7, h8⟩
  exact ownsRow_barN h6 hb (fun k e => by have := (h6.lt k e).1; omega)
/-- how a round may be left by a return -/
def BEnd (w : World) (R : GotY) (co : Code) (W : World) (c : Nat) : Prop :=
  co = .ret ∧ ∃ er, er ≠ 0 ∧ R = badY er ∧ Bar (fun k => k = c) w W ∧ W.heap[w.heap.size]? = some (.cells #[.int .i64 0, .slice none 0 0] 27 (0, 0)) ∧ W.heap[w.heap.size + 1]? = some (.cells #[.int .i64 er] 28 (0, 0))
theorem BEnd.move {w : World} {R : GotY} {co : Code} {W W' : World} {c s : Nat} (h : BEnd w R co W c) (hb : Bar (fun k => k = c ∨ k = s + 4) W W') (hc : c < w.heap.size) (hs : w.heap.size + 3 ≤ s) : BEnd w R co W' c := by
  obtain ⟨rfl, er, h1, h2, h3, h4, h5⟩ := h
  exact ⟨rfl, er, h1, h2, h3.trans hb (fun j hj e => by omega), (hb.block _ (Array.getElem?_eq_some_iff.1 h4).1 (by omega)).trans h4, (hb.block _ (Array.getElem?_eq_some_iff.1 h5).1 (by omega)).trans h5⟩
end Go.Proofs.YtbcfiafgolcbpaaGreatDoor

/- block: a cursor's block over the landed code (a range over its pairs); Get. -/
namespace Go.Proofs.YtbcfiafgolcbpaaGreatDoor
open Go.RowKit Go.Shelf
set_option linter.unusedVariables false
attribute [local go_sem] Oper.semAt_some

/-- one mark that a range over a func left is taken off: nothing else moves -/
theorem leaves_one {F : Fence} {n : Nat} {P : Program} {fn : Func} {tmps : Array Value} {R : Ending → World → Prop} {D : Nat} {W : World} (h4 : W.heap[D]? = some (.deferred (some []))) (h : ∀ W', Bar (fun k => k = D) W W' → ∃ v, (results fn tmps).run P W' = .ok v W' ∧ R (.returned v) W') :
    LeavesInM F n P fn tmps R [{ target := .collected D, args := #[] }] .returning W :=
  ⟨by simp, .inl ⟨_, _, rfl, run_takeDeferred h4, h _ (bar_putObj (S := fun k => k = D) rfl _)⟩⟩
/-- what a cursor's block answers -/
def BRes (w : World) (c : Nat) (sv : Value) (A : Nat) (R : GotY) (e : Ending) (w' : World) : Prop :=
  ∃ v, e = .returned (.tuple #[.agg #[.int .i64 R.dc, v], .int .i64 R.err]) ∧ w'.ownsRow w.heap.size 66 2 v R.ps.length (cellsQ R.ps) ∧ Bar (fun k => k = c) w w' ∧ (R.err = 0 → w'.heap[c]? = some (curO sv ((A : Int) + R.many)))

theorem two_set {W : World} {g : Nat} {a b u v : Value} {t : TypeId} (h : W.heap[g]? = some (.cells #[a, b] t (0, 0))) : ((W.setCell ⟨g, 0, none⟩ u).setCell ⟨g, 1, none⟩ v).heap[g]? = some (.cells #[u, v] t (0, 0)) := by
  have h1 := heap_setCell_same W g 0 _ _ u h
  have h2 := heap_setCell_same _ g 1 _ _ v h1
  rw [h2]
  rfl
/-- an error told: the two results' boxes are written -/
theorem BInv.stop {w : World} {c s : Nat} {dc : Int} {zs : List UInt8} {A : Nat} {fst : Bool} {b0 p0 : Nat} {R : GotY} {x : Nat} {W : World} (h : BInv w c s dc zs A fst b0 p0 R x W) (er : Int) (hs : s = w.heap.size + 3) :
    Keep2 (s + 3) W (((W.setCell ⟨w.heap.size, 0, none⟩ (.int .i64 0)).setCell ⟨w.heap.size, 1, none⟩ (.slice none 0 0)).setCell ⟨w.heap.size + 1, 0, none⟩ (.int .i64 er)) ∧
    (er ≠ 0 → R = badY er → BEnd w R .ret (((W.setCell ⟨w.heap.size, 0, none⟩ (.int .i64 0)).setCell ⟨w.heap.size, 1, none⟩ (.slice none 0 0)).setCell ⟨w.heap.size + 1, 0, none⟩ (.int .i64 er)) c) := by
  obtain ⟨h1, h2, h3, h4, h5, h7, h8⟩ := h
  have k1 := two_set (u := .int .i64 0) (v := .slice none 0 0) h2
  have k2 : ((W.setCell ⟨w.heap.size, 0, none⟩ (.int .i64 0)).setCell ⟨w.heap.size, 1, none⟩ (.slice none 0 0)).heap[w.heap.size + 1]? = some (.cells #[.int .i64 0] 28 (0, 0)) := by
    rw [heap_setCell_other _ _ _ _ (by simp), heap_setCell_other _ _ _ _ (by simp)]
    exact h3
  refine ⟨⟨by simp, ?_, ?_⟩, fun he hR => ⟨rfl, er, he, hR, ?_, ?_, ?_⟩⟩
  · rw [heap_setCell_other _ _ _ _ (by simp; omega), heap_setCell_other _ _ _ _ (by simp; omega), heap_setCell_other _ _ _ _ (by simp; omega)]
  · rw [heap_setCell_other _ _ _ _ (by simp; omega), heap_setCell_other _ _ _ _ (by simp; omega), heap_setCell_other _ _ _ _ (by simp; omega)]
  · exact Bar.setCell (S := fun k => k = c) (Bar.setCell (S := fun k => k = c) (Bar.setCell (S := fun k => k = c) h1 (p := ⟨w.heap.size, 0, none⟩) (fun h => absurd h (by simp)) _) (p := ⟨w.heap.size, 1, none⟩) (fun h => absurd h (by simp)) _) (p := ⟨w.heap.size + 1, 0, none⟩) (fun h => absurd h (by simp)) _
  · rw [heap_setCell_other _ _ _ _ (by simp)]
    exact k1
  · rw [heap_setCell_same _ (w.heap.size + 1) 0 _ _ _ k2]
    rfl

/-- one more pair: the next place is written, the pair appended -/
theorem BInv.next {w : World} {c s : Nat} {dc : Int} {zs : List UInt8} {A : Nat} {fst : Bool} {b0 p0 : Nat} {R : GotY} {x : Nat} {W : World} (h : BInv w c s dc zs A fst b0 p0 R x W) (hs : s = w.heap.size + 3) (hc : c < w.heap.size) (hWs : w.heap.size + 8 ≤ W.heap.size) {r lv nx : Int} {av : Option Addr} {cv : Nat} {w6 : World} {v5 : Value}
    (hv : W.heap[w.heap.size + 2]? = some (.cells #[.int .i64 dc, .slice av x cv] 27 (0, 0))) (hrow : W.ownsRow (s + 5) 66 2 (.slice av x cv) x (cellsQ (psY zs A fst b0 x)))
    (hap : AppendedP ((W.setCell ⟨s, 0, none⟩ (.int .i64 nx)).alloc (.cells #[.int .i64 r, .int .i64 lv] 66 (0, 0))) w6 (s + 5) (.slice av x cv) v5 (x + 1) (psY zs A fst b0 x ++ [(r, lv)]))
    (hnx : nx = (plY zs A fst b0 p0 (x + 1) : Nat)) (hps : psY zs A fst b0 (x + 1) = psY zs A fst b0 x ++ [(r, lv)]) (hpl : plY zs A fst b0 p0 (x + 1) ≤ 64) (hrem : R = remY zs A fst b0 p0 dc (x + 1)) :
    w6.heap[w.heap.size + 2]? = some (.cells #[.int .i64 dc, .slice av x cv] 27 (0, 0)) ∧ w.heap.size + 2 < w6.heap.size ∧
    Keep2 (s + 3) W (w6.setCell ⟨w.heap.size + 2, 1, none⟩ v5) ∧ (∀ m, m ≤ w.heap.size → KpM m c (s + 1) W (w6.setCell ⟨w.heap.size + 2, 1, none⟩ v5)) ∧ BInv w c s dc zs A fst b0 p0 R (x + 1) (w6.setCell ⟨w.heap.size + 2, 1, none⟩ v5) := by
  subst hs
  obtain ⟨h1, h2, h3, h4, _, h7, h8⟩ := h
  obtain ⟨o1, g1, _⟩ := hap
  have hsz : ((W.setCell ⟨w.heap.size + 3, 0, none⟩ (.int .i64 nx)).alloc (.cells #[.int .i64 r, .int .i64 lv] 66 (0, 0))).heap.size = W.heap.size + 1 := by simp
  have hlt4 := (Array.getElem?_eq_some_iff.1 h4).1
  have key : ∀ k, k < w.heap.size + 3 + 5 → k < W.heap.size → k ≠ w.heap.size + 3 → w6.heap[k]? = W.heap[k]? := fun k h5 h6 h9 => by
    rw [g1.block k (by omega) (fun e => by have := (hrow.lt k e.symm).1; omega)]
    rw [Below.heap_alloc _ _ _ (by simpa using h6)]
    exact heap_setCell_other _ _ _ _ (by simpa using h9)
  have k3 : w6.heap[w.heap.size + 3]? = some (.cells #[.int .i64 nx] 3 (0, 0)) := by
    rw [g1.block _ (by omega) (fun e => by have := (hrow.lt _ e.symm).1; omega), Below.heap_alloc _ _ _ (by simpa using hlt4), heap_setCell_same _ (w.heap.size + 3) 0 _ _ _ h4]
    rfl
  have hsz6 := g1.size
  rw [hsz] at hsz6
  have hother : ∀ k, k ≠ w.heap.size + 2 → (w6.setCell ⟨w.heap.size + 2, 1, none⟩ v5).heap[k]? = w6.heap[k]? := fun k hk => heap_setCell_other _ _ _ _ (by simpa using hk)
  have hfull : ∀ k, k < w.heap.size + 3 + 5 → k < W.heap.size → k ≠ w.heap.size + 3 → k ≠ w.heap.size + 2 → (w6.setCell ⟨w.heap.size + 2, 1, none⟩ v5).heap[k]? = W.heap[k]? := fun k a b c d => (hother k d).trans (key k a b c)
  have hszf : (w6.setCell ⟨w.heap.size + 2, 1, none⟩ v5).heap.size = w6.heap.size := by simp
  have hv6 := (key (w.heap.size + 2) (by omega) (by omega) (by omega)).trans hv
  have hbar : Bar (fun k => k = w.heap.size + 3 ∨ k = w.heap.size + 2 ∨ w.heap.size + 8 ≤ k) W (w6.setCell ⟨w.heap.size + 2, 1, none⟩ v5) :=
    ⟨g1.os, g1.tape, g1.output, by omega, fun k hk hn => hfull k (by omega) hk (by omega) (by omega)⟩
  refine ⟨hv6, by omega, ⟨by omega, hfull _ (by omega) (by omega) (by omega) (by omega), hfull _ (by omega) (by omega) (by omega) (by omega)⟩, fun m hm => ⟨hbar.below (by omega) (fun k hk e => by omega), hfull _ (by omega) (by omega) (by omega) (by omega), hfull _ (by omega) (by omega) (by omega) (by omega)⟩, ?_⟩
  refine ⟨h1.trans hbar (fun j hj e => by omega), (hfull _ (by omega) (by omega) (by omega) (by omega)).trans h2, (hfull _ (by omega) (by omega) (by omega) (by omega)).trans h3, ?_, ⟨v5, ?_, ?_⟩, hpl, hrem.symm⟩
  · rw [hother _ (by omega), k3, hnx]
  · rw [heap_setCell_same _ (w.heap.size + 2) 1 _ _ _ hv6]
    rfl
  · rw [hps]
    exact ownsRow_barN (S := fun k => k = w.heap.size + 2) o1 (Bar.setCell (S := fun k => k = w.heap.size + 2) (Bar.refl _ w6) (p := ⟨w.heap.size + 2, 1, none⟩) (fun _ => rfl) v5) (fun k e => by have := (o1.lt k e).1; omega)

set_option maxRecDepth 100000 in
set_option maxHeartbeats 8000000 in
theorem yblock_no (n : Nat) (hn : 12 ≤ n) {n₁ : Nat} {w0 w : World} {sv : Value} {zs : List UInt8} (hB : Byt n₁ w0 sv zs) (hn1 : n₁ ≤ w0.heap.size) (hl : zs.length ≤ 1000000) (hT : Lay8 w0) (hb0 : Below w0.heap.size w0 w) (c A : Nat) (hA : (A : Int) ≤ 9223372036854775807) (hc : w0.heap.size ≤ c) (hcur : w.heap[c]? = some (curO sv A)) :
    CallsIn Fence.wide n Tryz.prog 35 #[.pointer (some ⟨c, 0, none⟩), .bool false] w fun e w' => BRes w c sv A (gotY zs A false) e w' := by
  have hn1' : 1 ≤ n := by omega
  have hcx : c < w.heap.size := (Array.getElem?_eq_some_iff.1 hcur).1
  have HF := Lib.hid (fun W => yFirst_any false W)
  have HP := Lib.hid (fun W => ypairs_any c true W)
  have HX := Lib.hid yFits_any
  rw [gotY_nat]
  simp only [Bool.false_eq_true, if_false]
  obtain ⟨R, hR⟩ : ∃ R, remY zs A true 0 0 0 0 = R := ⟨_, rfl⟩
  rw [hR]
  refine callsIn_of_wp_marks Tryz.func35 rfl trivial ?_ rfl
  simp only [Tryz.ntmps35, List.size_toArray, List.length_cons, List.length_nil, Nat.reduceAdd, Nat.reduceSub, Array.replicate_succ, Array.replicate_zero, List.push_toArray, List.append_toArray, List.nil_append, List.cons_append]
  gi_wp2_with (first
    | (refine ⟨trivial, ?_⟩; gi_at_call 44; refine (callsIn_wide.2 (HF.out _)).mono ?_; rintro e w' ⟨rfl, rfl⟩)
    | (refine ⟨trivial, ?_⟩; gi_at_call 54; refine (callsIn_wide.2 (HP.out _)).mono ?_; rintro e w' ⟨rfl, rfl⟩))
  have hW5 : Below w.heap.size w ((((((w.alloc (.cells #[.int .i64 0, .slice none 0 0] 27 (0, 0))).alloc (.cells #[.int .i64 0] 28 (0, 0))).alloc (.cells #[.int .i64 0, .slice none 0 0] 27 (0, 0))).alloc (.cells #[.int .i64 (fstY false : Nat)] 3 (0, 0))).alloc (.cells #[.pointer (some ⟨c, 0, none⟩)] 82 (0, 0))).alloc (.cells #[.bool true] 4 (0, 0))) :=
    ((((((Below.refl _ w).alloc (Nat.le_refl _) _).alloc (by simp) _).alloc (by simp; omega) _).alloc (by simp; omega) _).alloc (by simp; omega) _).alloc (by simp; omega) _
  have h50 : ((((((w.alloc (.cells #[.int .i64 0, .slice none 0 0] 27 (0, 0))).alloc (.cells #[.int .i64 0] 28 (0, 0))).alloc (.cells #[.int .i64 0, .slice none 0 0] 27 (0, 0))).alloc (.cells #[.int .i64 (fstY false : Nat)] 3 (0, 0))).alloc (.cells #[.pointer (some ⟨c, 0, none⟩)] 82 (0, 0))).alloc (.cells #[.bool true] 4 (0, 0))).heap[w.heap.size]? = some (.cells #[.int .i64 0, .slice none 0 0] 27 (0, 0)) := heap_keep (heap_keep (heap_keep (heap_keep (heap_keep (heap_new _ rfl _) _) _) _) _) _
  have h51 : ((((((w.alloc (.cells #[.int .i64 0, .slice none 0 0] 27 (0, 0))).alloc (.cells #[.int .i64 0] 28 (0, 0))).alloc (.cells #[.int .i64 0, .slice none 0 0] 27 (0, 0))).alloc (.cells #[.int .i64 (fstY false : Nat)] 3 (0, 0))).alloc (.cells #[.pointer (some ⟨c, 0, none⟩)] 82 (0, 0))).alloc (.cells #[.bool true] 4 (0, 0))).heap[w.heap.size + 1]? = some (.cells #[.int .i64 0] 28 (0, 0)) := heap_keep (heap_keep (heap_keep (heap_keep (heap_new _ (by simp) _) _) _) _) _
  have h52 : ((((((w.alloc (.cells #[.int .i64 0, .slice none 0 0] 27 (0, 0))).alloc (.cells #[.int .i64 0] 28 (0, 0))).alloc (.cells #[.int .i64 0, .slice none 0 0] 27 (0, 0))).alloc (.cells #[.int .i64 (fstY false : Nat)] 3 (0, 0))).alloc (.cells #[.pointer (some ⟨c, 0, none⟩)] 82 (0, 0))).alloc (.cells #[.bool true] 4 (0, 0))).heap[w.heap.size + 2]? = some (.cells #[.int .i64 0, .slice none 0 0] 27 (0, 0)) := heap_keep (heap_keep (heap_keep (heap_new _ (by simp) _) _) _) _
  have h53 : ((((((w.alloc (.cells #[.int .i64 0, .slice none 0 0] 27 (0, 0))).alloc (.cells #[.int .i64 0] 28 (0, 0))).alloc (.cells #[.int .i64 0, .slice none 0 0] 27 (0, 0))).alloc (.cells #[.int .i64 (fstY false : Nat)] 3 (0, 0))).alloc (.cells #[.pointer (some ⟨c, 0, none⟩)] 82 (0, 0))).alloc (.cells #[.bool true] 4 (0, 0))).heap[w.heap.size + 3]? = some (.cells #[.int .i64 (fstY false : Nat)] 3 (0, 0)) := heap_keep (heap_keep (heap_new _ (by simp) _) _) _
  have h54 : ((((((w.alloc (.cells #[.int .i64 0, .slice none 0 0] 27 (0, 0))).alloc (.cells #[.int .i64 0] 28 (0, 0))).alloc (.cells #[.int .i64 0, .slice none 0 0] 27 (0, 0))).alloc (.cells #[.int .i64 (fstY false : Nat)] 3 (0, 0))).alloc (.cells #[.pointer (some ⟨c, 0, none⟩)] 82 (0, 0))).alloc (.cells #[.bool true] 4 (0, 0))).heap[w.heap.size + 4]? = some (.cells #[.pointer (some ⟨c, 0, none⟩)] 82 (0, 0)) := heap_keep (heap_new _ (by simp) _) _
  have h55 : ((((((w.alloc (.cells #[.int .i64 0, .slice none 0 0] 27 (0, 0))).alloc (.cells #[.int .i64 0] 28 (0, 0))).alloc (.cells #[.int .i64 0, .slice none 0 0] 27 (0, 0))).alloc (.cells #[.int .i64 (fstY false : Nat)] 3 (0, 0))).alloc (.cells #[.pointer (some ⟨c, 0, none⟩)] 82 (0, 0))).alloc (.cells #[.bool true] 4 (0, 0))).heap[w.heap.size + 5]? = some (.cells #[.bool true] 4 (0, 0)) := heap_new _ (by simp) _
  have h5z : ((((((w.alloc (.cells #[.int .i64 0, .slice none 0 0] 27 (0, 0))).alloc (.cells #[.int .i64 0] 28 (0, 0))).alloc (.cells #[.int .i64 0, .slice none 0 0] 27 (0, 0))).alloc (.cells #[.int .i64 (fstY false : Nat)] 3 (0, 0))).alloc (.cells #[.pointer (some ⟨c, 0, none⟩)] 82 (0, 0))).alloc (.cells #[.bool true] 4 (0, 0))).heap.size = w.heap.size + 6 := by simp
  generalize (((((w.alloc (.cells #[.int .i64 0, .slice none 0 0] 27 (0, 0))).alloc (.cells #[.int .i64 0] 28 (0, 0))).alloc (.cells #[.int .i64 0, .slice none 0 0] 27 (0, 0))).alloc (.cells #[.int .i64 (fstY false : Nat)] 3 (0, 0))).alloc (.cells #[.pointer (some ⟨c, 0, none⟩)] 82 (0, 0))).alloc (.cells #[.bool true] 4 (0, 0)) = w5 at *
  have hI5 : BInv w c (w.heap.size + 3) 0 zs A true 0 0 R 0 w5 := ⟨bar_of_below hW5, h50, h51, h53, ⟨.slice none 0 0, h52, World.ownsRow_nil _ _ _ _⟩, by simp [plY], hR⟩
  have hcs5 : CurS w0 c (w.heap.size + 4) sv ((A + 0 : Nat) : Int) w5 := ⟨hb0.trans (hW5.mono hb0.size), (hW5.block c hcx).trans hcur, h54⟩
  refine wpIn_range_M rfl hn1' (gf := 83) (lb := #[.pointer (some ⟨w.heap.size + 1 + 1 + 1 + 1 + 1, 0, none⟩), .pointer (some ⟨w.heap.size + 1 + 1 + 1 + 1, 0, none⟩)]) rfl trivial (enters_of Tryz.func83 (by kernel_rfl) rfl)
    (ypairs_M (n - 1) (by omega) c (w.heap.size + 5) (w.heap.size + 4) A 0 sv zs true n₁ w0 w5 hB hn1 hl hT (by simpa using hA) hc (by omega) (by omega) hcs5 h55)
    (fun k e => by subst e; omega)
    KpM.t (fun W' o' h => ⟨(bar_putObj (S := fun k => k = w5.heap.size + 1) rfl o').below (by omega) (fun k hk e => by omega), World.putObj_heap_other (by omega), World.putObj_heap_other (by omega)⟩) (Below.refl _ _) (fun _ => rfl)
    (fun x W' o' h hc' => ⟨hc'.below.trans ((bar_putObj (S := fun k => k = w5.heap.size + 1) rfl o').below (by omega) (fun k hk e => by omega)), (World.putObj_heap_other (by omega)).trans hc'.cur, (World.putObj_heap_other (by omega)).trans hc'.box⟩)
    (fun x Wx => BInv w c (w.heap.size + 3) 0 zs A true 0 0 R x Wx)
    (fun co x Wx => BEnd w R co Wx c)
    ?hI ?hIx ?h0 ?hround ?hdone ?hstop
  case hI =>
    intro x X Y h hb
    rw [h5z] at hb
    exact h.move hb hcx (Nat.le_refl _)
  case hIx =>
    intro co x X Y h hb
    rw [h5z] at hb
    exact h.move (s := w.heap.size + 3) hb hcx (Nat.le_refl _)
  case h0 =>
    intro W' hb
    exact hI5.move ⟨hb.os, hb.tape, hb.output, hb.size, fun k hk hn => hb.block k hk (fun e => hn (.inl e))⟩ hcx (Nat.le_refl _)
  case hround =>
    intro x Wx hI hcu hxz hmore
    obtain ⟨g, hg⟩ : ∃ g, gY zs A true 0 x = g := ⟨_, rfl⟩
    have hgr := gY_run (zs := zs) (A := A) (fst := true) (b0 := 0) (x := x)
    have hpx := plY_succ (zs := zs) (A := A) (fst := true) (b0 := 0) (p0 := 0) x
    have hps := psY_succ (zs := zs) (A := A) (fst := true) (b0 := 0) x
    have hx65 : x < 65 := by have := plY_ge (zs := zs) (A := A) (fst := true) (b0 := 0) (p0 := 0) x; have := hI.pl; omega
    have hre := remY_err (zs := zs) (A := A) (fst := true) (b0 := 0) (p0 := 0) 0 hx65
    have hrr := remY_run (zs := zs) (A := A) (fst := true) (b0 := 0) (p0 := 0) 0 hx65
    have hrn := remY_next (zs := zs) (A := A) (fst := true) (b0 := 0) (p0 := 0) 0 hx65
    rw [hI.rem] at hre hrr hrn
    rw [hg] at hgr hpx hps hre hrr hrn hmore ⊢
    have HGd := Lib.hid hg
    clear hg
    obtain ⟨r, lv, ov, mn, er⟩ := g
    simp only at hmore hgr hpx hps hre hrr hrn
    subst hmore
    simp only [encP]
    gi_wp2
    refine ⟨keep2_bar (S := fun _ => False) (bar_of_below ((Below.refl _ Wx).alloc (Nat.le_refl _) _)) (by omega) id id, ⟨(Below.refl _ Wx).alloc (by omega) _, Below.heap_alloc _ _ _ (by omega), Below.heap_alloc _ _ _ (by omega)⟩, fun W2 hb2 hz2 hot => ?_⟩
    have hWW : Bar (fun k => k = c ∨ k = w.heap.size + 3 + 4) Wx W2 := Bar.trans (S := fun k => k = c ∨ k = w.heap.size + 3 + 4) ((Bar.refl _ Wx).alloc _) hb2 (fun j hj e => .inr (by omega))
    have hI2 := hI.move hWW hcx (Nat.le_refl _)
    have hp2 : W2.heap[Wx.heap.size]? = some (.cells #[.int .i64 r, .int .i64 lv] 66 (0, 0)) := (hot _ (by omega)).trans (World.alloc_heap_new Wx _)
    have hbc2 : W2.heap[w.heap.size + 4]? = Wx.heap[w.heap.size + 4]? := (hot _ (by omega)).trans (Below.heap_alloc _ _ _ (by omega))
    have hpl := hI2.pl
    obtain ⟨i4, i5, ⟨v, i6, i7⟩⟩ := (⟨hI2.r4, hI2.r5, hI2.xb⟩ : _ ∧ _ ∧ _)
    obtain ⟨av, cv, rfl, _⟩ := rowP_own i7
    obtain ⟨p0, p1, _, _⟩ := pair_cells hp2
    obtain ⟨e0, e1, f0, f1⟩ := pair_cells i4
    obtain ⟨e2, f2⟩ := one_cell i5
    obtain ⟨e3, f3⟩ := one_cell hI2.nx
    obtain ⟨d0, d1, g0, g1⟩ := pair_cells (show W2.heap[w.heap.size + 1 + 1]? = _ from i6)
    have hlp : Wx.heap.size < W2.heap.size := by omega
    have hl0 : w.heap.size + 6 < W2.heap.size := by omega
    have HI2 := Lib.hid hI2
    have HRo := Lib.hid i7
    have HV6 := Lib.hid i6
    have HBc2 := Lib.hid hbc2
    have HPs := Lib.hid hps
    have HPx := Lib.hid hpx
    have Hre := Lib.hid hre
    have Hrr := Lib.hid hrr
    have Hrn := Lib.hid hrn
    clear hWW hI2 hI hp2 hbc2 i4 i5 i6 i7 hps hre hrr hrn hb2 hot hcu
    by_cases he : er = 0
    · subst he
      obtain ⟨hr0, hr63, hlv⟩ := hgr rfl trivial
      have HXf := Lib.hid (fun W => HX.out r _ hpl W)
      cases hf : fitY r (plY zs A true 0 0 x) with
      | false =>
        have hlong : 63 < (plY zs A true 0 0 x : Int) + r := by
          unfold fitY at hf
          simp at hf
          omega
        have hR11 := Hrr.out rfl trivial hlong
        have hst := HI2.out.stop 11 rfl
        have HSt := Lib.hid (And.intro hst.1 (hst.2 (by decide) hR11))
        rw [hf] at HXf
        clear hst hR11 hf
        gi_wp2_with fail
        refine ⟨trivial, fun _ => by omega, ?_⟩
        refine (CallsIn.inRound _ (callsIn_wide.2 (HXf.out _))).mono ?_
        rintro e w' ⟨rfl, rfl⟩
        gi_wp2
        exact HSt.out
      | true =>
        have hshort : ¬ 63 < (plY zs A true 0 0 x : Int) + r := by
          unfold fitY at hf
          simp at hf
          omega
        have HRn := Lib.hid (Hrn.out rfl trivial (by omega))
        rw [hf] at HXf
        obtain ⟨nr, rfl⟩ : ∃ nr : Nat, r = nr := ⟨r.toNat, by omega⟩
        have HPl1 : Hid (((plY zs A true 0 0 x : Int) + ((nr : Int) + 1)) = (plY zs A true 0 0 (x + 1) : Nat)) := by show _ = _; rw [HPx.out, Int.toNat_natCast]; omega
        have HPl2 : Hid (plY zs A true 0 0 (x + 1) ≤ 64) := by show _ ≤ _; rw [HPx.out, Int.toNat_natCast]; omega
        have hss : (W2.setCell ⟨w.heap.size + 1 + 1 + 1, 0, none⟩ (.int .i64 ((plY zs A true 0 0 x : Int) + ((nr : Int) + 1)))).heap.size = Wx.heap.size + 1 := by simpa using hz2
        have HSrc : Hid (SrcP ((W2.setCell ⟨w.heap.size + 1 + 1 + 1, 0, none⟩ (.int .i64 ((plY zs A true 0 0 x : Int) + ((nr : Int) + 1)))).alloc (.cells #[.int .i64 (nr : Int), .int .i64 lv] 66 (0, 0))) (some ⟨Wx.heap.size + 1, 0, none⟩) 1 [((nr : Int), lv)]) := by
          have := srcP_oneY (W2.setCell ⟨w.heap.size + 1 + 1 + 1, 0, none⟩ (.int .i64 ((plY zs A true 0 0 x : Int) + ((nr : Int) + 1)))) nr lv 66
          rw [hss] at this
          exact this
        clear hss
        have HRow : Hid (((W2.setCell ⟨w.heap.size + 1 + 1 + 1, 0, none⟩ (.int .i64 ((plY zs A true 0 0 x : Int) + ((nr : Int) + 1)))).alloc (.cells #[.int .i64 (nr : Int), .int .i64 lv] 66 (0, 0))).ownsRow (w.heap.size + 3 + 5) 66 2 (.slice av x cv) x (cellsQ (psY zs A true 0 x))) :=
          (ownsRow_barN (S := fun k => k = w.heap.size + 3) HRo.out (Bar.setCell (S := fun k => k = w.heap.size + 3) (Bar.refl _ W2) (p := ⟨w.heap.size + 1 + 1 + 1, 0, none⟩) (fun _ => rfl) _) (fun k e => by have := (HRo.out.lt k e).1; omega)).alloc _
        clear hf
        have c3 := HI2.out.nx
        have hbig : w.heap.size + 8 ≤ W2.heap.size := by omega
        gi_wp2_with fail
        refine ⟨trivial, fun _ => by omega, ?_⟩
        refine (CallsIn.inRound _ (callsIn_wide.2 (HXf.out _))).mono ?_
        rintro e w' ⟨rfl, rfl⟩
        gi_wp2_with (gi_at_builtin; refine wpListIn_append_pY rfl (.tmp 50) (.tmp 52) rfl (w.heap.size + 3 + 5) (.slice av x cv) x (psY zs A true 0 x) rfl HRow.out _ 1 1 [((nr : Int), lv)] rfl HSrc.out (fun e => nomatch e) (by omega) (by simp; omega) ?_; intro v5 w6 hap; have HAp := Lib.hid hap; clear hap; refine Hid.out ?_)
        refine Lib.hid ?_
        obtain ⟨n1, n2, n3, n4, n5⟩ := HI2.out.next rfl hcx hbig (r := nr) (lv := lv) HV6.out HRo.out HAp.out HPl1.out HPs.out HPl2.out HRn.out
        obtain ⟨a5, c5, rfl, _⟩ := rowP_own HAp.out.1
        obtain ⟨t0, t1, t2, t3⟩ := pair_cells (show w6.heap[w.heap.size + 1 + 1]? = _ from n1)
        have N := Lib.hid (And.intro n3 (And.intro (n4 w0.heap.size hb0.size) n5))
        clear n1 n3 n4 n5
        gi_wp2
        exact ⟨N.out.1, N.out.2.1, by show (gY zs A true 0 x).err = 0; rw [HGd.out], N.out.2.2⟩
    · have qe : (er != 0) = true := by simpa using he
      have hst := HI2.out.stop er rfl
      have HSt := Lib.hid (And.intro hst.1 (hst.2 he (Hre.out he)))
      clear hst
      gi_wp2
      exact HSt.out
  case hdone =>
    intro D x W' hD hmore hI hcu hDm
    subst hD
    have hov : (gY zs A true 0 x).over = true := by simpa using hmore
    have her : (gY zs A true 0 x).err = 0 := by
      false_or_by_contra
      rename_i h
      have := (gY_bad h).1
      rw [hov] at this
      cases this
    obtain ⟨i1, i2, i3, i4, ⟨v, i5, i6⟩, i7, i8⟩ := hI
    have hx65 : x < 65 := by have := plY_ge (zs := zs) (A := A) (fst := true) (b0 := 0) (p0 := 0) x; omega
    rw [remY_over 0 hx65 her hov] at i8
    have hmy := (gY_many her).1
    obtain ⟨av, cv, rfl, _⟩ := rowP_own i6
    have d0 : W'.cell? ⟨w.heap.size + 1 + 1, 0, none⟩ = some (.int .i64 0) := by simp [World.cell?, show W'.heap[w.heap.size + 1 + 1]? = _ from i5]
    have d1 : W'.cell? ⟨w.heap.size + 1 + 1, 1, none⟩ = some (.slice av x cv) := by simp [World.cell?, show W'.heap[w.heap.size + 1 + 1]? = _ from i5]
    obtain ⟨e0, e1, f0, f1⟩ := pair_cells i2
    obtain ⟨e2, f2⟩ := one_cell i3
    have k1 := two_set (u := .int .i64 0) (v := .slice av x cv) i2
    have k2 : ((W'.setCell ⟨w.heap.size, 0, none⟩ (.int .i64 0)).setCell ⟨w.heap.size, 1, none⟩ (.slice av x cv)).heap[w.heap.size + 1]? = some (.cells #[.int .i64 0] 28 (0, 0)) := by
      rw [heap_setCell_other _ _ _ _ (by simp), heap_setCell_other _ _ _ _ (by simp)]
      exact i3
    have HI6 := Lib.hid i6
    have HK1 := Lib.hid k1
    have HK2 := Lib.hid k2
    have HBar := Lib.hid i1
    have HR := Lib.hid i8
    have HCu := Lib.hid hcu
    clear i1 i2 i3 i4 i5 i6 i8 k1 k2 hI5 hcs5 hcu
    gi_wp2
    have m1 := heap_setCell_same _ (w.heap.size + 1) 0 _ _ (.int .i64 0) HK2.out
    have m0 := (heap_setCell_other ((W'.setCell ⟨w.heap.size, 0, none⟩ (.int .i64 0)).setCell ⟨w.heap.size, 1, none⟩ (.slice av x cv)) ⟨w.heap.size + 1, 0, none⟩ w.heap.size (.int .i64 0) (by simp)).trans HK1.out
    have mD : (((W'.setCell ⟨w.heap.size, 0, none⟩ (.int .i64 0)).setCell ⟨w.heap.size, 1, none⟩ (.slice av x cv)).setCell ⟨w.heap.size + 1, 0, none⟩ (.int .i64 0)).heap[w5.heap.size]? = some (.deferred (some [])) := by
      rw [heap_setCell_other _ _ _ _ (by simp; omega), heap_setCell_other _ _ _ _ (by simp; omega), heap_setCell_other _ _ _ _ (by simp; omega)]
      exact hDm
    have mB : Bar (fun k => k = c ∨ w.heap.size ≤ k ∧ k < w.heap.size + 2) W' (((W'.setCell ⟨w.heap.size, 0, none⟩ (.int .i64 0)).setCell ⟨w.heap.size, 1, none⟩ (.slice av x cv)).setCell ⟨w.heap.size + 1, 0, none⟩ (.int .i64 0)) :=
      Bar.setCell (S := fun k => k = c ∨ w.heap.size ≤ k ∧ k < w.heap.size + 2) (Bar.setCell (S := fun k => k = c ∨ w.heap.size ≤ k ∧ k < w.heap.size + 2) (Bar.setCell (S := fun k => k = c ∨ w.heap.size ≤ k ∧ k < w.heap.size + 2) (Bar.refl _ W') (p := ⟨w.heap.size, 0, none⟩) (fun _ => .inr (by simp)) _) (p := ⟨w.heap.size, 1, none⟩) (fun _ => .inr (by simp)) _) (p := ⟨w.heap.size + 1, 0, none⟩) (fun _ => .inr (by simp)) _
    have mC := (heap_setCell_other ((W'.setCell ⟨w.heap.size, 0, none⟩ (.int .i64 0)).setCell ⟨w.heap.size, 1, none⟩ (.slice av x cv)) ⟨w.heap.size + 1, 0, none⟩ c (.int .i64 0) (by simp; omega)).trans ((heap_setCell_other (W'.setCell ⟨w.heap.size, 0, none⟩ (.int .i64 0)) ⟨w.heap.size, 1, none⟩ c (.slice av x cv) (by simp; omega)).trans ((heap_setCell_other W' ⟨w.heap.size, 0, none⟩ c (.int .i64 0) (by simp; omega)).trans HCu.out.cur))
    have mR := ownsRow_barN HI6.out mB (fun k e => by have := (HI6.out.lt k e).1; omega)
    have mBw := HBar.out.trans mB (fun j hj e => by omega)
    generalize ((W'.setCell ⟨w.heap.size, 0, none⟩ (.int .i64 0)).setCell ⟨w.heap.size, 1, none⟩ (.slice av x cv)).setCell ⟨w.heap.size + 1, 0, none⟩ (.int .i64 0) = W6 at *
    refine leaves_one mD (fun W3 hb => ?_)
    have n0 := (hb.block w.heap.size (Array.getElem?_eq_some_iff.1 m0).1 (by omega)).trans m0
    have n1 := (hb.block (w.heap.size + 1) (Array.getElem?_eq_some_iff.1 m1).1 (by omega)).trans m1
    have nC := (hb.block c (Array.getElem?_eq_some_iff.1 mC).1 (by omega)).trans mC
    obtain ⟨q0, q1, _, _⟩ := pair_cells n0
    obtain ⟨q2, _⟩ := one_cell n1
    refine ⟨.tuple #[.agg #[.int .i64 0, .slice av x cv], .int .i64 0], by simp [results, Tryz.f35, go_sem, q0, q1, q2], .slice av x cv, ?_, ?_, ?_, ?_⟩
    · rw [← HR.out]
    · rw [← HR.out]
      simp only [psY_length]
      exact ownsRow_baseN (ownsRow_barN mR hb (fun k e => by have := (mR.lt k e).1; omega)) (by omega)
    · exact mBw.trans hb (fun j hj e => by omega)
    · intro _
      rw [nC, ← HR.out]
      simp only
      congr 4
      rw [offY_succ]
      omega
  case hstop =>
    intro D co x W' hD hmore hE hDm
    subst hD
    obtain ⟨rfl, er, he, hRe, hbar, r4, r5⟩ := hE
    gi_wp2
    refine leaves_one hDm (fun W3 hb => ?_)
    have n0 := (hb.block w.heap.size (Array.getElem?_eq_some_iff.1 r4).1 (by omega)).trans r4
    have n1 := (hb.block (w.heap.size + 1) (Array.getElem?_eq_some_iff.1 r5).1 (by omega)).trans r5
    obtain ⟨q0, q1, _, _⟩ := pair_cells n0
    obtain ⟨q2, _⟩ := one_cell n1
    refine ⟨.tuple #[.agg #[.int .i64 0, .slice none 0 0], .int .i64 er], by simp [results, Tryz.f35, go_sem, q0, q1, q2], .slice none 0 0, ?_, ?_, ?_, ?_⟩
    · rw [hRe]
      rfl
    · rw [hRe]
      exact World.ownsRow_nil _ _ _ _
    · exact hbar.trans hb (fun j hj e => by omega)
    · intro h0
      rw [hRe] at h0
      exact absurd h0 he

end Go.Proofs.YtbcfiafgolcbpaaGreatDoor

/- block: a cursor's block, intra, over the landed code; Get. -/
namespace Go.Proofs.YtbcfiafgolcbpaaGreatDoor
open Go.RowKit Go.Shelf
set_option linter.unusedVariables false
attribute [local go_sem] Oper.semAt_some

theorem leaves_none {F : Fence} {n : Nat} {P : Program} {fn : Func} {tmps : Array Value} {R : Ending → World → Prop} {W : World} (h : ∃ v, (results fn tmps).run P W = .ok v W ∧ R (.returned v) W) : LeavesInM F n P fn tmps R [] .returning W := h

set_option maxRecDepth 100000 in
set_option maxHeartbeats 8000000 in
theorem yblock_yes (n : Nat) (hn : 12 ≤ n) {n₁ : Nat} {w0 w : World} {sv : Value} {zs : List UInt8} (hB : Byt n₁ w0 sv zs) (hn1 : n₁ ≤ w0.heap.size) (hl : zs.length ≤ 1000000) (hT : Lay8 w0) (hb0 : Below w0.heap.size w0 w) (c A : Nat) (hA : (A : Int) ≤ 9223372036854775807) (hc : w0.heap.size ≤ c) (hcur : w.heap[c]? = some (curO sv A)) :
    CallsIn Fence.wide n Tryz.prog 35 #[.pointer (some ⟨c, 0, none⟩), .bool true] w fun e w' => BRes w c sv A (gotY zs A true) e w' := by
  have hn1' : 1 ≤ n := by omega
  have hcx : c < w.heap.size := (Array.getElem?_eq_some_iff.1 hcur).1
  have HF := Lib.hid (fun W => yFirst_any true W)
  have HP := Lib.hid (fun W => ypairs_any c false W)
  have HX := Lib.hid yFits_any
  have hW3 : Below w.heap.size w (((w.alloc (.cells #[.int .i64 0, .slice none 0 0] 27 (0, 0))).alloc (.cells #[.int .i64 0] 28 (0, 0))).alloc (.cells #[.int .i64 0, .slice none 0 0] 27 (0, 0))) :=
    (((Below.refl _ w).alloc (Nat.le_refl _) _).alloc (by simp) _).alloc (by simp; omega) _
  have h30 : (((w.alloc (.cells #[.int .i64 0, .slice none 0 0] 27 (0, 0))).alloc (.cells #[.int .i64 0] 28 (0, 0))).alloc (.cells #[.int .i64 0, .slice none 0 0] 27 (0, 0))).heap[w.heap.size]? = some (.cells #[.int .i64 0, .slice none 0 0] 27 (0, 0)) := heap_keep (heap_keep (heap_new _ rfl _) _) _
  have h31 : (((w.alloc (.cells #[.int .i64 0, .slice none 0 0] 27 (0, 0))).alloc (.cells #[.int .i64 0] 28 (0, 0))).alloc (.cells #[.int .i64 0, .slice none 0 0] 27 (0, 0))).heap[w.heap.size + 1]? = some (.cells #[.int .i64 0] 28 (0, 0)) := heap_keep (heap_new _ (by simp) _) _
  have h32 : (((w.alloc (.cells #[.int .i64 0, .slice none 0 0] 27 (0, 0))).alloc (.cells #[.int .i64 0] 28 (0, 0))).alloc (.cells #[.int .i64 0, .slice none 0 0] 27 (0, 0))).heap[w.heap.size + 1 + 1]? = some (.cells #[.int .i64 0, .slice none 0 0] 27 (0, 0)) := heap_new _ (by simp) _
  have h3z : (((w.alloc (.cells #[.int .i64 0, .slice none 0 0] 27 (0, 0))).alloc (.cells #[.int .i64 0] 28 (0, 0))).alloc (.cells #[.int .i64 0, .slice none 0 0] 27 (0, 0))).heap.size = w.heap.size + 1 + 1 + 1 := by simp
  have HCd := Lib.hid (yCode_any (w := (((w.alloc (.cells #[.int .i64 0, .slice none 0 0] 27 (0, 0))).alloc (.cells #[.int .i64 0] 28 (0, 0))).alloc (.cells #[.int .i64 0, .slice none 0 0] 27 (0, 0)))) hB hn1 hl (hb0.trans (hW3.mono hb0.size)) c A hA hc ((hW3.block c hcx).trans hcur))
  rw [gotY_nat]
  simp only [if_true]
  have hAl : (codeY zs A).2 = 0 → A + 8 ≤ 8 * zs.length := fun h => by
    unfold codeY at h
    split at h
    · cases h
    · omega
  generalize codeY zs A = cd at *
  obtain ⟨d, ce⟩ := cd
  simp only at hAl HCd ⊢
  by_cases hce : ce = 0
  · subst hce
    simp only [ne_eq, not_true_eq_false, if_false]
    obtain ⟨R, hR⟩ : ∃ R, remY zs A false 8 1 d 0 = R := ⟨_, rfl⟩
    rw [hR]
    have hA8 := hAl rfl
    refine callsIn_of_wp_marks Tryz.func35 rfl trivial ?_ rfl
    simp only [Tryz.ntmps35, List.size_toArray, List.length_cons, List.length_nil, Nat.reduceAdd, Nat.reduceSub, Array.replicate_succ, Array.replicate_zero, List.push_toArray, List.append_toArray, List.nil_append, List.cons_append]
    gi_wp2_with fail
    generalize ((w.alloc (.cells #[.int .i64 0, .slice none 0 0] 27 (0, 0))).alloc (.cells #[.int .i64 0] 28 (0, 0))).alloc (.cells #[.int .i64 0, .slice none 0 0] 27 (0, 0)) = w3 at *
    refine ⟨trivial, ?_⟩
    refine (callsIn_wide.2 HCd.out).mono ?_
    rintro e w4 ⟨rfl, bar4, hz4, hcu4⟩
    have hz4' : w4.heap.size = w.heap.size + 1 + 1 + 1 := by omega
    have k0 := (bar4.block w.heap.size (by omega) (by omega)).trans h30
    have k1 := (bar4.block (w.heap.size + 1) (by omega) (by omega)).trans h31
    have k2 := (bar4.block (w.heap.size + 1 + 1) (by omega) (by omega)).trans h32
    have kc := hcu4 trivial
    have b4 := bar_of_below (S := fun k => k = c) hW3 |>.trans bar4 (fun j hj e => e)
    clear hz4 hcu4 bar4 h30 h31 h32 h3z hW3 hcur HCd
    obtain ⟨t0, t1, t2, t3⟩ := pair_cells k2
    have hlt4 : w.heap.size + 1 + 1 < w4.heap.size := by omega
    have K0 := Lib.hid k0
    have K1 := Lib.hid k1
    have K2 := Lib.hid k2
    have KC := Lib.hid kc
    have B4 := Lib.hid b4
    clear k0 k1 k2 kc b4
    gi_wp2_with (first
      | (refine ⟨trivial, ?_⟩; gi_at_call 44; refine (callsIn_wide.2 (HF.out _)).mono ?_; rintro e w' ⟨rfl, rfl⟩)
      | (refine ⟨trivial, ?_⟩; gi_at_call 54; refine (callsIn_wide.2 (HP.out _)).mono ?_; rintro e w' ⟨rfl, rfl⟩))
    have h6z : (w4.setCell ⟨w.heap.size + 1 + 1, 0, none⟩ (.int .i64 d)).heap.size = w.heap.size + 3 := by simpa using hz4'
    have j2 : (w4.setCell ⟨w.heap.size + 1 + 1, 0, none⟩ (.int .i64 d)).heap[w.heap.size + 2]? = some (.cells #[.int .i64 d, .slice none 0 0] 27 (0, 0)) := by
      have := heap_setCell_same w4 (w.heap.size + 1 + 1) 0 _ _ (.int .i64 d) K2.out
      exact this
    have j0 := (heap_setCell_other w4 ⟨w.heap.size + 1 + 1, 0, none⟩ w.heap.size (.int .i64 d) (by simp; omega)).trans K0.out
    have j1 := (heap_setCell_other w4 ⟨w.heap.size + 1 + 1, 0, none⟩ (w.heap.size + 1) (.int .i64 d) (by simp)).trans K1.out
    have jc := (heap_setCell_other w4 ⟨w.heap.size + 1 + 1, 0, none⟩ c (.int .i64 d) (by simp; omega)).trans KC.out
    have jb : Bar (fun k => k = c) w (w4.setCell ⟨w.heap.size + 1 + 1, 0, none⟩ (.int .i64 d)) := Bar.setCell (S := fun k => k = c) B4.out (p := ⟨w.heap.size + 1 + 1, 0, none⟩) (fun h => absurd h (by simp; omega)) _
    generalize w4.setCell ⟨w.heap.size + 1 + 1, 0, none⟩ (.int .i64 d) = w6 at *
    have h50 : (((w6.alloc (.cells #[.int .i64 (fstY true : Nat)] 3 (0, 0))).alloc (.cells #[.pointer (some ⟨c, 0, none⟩)] 82 (0, 0))).alloc (.cells #[.bool false] 4 (0, 0))).heap[w.heap.size]? = some (.cells #[.int .i64 0, .slice none 0 0] 27 (0, 0)) := heap_keep (heap_keep (heap_keep j0 _) _) _
    have h51 : (((w6.alloc (.cells #[.int .i64 (fstY true : Nat)] 3 (0, 0))).alloc (.cells #[.pointer (some ⟨c, 0, none⟩)] 82 (0, 0))).alloc (.cells #[.bool false] 4 (0, 0))).heap[w.heap.size + 1]? = some (.cells #[.int .i64 0] 28 (0, 0)) := heap_keep (heap_keep (heap_keep j1 _) _) _
    have h52 : (((w6.alloc (.cells #[.int .i64 (fstY true : Nat)] 3 (0, 0))).alloc (.cells #[.pointer (some ⟨c, 0, none⟩)] 82 (0, 0))).alloc (.cells #[.bool false] 4 (0, 0))).heap[w.heap.size + 2]? = some (.cells #[.int .i64 d, .slice none 0 0] 27 (0, 0)) := heap_keep (heap_keep (heap_keep j2 _) _) _
    have h53 : (((w6.alloc (.cells #[.int .i64 (fstY true : Nat)] 3 (0, 0))).alloc (.cells #[.pointer (some ⟨c, 0, none⟩)] 82 (0, 0))).alloc (.cells #[.bool false] 4 (0, 0))).heap[w.heap.size + 3]? = some (.cells #[.int .i64 (fstY true : Nat)] 3 (0, 0)) := heap_keep (heap_keep (heap_new _ (by simp [h6z]) _) _) _
    have h54 : (((w6.alloc (.cells #[.int .i64 (fstY true : Nat)] 3 (0, 0))).alloc (.cells #[.pointer (some ⟨c, 0, none⟩)] 82 (0, 0))).alloc (.cells #[.bool false] 4 (0, 0))).heap[w.heap.size + 4]? = some (.cells #[.pointer (some ⟨c, 0, none⟩)] 82 (0, 0)) := heap_keep (heap_new _ (by simp [h6z]) _) _
    have h55 : (((w6.alloc (.cells #[.int .i64 (fstY true : Nat)] 3 (0, 0))).alloc (.cells #[.pointer (some ⟨c, 0, none⟩)] 82 (0, 0))).alloc (.cells #[.bool false] 4 (0, 0))).heap[w.heap.size + 5]? = some (.cells #[.bool false] 4 (0, 0)) := heap_new _ (by simp [h6z]) _
    have h5c : (((w6.alloc (.cells #[.int .i64 (fstY true : Nat)] 3 (0, 0))).alloc (.cells #[.pointer (some ⟨c, 0, none⟩)] 82 (0, 0))).alloc (.cells #[.bool false] 4 (0, 0))).heap[c]? = some (curO sv ((A + 8 : Nat) : Int)) := heap_keep (heap_keep (heap_keep jc _) _) _
    have h5z : (((w6.alloc (.cells #[.int .i64 (fstY true : Nat)] 3 (0, 0))).alloc (.cells #[.pointer (some ⟨c, 0, none⟩)] 82 (0, 0))).alloc (.cells #[.bool false] 4 (0, 0))).heap.size = w.heap.size + 6 := by simp [h6z]
    have h5b : Bar (fun k => k = c) w (((w6.alloc (.cells #[.int .i64 (fstY true : Nat)] 3 (0, 0))).alloc (.cells #[.pointer (some ⟨c, 0, none⟩)] 82 (0, 0))).alloc (.cells #[.bool false] 4 (0, 0))) := ((jb.alloc _).alloc _).alloc _
    generalize ((w6.alloc (.cells #[.int .i64 (fstY true : Nat)] 3 (0, 0))).alloc (.cells #[.pointer (some ⟨c, 0, none⟩)] 82 (0, 0))).alloc (.cells #[.bool false] 4 (0, 0)) = w5 at *
    clear j0 j1 j2 jc jb h6z K0 K1 K2 KC B4 t0 t1 t2 t3 hlt4 hz4'
    have hI5 : BInv w c (w.heap.size + 3) d zs A false 8 1 R 0 w5 := ⟨h5b, h50, h51, h53, ⟨.slice none 0 0, h52, World.ownsRow_nil _ _ _ _⟩, by simp [plY], hR⟩
    have hcs5 : CurS w0 c (w.heap.size + 4) sv ((A + 8 : Nat) : Int) w5 := ⟨hb0.trans (h5b.below hb0.size (fun k hk e => by omega)), h5c, h54⟩
    refine wpIn_range_M rfl hn1' (gf := 83) (lb := #[.pointer (some ⟨w.heap.size + 1 + 1 + 1 + 1 + 1, 0, none⟩), .pointer (some ⟨w.heap.size + 1 + 1 + 1 + 1, 0, none⟩)]) rfl trivial (enters_of Tryz.func83 (by kernel_rfl) rfl)
      (ypairs_M (n - 1) (by omega) c (w.heap.size + 5) (w.heap.size + 4) A 8 sv zs false n₁ w0 w5 hB hn1 hl hT (by omega) hc (by omega) (by omega) hcs5 h55)
      (fun k e => by subst e; omega)
      KpM.t (fun W' o' h => ⟨(bar_putObj (S := fun k => k = w5.heap.size + 1) rfl o').below (by omega) (fun k hk e => by omega), World.putObj_heap_other (by omega), World.putObj_heap_other (by omega)⟩) (Below.refl _ _) (fun _ => rfl)
      (fun x W' o' h hc' => ⟨hc'.below.trans ((bar_putObj (S := fun k => k = w5.heap.size + 1) rfl o').below (by omega) (fun k hk e => by omega)), (World.putObj_heap_other (by omega)).trans hc'.cur, (World.putObj_heap_other (by omega)).trans hc'.box⟩)
      (fun x Wx => BInv w c (w.heap.size + 3) d zs A false 8 1 R x Wx)
      (fun co x Wx => BEnd w R co Wx c)
      ?hI ?hIx ?h0 ?hround ?hdone ?hstop
    case hI =>
      intro x X Y h hb
      rw [h5z] at hb
      exact h.move hb hcx (Nat.le_refl _)
    case hIx =>
      intro co x X Y h hb
      rw [h5z] at hb
      exact h.move (s := w.heap.size + 3) hb hcx (Nat.le_refl _)
    case h0 =>
      intro W' hb
      exact hI5.move ⟨hb.os, hb.tape, hb.output, hb.size, fun k hk hn => hb.block k hk (fun e => hn (.inl e))⟩ hcx (Nat.le_refl _)
    case hround =>
      intro x Wx hI hcu hxz hmore
      obtain ⟨g, hg⟩ : ∃ g, gY zs A false 8 x = g := ⟨_, rfl⟩
      have hgr := gY_run (zs := zs) (A := A) (fst := false) (b0 := 8) (x := x)
      have hpx := plY_succ (zs := zs) (A := A) (fst := false) (b0 := 8) (p0 := 1) x
      have hps := psY_succ (zs := zs) (A := A) (fst := false) (b0 := 8) x
      have hx65 : x < 65 := by have := plY_ge (zs := zs) (A := A) (fst := false) (b0 := 8) (p0 := 1) x; have := hI.pl; omega
      have hre := remY_err (zs := zs) (A := A) (fst := false) (b0 := 8) (p0 := 1) d hx65
      have hrr := remY_run (zs := zs) (A := A) (fst := false) (b0 := 8) (p0 := 1) d hx65
      have hrn := remY_next (zs := zs) (A := A) (fst := false) (b0 := 8) (p0 := 1) d hx65
      rw [hI.rem] at hre hrr hrn
      rw [hg] at hgr hpx hps hre hrr hrn hmore ⊢
      have HGd := Lib.hid hg
      clear hg
      obtain ⟨r, lv, ov, mn, er⟩ := g
      simp only at hmore hgr hpx hps hre hrr hrn
      subst hmore
      simp only [encP]
      gi_wp2
      refine ⟨keep2_bar (S := fun _ => False) (bar_of_below ((Below.refl _ Wx).alloc (Nat.le_refl _) _)) (by omega) id id, ⟨(Below.refl _ Wx).alloc (by omega) _, Below.heap_alloc _ _ _ (by omega), Below.heap_alloc _ _ _ (by omega)⟩, fun W2 hb2 hz2 hot => ?_⟩
      have hWW : Bar (fun k => k = c ∨ k = w.heap.size + 3 + 4) Wx W2 := Bar.trans (S := fun k => k = c ∨ k = w.heap.size + 3 + 4) ((Bar.refl _ Wx).alloc _) hb2 (fun j hj e => .inr (by omega))
      have hI2 := hI.move hWW hcx (Nat.le_refl _)
      have hp2 : W2.heap[Wx.heap.size]? = some (.cells #[.int .i64 r, .int .i64 lv] 66 (0, 0)) := (hot _ (by omega)).trans (World.alloc_heap_new Wx _)
      have hbc2 : W2.heap[w.heap.size + 4]? = Wx.heap[w.heap.size + 4]? := (hot _ (by omega)).trans (Below.heap_alloc _ _ _ (by omega))
      have hpl := hI2.pl
      obtain ⟨i4, i5, ⟨v, i6, i7⟩⟩ := (⟨hI2.r4, hI2.r5, hI2.xb⟩ : _ ∧ _ ∧ _)
      obtain ⟨av, cv, rfl, _⟩ := rowP_own i7
      obtain ⟨p0, p1, _, _⟩ := pair_cells hp2
      obtain ⟨e0, e1, f0, f1⟩ := pair_cells i4
      obtain ⟨e2, f2⟩ := one_cell i5
      obtain ⟨e3, f3⟩ := one_cell hI2.nx
      obtain ⟨d0, d1, g0, g1⟩ := pair_cells (show W2.heap[w.heap.size + 1 + 1]? = _ from i6)
      have hlp : Wx.heap.size < W2.heap.size := by omega
      have hl0 : w.heap.size + 6 < W2.heap.size := by omega
      have HI2 := Lib.hid hI2
      have HRo := Lib.hid i7
      have HV6 := Lib.hid i6
      have HBc2 := Lib.hid hbc2
      have HPs := Lib.hid hps
      have HPx := Lib.hid hpx
      have Hre := Lib.hid hre
      have Hrr := Lib.hid hrr
      have Hrn := Lib.hid hrn
      clear hWW hI2 hI hp2 hbc2 i4 i5 i6 i7 hps hre hrr hrn hb2 hot hcu
      by_cases he : er = 0
      · subst he
        obtain ⟨hr0, hr63, hlv⟩ := hgr rfl trivial
        have HXf := Lib.hid (fun W => HX.out r _ hpl W)
        cases hf : fitY r (plY zs A false 8 1 x) with
        | false =>
          have hlong : 63 < (plY zs A false 8 1 x : Int) + r := by
            unfold fitY at hf
            simp at hf
            omega
          have hR11 := Hrr.out rfl trivial hlong
          have hst := HI2.out.stop 11 rfl
          have HSt := Lib.hid (And.intro hst.1 (hst.2 (by decide) hR11))
          rw [hf] at HXf
          clear hst hR11 hf
          gi_wp2_with fail
          refine ⟨trivial, fun _ => by omega, ?_⟩
          refine (CallsIn.inRound _ (callsIn_wide.2 (HXf.out _))).mono ?_
          rintro e w' ⟨rfl, rfl⟩
          gi_wp2
          exact HSt.out
        | true =>
          have hshort : ¬ 63 < (plY zs A false 8 1 x : Int) + r := by
            unfold fitY at hf
            simp at hf
            omega
          have HRn := Lib.hid (Hrn.out rfl trivial (by omega))
          rw [hf] at HXf
          obtain ⟨nr, rfl⟩ : ∃ nr : Nat, r = nr := ⟨r.toNat, by omega⟩
          have HPl1 : Hid (((plY zs A false 8 1 x : Int) + ((nr : Int) + 1)) = (plY zs A false 8 1 (x + 1) : Nat)) := by show _ = _; rw [HPx.out, Int.toNat_natCast]; omega
          have HPl2 : Hid (plY zs A false 8 1 (x + 1) ≤ 64) := by show _ ≤ _; rw [HPx.out, Int.toNat_natCast]; omega
          have hss : (W2.setCell ⟨w.heap.size + 1 + 1 + 1, 0, none⟩ (.int .i64 ((plY zs A false 8 1 x : Int) + ((nr : Int) + 1)))).heap.size = Wx.heap.size + 1 := by simpa using hz2
          have HSrc : Hid (SrcP ((W2.setCell ⟨w.heap.size + 1 + 1 + 1, 0, none⟩ (.int .i64 ((plY zs A false 8 1 x : Int) + ((nr : Int) + 1)))).alloc (.cells #[.int .i64 (nr : Int), .int .i64 lv] 66 (0, 0))) (some ⟨Wx.heap.size + 1, 0, none⟩) 1 [((nr : Int), lv)]) := by
            have := srcP_oneY (W2.setCell ⟨w.heap.size + 1 + 1 + 1, 0, none⟩ (.int .i64 ((plY zs A false 8 1 x : Int) + ((nr : Int) + 1)))) nr lv 66
            rw [hss] at this
            exact this
          clear hss
          have HRow : Hid (((W2.setCell ⟨w.heap.size + 1 + 1 + 1, 0, none⟩ (.int .i64 ((plY zs A false 8 1 x : Int) + ((nr : Int) + 1)))).alloc (.cells #[.int .i64 (nr : Int), .int .i64 lv] 66 (0, 0))).ownsRow (w.heap.size + 3 + 5) 66 2 (.slice av x cv) x (cellsQ (psY zs A false 8 x))) :=
            (ownsRow_barN (S := fun k => k = w.heap.size + 3) HRo.out (Bar.setCell (S := fun k => k = w.heap.size + 3) (Bar.refl _ W2) (p := ⟨w.heap.size + 1 + 1 + 1, 0, none⟩) (fun _ => rfl) _) (fun k e => by have := (HRo.out.lt k e).1; omega)).alloc _
          clear hf
          have c3 := HI2.out.nx
          have hbig : w.heap.size + 8 ≤ W2.heap.size := by omega
          gi_wp2_with fail
          refine ⟨trivial, fun _ => by omega, ?_⟩
          refine (CallsIn.inRound _ (callsIn_wide.2 (HXf.out _))).mono ?_
          rintro e w' ⟨rfl, rfl⟩
          gi_wp2_with (gi_at_builtin; refine wpListIn_append_pY rfl (.tmp 50) (.tmp 52) rfl (w.heap.size + 3 + 5) (.slice av x cv) x (psY zs A false 8 x) rfl HRow.out _ 1 1 [((nr : Int), lv)] rfl HSrc.out (fun e => nomatch e) (by omega) (by simp; omega) ?_; intro v5 w6 hap; have HAp := Lib.hid hap; clear hap; refine Hid.out ?_)
          refine Lib.hid ?_
          obtain ⟨n1, n2, n3, n4, n5⟩ := HI2.out.next rfl hcx hbig (r := nr) (lv := lv) HV6.out HRo.out HAp.out HPl1.out HPs.out HPl2.out HRn.out
          obtain ⟨a5, c5, rfl, _⟩ := rowP_own HAp.out.1
          obtain ⟨t0, t1, t2, t3⟩ := pair_cells (show w6.heap[w.heap.size + 1 + 1]? = _ from n1)
          have N := Lib.hid (And.intro n3 (And.intro (n4 w0.heap.size hb0.size) n5))
          clear n1 n3 n4 n5
          gi_wp2
          exact ⟨N.out.1, N.out.2.1, by show (gY zs A false 8 x).err = 0; rw [HGd.out], N.out.2.2⟩
      · have qe : (er != 0) = true := by simpa using he
        have hst := HI2.out.stop er rfl
        have HSt := Lib.hid (And.intro hst.1 (hst.2 he (Hre.out he)))
        clear hst
        gi_wp2
        exact HSt.out
    case hdone =>
      intro D x W' hD hmore hI hcu hDm
      subst hD
      have hov : (gY zs A false 8 x).over = true := by simpa using hmore
      have her : (gY zs A false 8 x).err = 0 := by
        false_or_by_contra
        rename_i h
        have := (gY_bad h).1
        rw [hov] at this
        cases this
      obtain ⟨i1, i2, i3, i4, ⟨v, i5, i6⟩, i7, i8⟩ := hI
      have hx65 : x < 65 := by have := plY_ge (zs := zs) (A := A) (fst := false) (b0 := 8) (p0 := 1) x; omega
      rw [remY_over d hx65 her hov] at i8
      have hmy := (gY_many her).1
      obtain ⟨av, cv, rfl, _⟩ := rowP_own i6
      have d0 : W'.cell? ⟨w.heap.size + 1 + 1, 0, none⟩ = some (.int .i64 d) := by simp [World.cell?, show W'.heap[w.heap.size + 1 + 1]? = _ from i5]
      have d1 : W'.cell? ⟨w.heap.size + 1 + 1, 1, none⟩ = some (.slice av x cv) := by simp [World.cell?, show W'.heap[w.heap.size + 1 + 1]? = _ from i5]
      obtain ⟨e0, e1, f0, f1⟩ := pair_cells i2
      obtain ⟨e2, f2⟩ := one_cell i3
      have k1 := two_set (u := .int .i64 d) (v := .slice av x cv) i2
      have k2 : ((W'.setCell ⟨w.heap.size, 0, none⟩ (.int .i64 d)).setCell ⟨w.heap.size, 1, none⟩ (.slice av x cv)).heap[w.heap.size + 1]? = some (.cells #[.int .i64 0] 28 (0, 0)) := by
        rw [heap_setCell_other _ _ _ _ (by simp), heap_setCell_other _ _ _ _ (by simp)]
        exact i3
      have HI6 := Lib.hid i6
      have HK1 := Lib.hid k1
      have HK2 := Lib.hid k2
      have HBar := Lib.hid i1
      have HR := Lib.hid i8
      have HCu := Lib.hid hcu
      clear i1 i2 i3 i4 i5 i6 i8 k1 k2 hI5 hcs5 hcu
      gi_wp2
      have m1 := heap_setCell_same _ (w.heap.size + 1) 0 _ _ (.int .i64 0) HK2.out
      have m0 := (heap_setCell_other ((W'.setCell ⟨w.heap.size, 0, none⟩ (.int .i64 d)).setCell ⟨w.heap.size, 1, none⟩ (.slice av x cv)) ⟨w.heap.size + 1, 0, none⟩ w.heap.size (.int .i64 0) (by simp)).trans HK1.out
      have mD : (((W'.setCell ⟨w.heap.size, 0, none⟩ (.int .i64 d)).setCell ⟨w.heap.size, 1, none⟩ (.slice av x cv)).setCell ⟨w.heap.size + 1, 0, none⟩ (.int .i64 0)).heap[w5.heap.size]? = some (.deferred (some [])) := by
        rw [heap_setCell_other _ _ _ _ (by simp; omega), heap_setCell_other _ _ _ _ (by simp; omega), heap_setCell_other _ _ _ _ (by simp; omega)]
        exact hDm
      have mB : Bar (fun k => k = c ∨ w.heap.size ≤ k ∧ k < w.heap.size + 2) W' (((W'.setCell ⟨w.heap.size, 0, none⟩ (.int .i64 d)).setCell ⟨w.heap.size, 1, none⟩ (.slice av x cv)).setCell ⟨w.heap.size + 1, 0, none⟩ (.int .i64 0)) :=
        Bar.setCell (S := fun k => k = c ∨ w.heap.size ≤ k ∧ k < w.heap.size + 2) (Bar.setCell (S := fun k => k = c ∨ w.heap.size ≤ k ∧ k < w.heap.size + 2) (Bar.setCell (S := fun k => k = c ∨ w.heap.size ≤ k ∧ k < w.heap.size + 2) (Bar.refl _ W') (p := ⟨w.heap.size, 0, none⟩) (fun _ => .inr (by simp)) _) (p := ⟨w.heap.size, 1, none⟩) (fun _ => .inr (by simp)) _) (p := ⟨w.heap.size + 1, 0, none⟩) (fun _ => .inr (by simp)) _
      have mC := (heap_setCell_other ((W'.setCell ⟨w.heap.size, 0, none⟩ (.int .i64 d)).setCell ⟨w.heap.size, 1, none⟩ (.slice av x cv)) ⟨w.heap.size + 1, 0, none⟩ c (.int .i64 0) (by simp; omega)).trans ((heap_setCell_other (W'.setCell ⟨w.heap.size, 0, none⟩ (.int .i64 d)) ⟨w.heap.size, 1, none⟩ c (.slice av x cv) (by simp; omega)).trans ((heap_setCell_other W' ⟨w.heap.size, 0, none⟩ c (.int .i64 d) (by simp; omega)).trans HCu.out.cur))
      have mR := ownsRow_barN HI6.out mB (fun k e => by have := (HI6.out.lt k e).1; omega)
      have mBw := HBar.out.trans mB (fun j hj e => by omega)
      generalize ((W'.setCell ⟨w.heap.size, 0, none⟩ (.int .i64 d)).setCell ⟨w.heap.size, 1, none⟩ (.slice av x cv)).setCell ⟨w.heap.size + 1, 0, none⟩ (.int .i64 0) = W6 at *
      refine leaves_one mD (fun W3 hb => ?_)
      have n0 := (hb.block w.heap.size (Array.getElem?_eq_some_iff.1 m0).1 (by omega)).trans m0
      have n1 := (hb.block (w.heap.size + 1) (Array.getElem?_eq_some_iff.1 m1).1 (by omega)).trans m1
      have nC := (hb.block c (Array.getElem?_eq_some_iff.1 mC).1 (by omega)).trans mC
      obtain ⟨q0, q1, _, _⟩ := pair_cells n0
      obtain ⟨q2, _⟩ := one_cell n1
      refine ⟨.tuple #[.agg #[.int .i64 d, .slice av x cv], .int .i64 0], by simp [results, Tryz.f35, go_sem, q0, q1, q2], .slice av x cv, ?_, ?_, ?_, ?_⟩
      · rw [← HR.out]
      · rw [← HR.out]
        simp only [psY_length]
        exact ownsRow_baseN (ownsRow_barN mR hb (fun k e => by have := (mR.lt k e).1; omega)) (by omega)
      · exact mBw.trans hb (fun j hj e => by omega)
      · intro _
        rw [nC, ← HR.out]
        simp only
        congr 4
        rw [offY_succ]
        omega
    case hstop =>
      intro D co x W' hD hmore hE hDm
      subst hD
      obtain ⟨rfl, er, he, hRe, hbar, r4, r5⟩ := hE
      gi_wp2
      refine leaves_one hDm (fun W3 hb => ?_)
      have n0 := (hb.block w.heap.size (Array.getElem?_eq_some_iff.1 r4).1 (by omega)).trans r4
      have n1 := (hb.block (w.heap.size + 1) (Array.getElem?_eq_some_iff.1 r5).1 (by omega)).trans r5
      obtain ⟨q0, q1, _, _⟩ := pair_cells n0
      obtain ⟨q2, _⟩ := one_cell n1
      refine ⟨.tuple #[.agg #[.int .i64 0, .slice none 0 0], .int .i64 er], by simp [results, Tryz.f35, go_sem, q0, q1, q2], .slice none 0 0, ?_, ?_, ?_, ?_⟩
      · rw [hRe]
        rfl
      · rw [hRe]
        exact World.ownsRow_nil _ _ _ _
      · exact hbar.trans hb (fun j hj e => by omega)
      · intro h0
        rw [hRe] at h0
        exact absurd h0 he
  · have hq : (ce != 0) = true := by simpa using hce
    rw [if_pos hce]
    refine callsIn_of_wp_marks Tryz.func35 rfl trivial ?_ rfl
    simp only [Tryz.ntmps35, List.size_toArray, List.length_cons, List.length_nil, Nat.reduceAdd, Nat.reduceSub, Array.replicate_succ, Array.replicate_zero, List.push_toArray, List.append_toArray, List.nil_append, List.cons_append]
    gi_wp2_with fail
    generalize ((w.alloc (.cells #[.int .i64 0, .slice none 0 0] 27 (0, 0))).alloc (.cells #[.int .i64 0] 28 (0, 0))).alloc (.cells #[.int .i64 0, .slice none 0 0] 27 (0, 0)) = w3 at *
    refine ⟨trivial, ?_⟩
    refine (callsIn_wide.2 HCd.out).mono ?_
    rintro e w4 ⟨rfl, bar4, hz4, hcu4⟩
    have k0 := (bar4.block w.heap.size (by omega) (by omega)).trans h30
    have k1 := (bar4.block (w.heap.size + 1) (by omega) (by omega)).trans h31
    have b4 := bar_of_below (S := fun k => k = c) hW3 |>.trans bar4 (fun j hj e => e)
    obtain ⟨t0, t1, t2, t3⟩ := pair_cells k0
    obtain ⟨t4, t5⟩ := one_cell k1
    have K0 := Lib.hid (two_set (u := .int .i64 0) (v := .slice none 0 0) k0)
    have K1 : Hid (((w4.setCell ⟨w.heap.size, 0, none⟩ (.int .i64 0)).setCell ⟨w.heap.size, 1, none⟩ (.slice none 0 0)).heap[w.heap.size + 1]? = some (.cells #[.int .i64 0] 28 (0, 0))) := by
      show _ = _
      rw [heap_setCell_other _ _ _ _ (by simp), heap_setCell_other _ _ _ _ (by simp)]
      exact k1
    have B4 := Lib.hid (Bar.setCell (S := fun k => k = c) (Bar.setCell (S := fun k => k = c) (Bar.setCell (S := fun k => k = c) b4 (p := ⟨w.heap.size, 0, none⟩) (fun h => absurd h (by simp)) (.int .i64 0)) (p := ⟨w.heap.size, 1, none⟩) (fun h => absurd h (by simp)) (.slice none 0 0)) (p := ⟨w.heap.size + 1, 0, none⟩) (fun h => absurd h (by simp)) (.int .i64 ce))
    clear hz4 hcu4 bar4 h30 h31 h32 h3z hW3 hcur HCd k0 k1 b4
    gi_wp2
    have m1 := heap_setCell_same _ (w.heap.size + 1) 0 _ _ (.int .i64 ce) K1.out
    have m0 := (heap_setCell_other ((w4.setCell ⟨w.heap.size, 0, none⟩ (.int .i64 0)).setCell ⟨w.heap.size, 1, none⟩ (.slice none 0 0)) ⟨w.heap.size + 1, 0, none⟩ w.heap.size (.int .i64 ce) (by simp)).trans K0.out
    obtain ⟨q0, q1, _, _⟩ := pair_cells m0
    obtain ⟨q2, _⟩ := one_cell m1
    refine leaves_none ⟨.tuple #[.agg #[.int .i64 0, .slice none 0 0], .int .i64 ce], by simp [results, Tryz.f35, go_sem, q0, q1, q2], .slice none 0 0, rfl, World.ownsRow_nil _ _ _ _, B4.out, fun h => absurd h hce⟩

theorem yblock_any {n₁ : Nat} {w0 w : World} {sv : Value} {zs : List UInt8} (hB : Byt n₁ w0 sv zs) (hn1 : n₁ ≤ w0.heap.size) (hl : zs.length ≤ 1000000) (hT : Lay8 w0) (hb0 : Below w0.heap.size w0 w) (c A : Nat) (hA : (A : Int) ≤ 9223372036854775807) (hc : w0.heap.size ≤ c) (hcur : w.heap[c]? = some (curO sv A)) (intra : Bool) :
    Calls Tryz.prog 35 #[.pointer (some ⟨c, 0, none⟩), .bool intra] w fun e w' => BRes w c sv A (gotY zs A intra) e w' := by
  cases intra with
  | false => exact callsIn_wide.1 (yblock_no 12 (by omega) hB hn1 hl hT hb0 c A hA hc hcur)
  | true => exact callsIn_wide.1 (yblock_yes 12 (by omega) hB hn1 hl hT hb0 c A hA hc hcur)

theorem pairsY_badG (zs : List UInt8) (A : Nat) (dc : Int) : ∀ (f bits : Nat) (first : Bool) (place : Nat) (acc : List (Int × Int)), (pairsY zs A dc f bits first place acc).err ≠ 0 → pairsY zs A dc f bits first place acc = badY (pairsY zs A dc f bits first place acc).err
  | 0, bits, first, place, acc, h => rfl
  | f + 1, bits, first, place, acc, h => by
    unfold pairsY at h ⊢
    by_cases h1 : (got first zs ((A + bits : Nat) : Int)).err ≠ 0
    · rw [if_pos h1]; rfl
    · rw [if_neg h1] at h ⊢
      by_cases h2 : (got first zs ((A + bits : Nat) : Int)).over = true
      · rw [if_pos h2] at h; exact absurd rfl h
      · rw [if_neg h2] at h ⊢
        by_cases h3 : 63 < (place : Int) + (got first zs ((A + bits : Nat) : Int)).run
        · rw [if_pos h3]; rfl
        · rw [if_neg h3] at h ⊢
          exact pairsY_badG zs A dc f _ _ _ _ h
theorem gotY_badG {zs : List UInt8} {x : Int} {intra : Bool} (h : (gotY zs x intra).err ≠ 0) : gotY zs x intra = badY (gotY zs x intra).err := by
  unfold gotY at h ⊢
  by_cases h0 : x < 0
  · rw [if_pos h0]; rfl
  · rw [if_neg h0] at h ⊢
    cases intra with
    | false =>
      simp only [Bool.false_eq_true, if_false] at h ⊢
      exact pairsY_badG _ _ _ _ _ _ _ _ h
    | true =>
      simp only [if_true] at h ⊢
      by_cases h1 : 8 * zs.length < x.toNat + 8
      · rw [if_pos h1]; rfl
      · rw [if_neg h1] at h ⊢
        by_cases h2 : dcOk (num zs x.toNat 8) = false
        · rw [if_pos h2]; rfl
        · rw [if_neg h2] at h ⊢
          exact pairsY_badG _ _ _ _ _ _ _ _ h
theorem gotY_manyG {zs : List UInt8} {A : Nat} {intra : Bool} (h : (gotY zs (A : Int) intra).err = 0) : 0 ≤ (gotY zs (A : Int) intra).many ∧ (A : Int) + (gotY zs (A : Int) intra).many ≤ 8 * zs.length := by
  obtain ⟨_, h2, h3⟩ := got_mayY h
  exact ⟨by omega, h3⟩

set_option maxRecDepth 100000 in
set_option maxHeartbeats 2000000 in
theorem yGet_any {n₁ : Nat} {w : World} {sv : Value} {zs : List UInt8} (hB : Byt n₁ w sv zs) (hn1 : n₁ ≤ w.heap.size) (hl : zs.length ≤ 1000000) (hT : Lay8 w) (x : Int) (intra : Bool) (hx : x ≤ 9223372036854775807) :
    Calls Tryz.prog 12 #[sv, .int .i64 x, .bool intra] w fun e w' => ∃ v, e = .returned (.tuple #[blkV (gotY zs x intra).dc v, .int .i64 (gotY zs x intra).many, .int .i64 (gotY zs x intra).err]) ∧ w'.ownsRow w.heap.size 66 2 v (gotY zs x intra).ps.length (cellsQ (gotY zs x intra).ps) ∧ Below w.heap.size w w' := by
  by_cases h0 : x < 0
  · have e : gotY zs x intra = badY 3 := by unfold gotY; rw [if_pos h0]
    rw [e]
    have h1 := World.alloc_heap_new w (.cells #[.int .i64 0, .slice none 0 0] 27 (0, 0))
    obtain ⟨e0, e1, f0, f1⟩ := pair_cells h1
    obtain ⟨a, cap, rfl, _, _⟩ := hB
    have hb1 : Below w.heap.size w (w.alloc (.cells #[.int .i64 0, .slice none 0 0] 27 (0, 0))) := (Below.refl _ w).alloc (Nat.le_refl _) _
    go_enter Tryz.func12, Tryz.ntmps12
    go_wp2_with fail
    refine bodyPost_ret (v := .tuple #[.agg #[.int .i64 0, .slice none 0 0], .int .i64 0, .int .i64 3]) (by simp [results, Tryz.f12, go_sem]) rfl ⟨.slice none 0 0, rfl, World.ownsRow_nil _ _ _ _, ?_⟩
    exact hb1
  · obtain ⟨A, rfl⟩ : ∃ A : Nat, x = A := ⟨x.toNat, by omega⟩
    have hb2 : Below w.heap.size w ((w.alloc (.cells #[.int .i64 0, .slice none 0 0] 27 (0, 0))).alloc (curO sv A)) := ((Below.refl _ w).alloc (Nat.le_refl _) _).alloc (by simp) _
    have hc2 : ((w.alloc (.cells #[.int .i64 0, .slice none 0 0] 27 (0, 0))).alloc (curO sv A)).heap[w.heap.size + 1]? = some (curO sv A) := heap_new _ (by simp) _
    have hr2 : ((w.alloc (.cells #[.int .i64 0, .slice none 0 0] 27 (0, 0))).alloc (curO sv A)).heap[w.heap.size]? = some (.cells #[.int .i64 0, .slice none 0 0] 27 (0, 0)) := heap_keep (heap_new _ rfl _) _
    have hz2 : ((w.alloc (.cells #[.int .i64 0, .slice none 0 0] 27 (0, 0))).alloc (curO sv A)).heap.size = w.heap.size + 2 := by simp
    have HBk := Lib.hid (yblock_any hB hn1 hl hT hb2 (w.heap.size + 1) A hx (by omega) hc2 intra)
    have hmany := gotY_manyG (zs := zs) (A := A) (intra := intra)
    have hbad := gotY_badG (zs := zs) (x := (A : Int)) (intra := intra)
    generalize gotY zs (A : Int) intra = R at *
    have hA0 : (0 : Int) ≤ A := by omega
    obtain ⟨a, cap, rfl, hzl, _⟩ := hB
    by_cases he : R.err = 0
    · obtain ⟨rdc, rps, rmany, rerr⟩ := R
      simp only at he hmany hbad HBk ⊢
      subst he
      obtain ⟨m1, m2⟩ := hmany rfl
      clear hbad hmany
      go_enter Tryz.func12, Tryz.ntmps12
      go_wp2_with fail
      generalize (w.alloc (.cells #[.int .i64 0, .slice none 0 0] 27 (0, 0))).alloc (curO (.slice a zs.length cap) A) = w2 at *
      refine HBk.out.mono ?_
      rintro e w3 ⟨v, rfl, hrow, hbar, hcu⟩
      obtain ⟨av, cv, rfl, _⟩ := rowP_own hrow
      have hcu3 := hcu rfl
      have hr3 := (hbar.block w.heap.size (by omega) (by omega)).trans hr2
      have hsz3 := hbar.size
      have hB3 := hb2.trans (hbar.below (B := w.heap.size) (by omega) (fun k hk e => by omega))
      have hn4 := World.alloc_heap_new w3 (.cells #[.int .i64 rdc, .slice av rps.length cv] 27 (0, 0))
      obtain ⟨p0, p1, _, _⟩ := pair_cells hn4
      obtain ⟨e0, e1, f0, f1⟩ := pair_cells (heap_keep hr3 (.cells #[.int .i64 rdc, .slice av rps.length cv] 27 (0, 0)))
      obtain ⟨d0, d1, _, _⟩ := pair_cells (heap_keep hcu3 (.cells #[.int .i64 rdc, .slice av rps.length cv] 27 (0, 0)))
      have hsz4 : w3.heap.size < (w3.alloc (.cells #[.int .i64 rdc, .slice av rps.length cv] 27 (0, 0))).heap.size := by simp
      have hr4 := heap_keep hr3 (.cells #[.int .i64 rdc, .slice av rps.length cv] 27 (0, 0))
      have HRow := Lib.hid (hrow.alloc (.cells #[.int .i64 rdc, .slice av rps.length cv] 27 (0, 0)))
      have HB4 := Lib.hid (hB3.alloc (by omega) (.cells #[.int .i64 rdc, .slice av rps.length cv] 27 (0, 0)))
      have hwr : IntKind.i64.wrap ((A : Int) + rmany - A) = rmany := by rw [IntKind.wrap_i64]; omega
      have hlt4 : w.heap.size < (w3.alloc (.cells #[.int .i64 rdc, .slice av rps.length cv] 27 (0, 0))).heap.size := by simp; omega
      clear hrow hbar hcu hcu3 hr3 hB3 hn4 HBk
      go_wp2_with fail
      generalize w3.alloc (.cells #[.int .i64 rdc, .slice av rps.length cv] 27 (0, 0)) = w4 at *
      go_region
      all_goals
        go_wp2
        refine bodyPost_ret (v := .tuple #[.agg #[.int .i64 rdc, .slice av rps.length cv], .int .i64 rmany, .int .i64 0]) (by simp [results, Tryz.f12, go_sem, e0, e1]) rfl ⟨.slice av rps.length cv, rfl, ?_, ?_⟩
        · have hb := Bar.setCell (S := fun k => k = w.heap.size) (Bar.setCell (S := fun k => k = w.heap.size) ((Bar.refl (fun k => k = w.heap.size) w4).drew) (p := ⟨w.heap.size, 0, none⟩) (fun _ => rfl) (.int .i64 rdc)) (p := ⟨w.heap.size, 1, none⟩) (fun _ => rfl) (.slice av rps.length cv)
          exact ownsRow_baseN (ownsRow_barN HRow.out hb (fun k e => by have := (HRow.out.lt k e).1; omega)) (by omega)
        · exact ((HB4.out.drew).setCell (p := ⟨w.heap.size, 0, none⟩) (Nat.le_refl _) _).setCell (p := ⟨w.heap.size, 1, none⟩) (Nat.le_refl _) _
    · have hq : (R.err != 0) = true := by simpa using he
      obtain ⟨er, her⟩ : ∃ er, R.err = er := ⟨_, rfl⟩
      rw [hbad he, her]
      rw [hbad he, her] at HBk
      rw [her] at hq
      show Calls _ _ _ _ fun e w' => ∃ v, e = .returned (.tuple #[.agg #[.int .i64 0, v], .int .i64 0, .int .i64 er]) ∧ w'.ownsRow w.heap.size 66 2 v 0 [] ∧ _
      clear hbad hmany he her
      go_enter Tryz.func12, Tryz.ntmps12
      go_wp2_with fail
      generalize (w.alloc (.cells #[.int .i64 0, .slice none 0 0] 27 (0, 0))).alloc (curO (.slice a zs.length cap) A) = w2 at *
      refine (show Calls Tryz.prog _ _ _ (fun e w' => ∃ v, e = .returned (.tuple #[.agg #[.int .i64 0, v], .int .i64 er]) ∧ w'.ownsRow w2.heap.size 66 2 v 0 (cellsQ []) ∧ Bar (fun k => k = w.heap.size + 1) w2 w') from HBk.out.mono (fun e w' h => by obtain ⟨v, h1, h2, h3, _⟩ := h; exact ⟨v, h1, h2, h3⟩)).mono ?_
      rintro e w3 ⟨v, rfl, hrow, hbar⟩
      obtain ⟨av, cv, rfl, _⟩ := rowP_own hrow
      have hr3 := (hbar.block w.heap.size (by omega) (by omega)).trans hr2
      have hsz3 := hbar.size
      have hB3 := hb2.trans (hbar.below (B := w.heap.size) (by omega) (fun k hk e => by omega))
      have hr4 := heap_keep hr3 (.cells #[.int .i64 0, .slice av 0 cv] 27 (0, 0))
      obtain ⟨e0, e1, f0, f1⟩ := pair_cells hr4
      have HB4 := Lib.hid (hB3.alloc (by omega) (.cells #[.int .i64 0, .slice av 0 cv] 27 (0, 0)))
      have hlt4 : w.heap.size < (w3.alloc (.cells #[.int .i64 0, .slice av 0 cv] 27 (0, 0))).heap.size := by simp; omega
      clear hrow hbar hr3 hB3 HBk
      go_wp2_with fail
      generalize w3.alloc (.cells #[.int .i64 0, .slice av 0 cv] 27 (0, 0)) = w4 at *
      refine bodyPost_ret (v := .tuple #[.agg #[.int .i64 0, .slice none 0 0], .int .i64 0, .int .i64 er]) (by simp [results, Tryz.f12, go_sem, e0, e1]) rfl ⟨.slice none 0 0, rfl, World.ownsRow_nil _ _ _ _, ?_⟩
      exact (HB4.out.setCell (p := ⟨w.heap.size, 0, none⟩) (Nat.le_refl _) _).setCell (p := ⟨w.heap.size, 1, none⟩) (Nat.le_refl _) _

end Go.Proofs.YtbcfiafgolcbpaaGreatDoor
