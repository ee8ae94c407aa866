/- picture: spare bytes read from a cursor, and the iterator that tells them and keeps its error in a field, as a range takes it. -/
import Derived.Test.YtlcaboddkcpgaaaDoorHTake
import Derived.Test.YtlcaboddkcpgaaaDoorSeqM
namespace Go.Proofs.YtlcaboddkcpgaaaDoor
open Go.RowKit Go.Shelf
set_option linter.unusedVariables false
attribute [local go_sem] Oper.semAt_some

/-- whether there is one more byte behind so many; why not -/
def moreH (zs : List UInt8) (A t : Nat) : Prop := t < 32 ∧ A + 9 ≤ 8 * zs.length ∧ bt zs A = 1
def endH (zs : List UInt8) (A t : Nat) : Int := if 8 * zs.length ≤ A then 5 else if bt zs A = 0 then 0 else if t = 32 then 4 else 5
abbrev spO (c : Nat) (er : Int) : Obj := .cells #[.pointer (some ⟨c, 0, none⟩), .int .i64 er] 80 (0, 0)
/-- the cursor and the spares have moved, nothing else -/
structure SpAt (w0 w : World) (c s : Nat) (sv : Value) (n m er : Int) : Prop where
  bar : Bar (fun k => k = c ∨ k = s) w0 w
  cur : w.heap[c]? = some (curH sv n m)
  sp : w.heap[s]? = some (spO c er)
  size : w.heap.size = w0.heap.size
theorem SpAt.move {w0 w w' : World} {c s : Nat} {sv : Value} {n m er n' m' : Int} (h : SpAt w0 w c s sv n m er) (hcs : c ≠ s) (k : CurAt w w' c sv n' m') : SpAt w0 w' c s sv n' m' er :=
  ⟨h.bar.trans k.bar (fun _ _ e => .inl e), k.cur, (k.bar.block s (Array.getElem?_eq_some_iff.1 h.sp).1 (fun e => hcs e.symm)).trans h.sp, k.size.trans h.size⟩
theorem SpAt.err {w0 w : World} {c s : Nat} {sv : Value} {n m er : Int} (h : SpAt w0 w c s sv n m er) (hcs : c ≠ s) (v : Int) : SpAt w0 (w.setCell ⟨s, 1, none⟩ (.int .i64 v)) c s sv n m v :=
  ⟨Bar.setCell (S := fun k => k = c ∨ k = s) h.bar (p := ⟨s, 1, none⟩) (fun _ => .inr rfl) _, (heap_setCell_other _ _ _ _ (by simpa using hcs)).trans h.cur, by rw [heap_setCell_same _ s 1 _ _ _ h.sp]; rfl, by simpa using h.size⟩
theorem SpAt.cells {w0 w : World} {c s : Nat} {sv : Value} {n m er : Int} (h : SpAt w0 w c s sv n m er) : w.cell? ⟨s, 0, none⟩ = some (.pointer (some ⟨c, 0, none⟩)) ∧ w.cell? ⟨s, 1, none⟩ = some (.int .i64 er) ∧ w.frozen? ⟨s, 1, none⟩ = false ∧ s < w.heap.size :=
  ⟨by simp [World.cell?, h.sp], by simp [World.cell?, h.sp], Lib.frozen_of_heap h.sp 1, (Array.getElem?_eq_some_iff.1 h.sp).1⟩
theorem SpAt.refl {w : World} {c s : Nat} {sv : Value} {n m er : Int} (h : w.heap[c]? = some (curH sv n m)) (k : w.heap[s]? = some (spO c er)) : SpAt w w c s sv n m er := ⟨Bar.refl _ w, h, k, rfl⟩
theorem SpAt.trans {w0 w w' : World} {c s : Nat} {sv : Value} {n m er n' m' er' : Int} (h : SpAt w0 w c s sv n m er) (k : SpAt w w' c s sv n' m' er') : SpAt w0 w' c s sv n' m' er' := ⟨h.bar.trans k.bar (fun _ _ e => e), k.cur, k.sp, k.size.trans h.size⟩

section
variable {n₁ : Nat} {w0 w : World} {sv : Value} {zs : List UInt8} (hB : Byt n₁ w0 sv zs) (hn1 : n₁ ≤ w0.heap.size) (hl : zs.length ≤ 1000000) (c : Nat) (hc : w0.heap.size ≤ c)
include hB hn1 hl hc

theorem hnum_ok (hb0 : Below w0.heap.size w0 w) (A m : Nat) (hm0 : 0 < m) (hm : m ≤ 30) (hA : A + m ≤ 8 * zs.length) (W0 : Int) (hcur : w.heap[c]? = some (curH sv A W0)) :
    Calls Tryd.prog 51 #[.pointer (some ⟨c, 0, none⟩), .int .i64 (m : Nat)] w fun e w' => e = .returned (.tuple #[.int .i64 (num zs A m : Nat), .int .i64 0]) ∧ CurAt w w' c sv ((A : Int) + m) 0 := by
  refine (hnumber_any hB hn1 hb0 c hc hl A m (by omega) hm W0 hcur).mono ?_
  rintro e w' (⟨_, h⟩ | ⟨h, _⟩)
  · exact h
  · omega
theorem hnum_few (hb0 : Below w0.heap.size w0 w) (A m : Nat) (hm0 : 0 < m) (hm : m ≤ 30) (hA : (A : Int) ≤ 9223372036854775807) (hA2 : 8 * zs.length < A + m) (W0 : Int) (hcur : w.heap[c]? = some (curH sv A W0)) :
    Calls Tryd.prog 51 #[.pointer (some ⟨c, 0, none⟩), .int .i64 (m : Nat)] w fun e w' => e = .returned (.tuple #[.int .i64 0, .int .i64 5]) ∧ ∃ A' W', CurAt w w' c sv A' W' := by
  refine (hnumber_any hB hn1 hb0 c hc hl A m hA hm W0 hcur).mono ?_
  rintro e w' (⟨h, _⟩ | ⟨_, A', W', h1, h2⟩)
  · omega
  · rcases h1 with ⟨h, _⟩ | ⟨_, h⟩
    · omega
    · exact ⟨h, A', W', h2⟩

/-- what behind answers -/
def BehH (w : World) (c s : Nat) (sv : Value) (zs : List UInt8) (A t : Nat) (e : Ending) (w' : World) : Prop :=
  (moreH zs A t ∧ e = .returned (.tuple #[.int .u8 (num zs (A + 1) 8 : Nat), .bool true]) ∧ ∃ W', SpAt w w' c s sv ((A + 9 : Nat) : Int) W' 0) ∨
  (¬ moreH zs A t ∧ e = .returned (.tuple #[.int .u8 0, .bool false]) ∧ ∃ A' W', SpAt w w' c s sv A' W' (endH zs A t) ∧ (endH zs A t = 0 → A' = ((A + 1 : Nat) : Int)))

set_option maxRecDepth 100000 in
set_option maxHeartbeats 1000000 in
theorem hbehind_any (hb0 : Below w0.heap.size w0 w) (s A t : Nat) (hcs : c ≠ s) (hs : w0.heap.size ≤ s) (hA : A ≤ 8 * zs.length) (ht : t ≤ 32) (W0 : Int) (hcur : w.heap[c]? = some (curH sv A W0)) (hsp : w.heap[s]? = some (spO c 0)) :
    Calls Tryd.prog 61 #[.pointer (some ⟨s, 0, none⟩), .int .i64 (t : Nat)] w fun e w' => BehH w c s sv zs A t e w' := by
  have hS := SpAt.refl hcur hsp
  obtain ⟨s0, s1, f1, hlt⟩ := hS.cells
  have HS := Lib.hid hS
  have hbt := bt_lt2 zs A
  by_cases h1 : 8 * zs.length ≤ A
  · have HN := Lib.hid (hnum_few hB hn1 hl c hc hb0 A 1 (by omega) (by omega) (by omega) (by omega) W0 hcur)
    have hm : ¬ moreH zs A t := fun h => by have := h.2.1; omega
    have he : endH zs A t = 5 := if_pos h1
    clear hS hB hcur hsp hb0
    go_enter Tryd.func61, Tryd.ntmps61
    go_wp2_with fail
    refine HN.out.mono ?_
    rintro e w2 ⟨rfl, A', W', hC2⟩
    have hS2 := HS.out.move hcs hC2
    have HS3 := Lib.hid (hS2.err hcs 5)
    obtain ⟨s0, s1, f1, hlt⟩ := hS2.cells
    clear hS2 hC2
    go_wp2_with fail
    go_ret2
    exact .inr ⟨hm, rfl, A', W', by rw [he]; exact HS3.out, fun h => by rw [he] at h; cases h⟩
  · have HN := Lib.hid (hnum_ok hB hn1 hl c hc hb0 A 1 (by omega) (by omega) (by omega) W0 hcur)
    have hn : num zs A 1 = bt zs A := by simp [num]
    rw [hn] at HN
    by_cases h2 : bt zs A = 0
    · rw [h2] at HN
      have hm : ¬ moreH zs A t := fun h => by have := h.2.2; omega
      have he : endH zs A t = 0 := by unfold endH; rw [if_neg h1, if_pos h2]
      clear hS hB hcur hsp hb0 hn hbt
      go_enter Tryd.func61, Tryd.ntmps61
      go_wp2_with fail
      refine HN.out.mono ?_
      rintro e w2 ⟨rfl, hC2⟩
      have HS2 := Lib.hid (HS.out.move hcs hC2)
      clear hC2
      go_wp2_with fail
      go_ret2
      exact .inr ⟨hm, rfl, _, _, by rw [he]; exact HS2.out, fun _ => rfl⟩
    · have h2' : bt zs A = 1 := by omega
      rw [h2'] at HN
      by_cases h3 : t = 32
      · have q3 : ((t : Int) == 32) = true := by simpa using (show (t : Int) = 32 by omega)
        have hm : ¬ moreH zs A t := fun h => by have := h.1; omega
        have he : endH zs A t = 4 := by unfold endH; rw [if_neg h1, if_neg h2, if_pos h3]
        clear hS hB hcur hsp hb0 hn hbt h3
        go_enter Tryd.func61, Tryd.ntmps61
        go_wp2_with fail
        refine HN.out.mono ?_
        rintro e w2 ⟨rfl, hC2⟩
        have hS2 := HS.out.move hcs hC2
        have HS3 := Lib.hid (hS2.err hcs 4)
        obtain ⟨s0, s1, f1, hlt⟩ := hS2.cells
        clear hC2 hS2
        go_wp2_with fail
        go_ret2
        exact .inr ⟨hm, rfl, _, _, by rw [he]; exact HS3.out, fun h => by rw [he] at h; cases h⟩
      · have q3 : ((t : Int) == 32) = false := by simpa using (show ¬ (t : Int) = 32 by omega)
        have HT := Lib.hid (fun (w2 : World) (W' : Int) (h : CurAt w w2 c sv ((A : Int) + (1 : Nat)) W') => hb0.trans (h.bar.below hb0.size (fun k hk e => by omega)))
        by_cases h4 : A + 9 ≤ 8 * zs.length
        · have HN8 := Lib.hid (fun (w2 : World) (W' : Int) (h : CurAt w w2 c sv ((A : Int) + (1 : Nat)) W') => hnum_ok hB hn1 hl c hc (HT.out w2 W' h) (A + 1) 8 (by omega) (by omega) (by omega) W' h.cur)
          have hm : moreH zs A t := ⟨by omega, h4, h2'⟩
          have hx := num_lt zs (A + 1) 8
          have hw : IntKind.u8.wrap (num zs (A + 1) 8 : Int) = (num zs (A + 1) 8 : Int) := by rw [IntKind.wrap_u8]; omega
          obtain ⟨x, hxx⟩ : ∃ x, num zs (A + 1) 8 = x := ⟨_, rfl⟩
          have HX := Lib.hid hxx
          rw [hxx] at hx hw HN8
          clear hxx
          clear hS hB hcur hsp hb0 hn hbt h3
          go_enter Tryd.func61, Tryd.ntmps61
          go_wp2_with fail
          refine HN.out.mono ?_
          rintro e w2 ⟨rfl, hC2⟩
          have HN9 := Lib.hid (HN8.out w2 0 hC2)
          have hS2 := HS.out.move hcs hC2
          have HS2 := Lib.hid hS2
          obtain ⟨s0, s1, f1, hlt⟩ := hS2.cells
          clear hC2 hS2 HN8
          go_wp2_with fail
          refine HN9.out.mono ?_
          rintro e w3 ⟨rfl, hC3⟩
          have hS3 := HS2.out.move hcs hC3
          have HS4 := Lib.hid (hS3.err hcs 0)
          obtain ⟨s0, s1, f1, hlt⟩ := hS3.cells
          clear hC3 hS3
          go_wp2_with fail
          go_ret2
          exact .inl ⟨hm, by rw [HX.out]; rfl, 0, HS4.out⟩
        · have HN8 := Lib.hid (fun (w2 : World) (W' : Int) (h : CurAt w w2 c sv ((A : Int) + (1 : Nat)) W') => hnum_few hB hn1 hl c hc (HT.out w2 W' h) (A + 1) 8 (by omega) (by omega) (by omega) (by omega) W' h.cur)
          have hm : ¬ moreH zs A t := fun h => h4 h.2.1
          have he : endH zs A t = 5 := by unfold endH; rw [if_neg h1, if_neg h2, if_neg h3]
          clear hS hB hcur hsp hb0 hn hbt h3
          go_enter Tryd.func61, Tryd.ntmps61
          go_wp2_with fail
          refine HN.out.mono ?_
          rintro e w2 ⟨rfl, hC2⟩
          have HN9 := Lib.hid (HN8.out w2 0 hC2)
          have hS2 := HS.out.move hcs hC2
          have HS2 := Lib.hid hS2
          obtain ⟨s0, s1, f1, hlt⟩ := hS2.cells
          clear hC2 hS2 HN8
          go_wp2_with fail
          refine HN9.out.mono ?_
          rintro e w3 ⟨rfl, A', W', hC3⟩
          have hS3 := HS2.out.move hcs hC3
          have HS4 := Lib.hid (hS3.err hcs 5)
          obtain ⟨s0, s1, f1, hlt⟩ := hS3.cells
          clear hC3 hS3
          go_wp2_with fail
          go_ret2
          exact .inr ⟨hm, rfl, A', W', by rw [he]; exact HS4.out, fun h => by rw [he] at h; cases h⟩
end

/-! ### the spare bytes, as a range takes them -/
/-- a round keeps what lay below m, the cursor, the spares, and the iterator's box -/
structure KpH (m c s bc : Nat) (A B : World) : Prop where
  below : Below m A B
  cur : B.heap[c]? = A.heap[c]?
  sp : B.heap[s]? = A.heap[s]?
  box : B.heap[bc]? = A.heap[bc]?
theorem KpH.t {m c s bc : Nat} {A B C : World} (h : KpH m c s bc A B) (k : KpH m c s bc B C) : KpH m c s bc A C := ⟨h.below.trans k.below, k.cur.trans h.cur, k.sp.trans h.sp, k.box.trans h.box⟩
/-- what the iterator hands over -/
abbrev encH (zs : List UInt8) (A x : Nat) : Array Value := #[.int .u8 (num zs (A + 9 * x + 1) 8 : Nat)]
/-- the cursor, the spares and the box, as the iterator finds them when so many have come and it goes on -/
structure CurI (w0 : World) (c s bc : Nat) (sv : Value) (n m er : Int) (W : World) : Prop where
  below : Below w0.heap.size w0 W
  cur : W.heap[c]? = some (curH sv n m)
  sp : W.heap[s]? = some (spO c er)
  box : W.heap[bc]? = some (.cells #[.pointer (some ⟨s, 0, none⟩)] 89 (0, 0))
/-- how it stands when so many have come: one more, or the end -/
def CurX (w0 : World) (c s bc : Nat) (sv : Value) (zs : List UInt8) (A x : Nat) (W : World) : Prop :=
  ∃ n m er, CurI w0 c s bc sv n m er W ∧ (moreH zs (A + 9 * x) x → n = ((A + 9 * x + 9 : Nat) : Int) ∧ er = 0) ∧ (¬ moreH zs (A + 9 * x) x → er = endH zs (A + 9 * x) x ∧ (er = 0 → n = ((A + 9 * x + 1 : Nat) : Int)))

theorem hall_any (s : Nat) (w : World) :
    Calls Tryd.prog 52 #[.pointer (some ⟨s, 0, none⟩)] w fun e w' => e = .returned (.func (.func 60) #[] #[.pointer (some ⟨w.heap.size, 0, none⟩)]) ∧
      w' = w.alloc (.cells #[.pointer (some ⟨s, 0, none⟩)] 89 (0, 0)) := by
  go_enter Tryd.func52, Tryd.ntmps52
  go_wp2_with fail
  go_ret
  exact ⟨by simp, rfl⟩

set_option maxRecDepth 100000 in
set_option maxHeartbeats 2000000 in
theorem hall1_in (n : Nat) (hn : 4 ≤ n) (l c s bc A : Nat) (sv : Value) (zs : List UInt8) (n₁ : Nat) (w0 : World) (hB : Byt n₁ w0 sv zs) (hn1 : n₁ ≤ w0.heap.size) (hl : zs.length ≤ 1000000)
    (hA : A ≤ 8 * zs.length) (hc : w0.heap.size ≤ c) (hs : w0.heap.size ≤ s) (hcs : c ≠ s) (hcb : c ≠ bc) (hsb : s ≠ bc) (J Jx : Nat → World → Prop)
    (hJ : ∀ x X Y, J x X → Bar (fun k => k = c ∨ k = s) X Y → J x Y) (hJx : ∀ x X Y, Jx x X → Bar (fun k => k = c ∨ k = s) X Y → Jx x Y)
    (hY : ∀ x W1, J x W1 → CurX w0 c s bc sv zs A x W1 → moreH zs (A + 9 * x) x → YieldAt Fence.wide (n - 1) Tryd.prog l (encH zs A x) W1 fun e W' =>
      (e = .returned (.bool true) ∧ True ∧ J (x + 1) W' ∧ KpH w0.heap.size c s bc W1 W') ∨ (e = .returned (.bool false) ∧ Jx x W'))
    (W : World) (m : Int) (hcur : CurI w0 c s bc sv A m 0 W) (h0 : J 0 W) :
    CallsIn Fence.wide n Tryd.prog 60 #[.func (.yield l) #[] #[], .pointer (some ⟨bc, 0, none⟩)] W fun e W' => (∃ v, e = .returned v) ∧
      ((∃ x, ¬ moreH zs (A + 9 * x) x ∧ J x W' ∧ CurX w0 c s bc sv zs A x W') ∨ (∃ x, moreH zs (A + 9 * x) x ∧ Jx x W')) := by
  have HBh := Lib.hid (fun (W : World) (hb : Below w0.heap.size w0 W) (A t : Nat) (hA : A ≤ 8 * zs.length) (ht : t ≤ 32) (W0 : Int) (hcur : W.heap[c]? = some (curH sv A W0)) (hsp : W.heap[s]? = some (spO c 0)) => hbehind_any hB hn1 hl c hc hb s A t hcs hs hA ht W0 hcur hsp)
  have HY := Lib.hid hY
  have HJ := Lib.hid hJ
  clear hY hJ hJx hB
  refine callsIn_of_wp Tryd.func60 rfl trivial ?_ rfl
  simp only [Tryd.ntmps60, List.size_toArray, List.length_cons, List.length_nil, Nat.reduceAdd, Nat.reduceSub, Array.replicate_succ, Array.replicate_zero, List.push_toArray, List.append_toArray, List.nil_append, List.cons_append]
  gi_wp2
  gi_loopw [3] (fun t wr => ∃ (x : Nat) (m : Int), t = .int .i64 (x : Nat) ∧ x ≤ 32 ∧ A + 9 * x ≤ 8 * zs.length ∧ J x wr ∧ CurI w0 c s bc sv ((A + 9 * x : Nat) : Int) m 0 wr) (fun t _ => 40 - (intOf t).toNat)
  case atStart => exact ⟨0, m, rfl, by omega, by omega, h0, hcur⟩
  case round =>
    obtain ⟨x, m, rfl, hx, hAx, hj, hcs1⟩ := hrel
    have cb : wr.cell? ⟨bc, 0, none⟩ = some (.pointer (some ⟨s, 0, none⟩)) := by simp [World.cell?, hcs1.box]
    have hbx2 : bc < wr.heap.size := (Array.getElem?_eq_some_iff.1 hcs1.box).1
    have HCs := Lib.hid hcs1
    have HJw := Lib.hid hj
    have HBx := Lib.hid (HBh.out wr hcs1.below (A + 9 * x) x hAx hx m hcs1.cur hcs1.sp)
    clear hcs1 hj
    gi_wp2_with fail
    refine ⟨trivial, fun _ => by omega, ?_⟩
    refine (callsIn_wide.2 HBx.out).mono ?_
    rintro e w2 (⟨hm, rfl, W', hS⟩ | ⟨hm, rfl, A', W', hS, hend⟩)
    · have hCI : CurI w0 c s bc sv ((A + 9 * x + 9 : Nat) : Int) W' 0 w2 := ⟨HCs.out.below.trans (hS.bar.below HCs.out.below.size (fun k hk e => by omega)), hS.cur, hS.sp, (hS.bar.block bc hbx2 (by omega)).trans HCs.out.box⟩
      have hJ2 := HJ.out x _ _ HJw.out hS.bar
      have hm9 := hm.2.1
      have hm32 := hm.1
      obtain ⟨fn, tmps, assign, body, hy, hR⟩ := HY.out x _ hJ2 ⟨_, _, _, hCI, fun _ => ⟨rfl, rfl⟩, fun h => absurd hm h⟩ hm
      simp only [encH] at hy
      have HCI := Lib.hid hCI
      have HM := Lib.hid hm
      clear hS hCI hJ2 hm
      gi_wp2
      refine ⟨fun _ => by omega, ?_⟩
      refine hR.mono ?_
      rintro e W3 (⟨rfl, _, hJ3, hk3⟩ | ⟨rfl, hJx3⟩)
      · gi_wp2
        go_roundw
        case rel => exact ⟨x + 1, W', by go_num, by omega, by omega, hJ3, ⟨HCI.out.below.trans hk3.below, hk3.cur.trans HCI.out.cur, hk3.sp.trans HCI.out.sp, hk3.box.trans HCI.out.box⟩⟩
        case measure => simp [intOf]; omega
      · gi_wp2
        refine bodyPost_ret (results_none rfl _ _ _) rfl ?_
        exact ⟨⟨_, rfl⟩, .inr ⟨x, HM.out, hJx3⟩⟩
    · have hCI : CurI w0 c s bc sv A' W' (endH zs (A + 9 * x) x) w2 := ⟨HCs.out.below.trans (hS.bar.below HCs.out.below.size (fun k hk e => by omega)), hS.cur, hS.sp, (hS.bar.block bc hbx2 (by omega)).trans HCs.out.box⟩
      have HJ2 := Lib.hid (HJ.out x _ _ HJw.out hS.bar)
      have HX : Hid (CurX w0 c s bc sv zs A x w2) := ⟨_, _, _, hCI, fun h => absurd h hm, fun _ => ⟨rfl, hend⟩⟩
      have HM := Lib.hid hm
      clear hS hCI hm hend
      gi_wp2
      refine ⟨fun f hf => (by cases hf), ?_⟩
      gi_wp2
      refine bodyPost_ret (results_none rfl _ _ _) rfl ?_
      exact ⟨⟨_, rfl⟩, .inl ⟨x, HM.out, HJ2.out, HX.out⟩⟩

theorem hall_M (n : Nat) (hn : 4 ≤ n) (c s bc A : Nat) (sv : Value) (zs : List UInt8) (n₁ : Nat) (w0 w : World) (hB : Byt n₁ w0 sv zs) (hn1 : n₁ ≤ w0.heap.size) (hl : zs.length ≤ 1000000)
    (hA : A ≤ 8 * zs.length) (hc : w0.heap.size ≤ c) (hs : w0.heap.size ≤ s) (hcs : c ≠ s) (hcb : c ≠ bc) (hsb : s ≠ bc) (m : Int) (hcur : CurI w0 c s bc sv A m 0 w) :
    SeqM Fence.wide n Tryd.prog 60 #[.pointer (some ⟨bc, 0, none⟩)] (fun x => encH zs A x) (fun k => k = c ∨ k = s) (KpH w0.heap.size c s bc)
      (fun x W => CurX w0 c s bc sv zs A x W) (fun x => moreH zs (A + 9 * x) x) (fun _ => True) w := fun l J Jx W hW hJ hJx hY h0 =>
  hall1_in n hn l c s bc A sv zs n₁ w0 hB hn1 hl hA hc hs hcs hcb hsb J Jx hJ hJx hY W m
    ⟨hcur.below.trans (hW.mono hcur.below.size), (hW.block _ (Array.getElem?_eq_some_iff.1 hcur.cur).1).trans hcur.cur, (hW.block _ (Array.getElem?_eq_some_iff.1 hcur.sp).1).trans hcur.sp, (hW.block _ (Array.getElem?_eq_some_iff.1 hcur.box).1).trans hcur.box⟩ h0
end Go.Proofs.YtlcaboddkcpgaaaDoor
