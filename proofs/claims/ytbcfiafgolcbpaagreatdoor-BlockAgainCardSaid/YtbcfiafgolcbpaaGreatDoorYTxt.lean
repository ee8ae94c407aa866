/- strings.Builder: WriteString. block: spell, text, Put over the landed code. block's functions, as the record that the laws are walked over. -/
import Derived.Test.YtbcfiafgolcbpaaGreatDoorBuilder
import Derived.Test.YtbcfiafgolcbpaaGreatDoorYLev
import Derived.Test.YtbcfiafgolcbpaaGreatDoorYLaw
import Derived.Test.YtbcfiafgolcbpaaGreatDoorEGet
import Derived.Test.YtbcfiafgolcbpaaGreatDoorYGet
/- strings.Builder: WriteString. -/
namespace Go.Proofs.YtbcfiafgolcbpaaGreatDoor
open Go.RowKit Go.Shelf
set_option linter.unusedVariables false

theorem isBuilderF_below {T e : TypeId} {B b : Nat} {bs : List Value} {w w' : World} (h : Lib.IsBuilderF T e B b bs w) (hb : Below w.heap.size w w') : Lib.IsBuilderF T e B b bs w' := by
  have key : ∀ p, Lib.BuilderAtF T e B b p bs w → Lib.BuilderAtF T e B b p bs w' := by
    rintro p ⟨h1, v, h2, h3, h4⟩
    have hlt : b < w.heap.size := (Array.getElem?_eq_some_iff.1 h2).1
    exact ⟨h1, v, (hb.block b hlt).trans h2, h3.kept (row := none) ⟨hb.os, hb.tape, hb.output, hb.size, fun k hk _ => hb.block k hk⟩ (Classical.em _), h4⟩
  exact h.imp (key _) (key _)

set_option maxHeartbeats 2000000 in
set_option maxRecDepth 100000 in
theorem sbWriteString_any (B b : Nat) (l : List UInt8) (s : ByteArray) (w : World) (h : Lib.IsBuilderF 96 5 B b (Lib.byteCells l) w) (hlen : l.length + s.size ≤ 1000000000) (hBw : B ≤ w.heap.size) :
    Calls Tryz.prog 60 #[.pointer (some ⟨b, 0, none⟩), .string s] w fun e w' => (∃ v, e = .returned v) ∧ Lib.IsBuilderF 96 5 B b (Lib.byteCells (l ++ s.data.toList)) w' ∧ Below B w w' := by
  obtain ⟨i0, hi, hz0, hz1, hz2⟩ := info_parts Tryz.info5
  have HC := Lib.hid (sbCheck_any B b (Lib.byteCells l) w h)
  have hl8 : (Lib.byteCells l).length = l.length := Lib.byteCells_length l
  have HXS : Hid (Lib.byteCells l ++ Lib.strCells s = Lib.byteCells (l ++ s.data.toList)) := by show _ = _; rw [Lib.byteCells_append, Lib.strCells_eq]
  have HLS : Hid ((Lib.byteCells (l ++ s.data.toList)).length = l.length + s.size) := by show _ = _; rw [Lib.byteCells_length, List.length_append]; simp
  go_enter Tryz.func60, Tryz.ntmps60
  go_wp2_with (go_at_call 88; refine HC.out.mono ?_)
  rintro e w1 ⟨rfl, h1, hb1⟩
  obtain ⟨hB, v, hbk, hown, hne⟩ := h1
  rw [hl8] at hown
  have c0 : w1.cell? ⟨b, 0, none⟩ = some (.pointer (some ⟨b, 0, none⟩)) := by rw [Lib.cell_of_heap hbk]; rfl
  have c1 : w1.cell? ⟨b, 1, none⟩ = some v := by rw [Lib.cell_of_heap hbk]; rfl
  have hsz1 := hb1.size
  go_wp2_with (at_builtin; refine Lib.wpList_append_own_stringF _ rfl _ _ 22 9 rfl B 5 i0 Tryz.underlying22 Tryz.underlying9 hi hz0 hz1 hz2 _ _ _ rfl hown s rfl (by unfold maxLen; omega) (by omega) (by omega) ?_)
  intro v' w2 hown' hgrow _
  have hlt : b < w1.heap.size := (Array.getElem?_eq_some_iff.1 hbk).1
  have hb2 : w2.heap[b]? = some (.cells #[.pointer (some ⟨b, 0, none⟩), v] 96 (0, 0)) := by
    rw [hgrow.block b (by omega) (fun e => hne e.symm)]
    exact hbk
  have d0 : w2.cell? ⟨b, 0, none⟩ = some (.pointer (some ⟨b, 0, none⟩)) := by rw [Lib.cell_of_heap hb2]; rfl
  have d1 : w2.cell? ⟨b, 1, none⟩ = some v := by rw [Lib.cell_of_heap hb2]; rfl
  have f1 : w2.frozen? ⟨b, 1, none⟩ = false := Lib.frozen_of_heap hb2 1
  obtain ⟨a', n', cap', rfl⟩ : ∃ a' n' cap', v' = .slice a' n' cap' := by
    rcases hown'.2 with ⟨h0, _⟩ | ⟨g, cap, cur, fz, hv, _⟩
    · exact ⟨_, _, _, h0⟩
    · exact ⟨_, _, _, hv⟩
  go_wp2
  go_ret2
  refine ⟨⟨_, rfl⟩, .inr ?_, ?_⟩
  · rw [HXS.out] at hown'
    exact Lib.BuilderAtF.put (T := 96) (e := 5) hB hb2 (bs' := Lib.byteCells (l ++ s.data.toList)) (by rw [HLS.out]; exact hown') (by decide)
  · exact (hb1.grown hgrow (by omega) (fun k hk => (hown.lt k hk).1)).setCell (p := ⟨b, 1, none⟩) hB _

end Go.Proofs.YtbcfiafgolcbpaaGreatDoor

/- block: spell, text, Put over the landed code. -/
namespace Go.Proofs.YtbcfiafgolcbpaaGreatDoor
open Go.RowKit Go.Shelf
set_option linter.unusedVariables false

set_option maxRecDepth 100000 in
set_option maxHeartbeats 1000000 in
theorem ySpell_any (n : Nat) (h : n < 256) (w : World) (hT : Tab2 w) :
    Calls Tryz.prog 61 #[.int .i64 (n : Nat)] w fun e w' => e = .returned (.string (binS n 8)) ∧ Below w.heap.size w w' := by
  have ho : bits .or .i64 256 (n : Int) = ((2 ^ 8 + n : Nat) : Int) := or_pow 8 n h (by omega)
  have hF := Lib.hid (fmtInt_two (2 ^ 8 + n) 8 (by omega) (by omega) (by omega) w hT)
  have hsz := binS_size (2 ^ 8 + n) (8 + 1)
  have HX := Lib.hid (binS_tail 8 n)
  clear h
  generalize binS (2 ^ 8 + n) (8 + 1) = s at *
  generalize 2 ^ 8 + n = x at *
  go_enter Tryz.func61, Tryz.ntmps61
  go_wp2_with fail
  refine hF.out.mono ?_
  rintro e w' ⟨rfl, hb⟩
  go_wp2
  go_ret
  exact ⟨by rw [HX.out]; rfl, hb⟩

theorem bytes_app (a b : ByteArray) : (a ++ b).data.toList = a.data.toList ++ b.data.toList := list_append a b
theorem byte_back (s : ByteArray) : (⟨s.data.toList.toArray⟩ : ByteArray) = s := by cases s; simp

set_option maxRecDepth 100000 in
set_option maxHeartbeats 4000000 in
theorem yText_any {n₀ : Nat} {w : World} {av : Option Addr} {len cap : Nat} {ps : List (Int × Int)} (hR : RowP n₀ w av len cap ps) (hn : n₀ ≤ w.heap.size) (hT : Lay8 w) (dc : Int) (intra : Bool) (hck : chkY dc ps intra = 0) :
    Calls Tryz.prog 41 #[.agg #[.int .i64 dc, .slice av len cap], .bool intra] w fun e w' => e = .returned (.string (putTY dc ps intra)) ∧ Below w.heap.size w w' := by
  obtain ⟨c1, c2, c3⟩ := chkY_ok hck
  have hlen64 := okPs_len _ _ c3
  have hpl := hR.1
  have hlen : len ≤ 64 := by omega
  obtain ⟨T, hTd⟩ : ∃ T, putTY dc ps intra = T := ⟨_, rfl⟩
  have htsz : T.data.toList.length ≤ 2000 := by
    have := (putTY_size dc ps intra).2
    rw [hTd] at this
    rw [list_size]
    omega
  rw [hTd]
  have HTd : Hid ((if intra then binS dc.toNat 8 else (⟨#[]⟩ : ByteArray)).data.toList ++ (textY ps (!intra)).data.toList = T.data.toList) := by
    show _ = _
    rw [← hTd]
    unfold putTY
    rw [bytes_app]
  obtain ⟨x0, x1⟩ := two_cells w (.int .i64 dc) (.slice av len cap) 27
  have hb1 : Below w.heap.size w ((w.alloc (.cells #[.int .i64 dc, .slice av len cap] 27 (0, 0))).alloc (.cells #[.pointer none, .slice none 0 0] 96 (0, 0))) := ((Below.refl _ w).alloc (Nat.le_refl _) _).alloc (by simp) _
  have hI0 := Lib.IsBuilderF.of (Lib.fresh_isBuilder 96 5 (w.alloc (.cells #[.int .i64 dc, .slice av len cap] 27 (0, 0))))
  rw [World.size_alloc] at hI0
  have HI0 := Lib.hid hI0
  have HB1 := Lib.hid hb1
  have y0 := (World.cell?_alloc_old (w.alloc (.cells #[.int .i64 dc, .slice av len cap] 27 (0, 0))) (.cells #[.pointer none, .slice none 0 0] 96 (0, 0)) ⟨w.heap.size, 0, none⟩ (by simp)).trans x0
  have y1 := (World.cell?_alloc_old (w.alloc (.cells #[.int .i64 dc, .slice av len cap] 27 (0, 0))) (.cells #[.pointer none, .slice none 0 0] 96 (0, 0)) ⟨w.heap.size, 1, none⟩ (by simp)).trans x1
  have hsz1 : ((w.alloc (.cells #[.int .i64 dc, .slice av len cap] 27 (0, 0))).alloc (.cells #[.pointer none, .slice none 0 0] 96 (0, 0))).heap.size = w.heap.size + 2 := by simp
  have HR := Lib.hid (hR.mono hn)
  have HT := Lib.hid (fun (W : World) (hb : Below w.heap.size w W) => hT.below hb)
  have HOk := Lib.hid c3
  clear hTd hlen64 c2 c3 hb1 hI0 hck hpl hR hT
  cases intra with
  | true =>
    have hd := (dcOk_iff dc).1 (c1 rfl)
    obtain ⟨d, rfl⟩ : ∃ d : Nat, dc = d := ⟨dc.toNat, by omega⟩
    have hbs := binS_size d 8
    simp only [if_true, Int.toNat_natCast, Bool.not_true] at HTd
    have HSp := Lib.hid (fun W hW => ySpell_any d (by omega) W hW)
    generalize binS d 8 = s8 at *
    clear c1 hd
    go_enter Tryz.func41, Tryz.ntmps41
    go_wp2_with fail
    generalize (w.alloc (.cells #[.int .i64 (d : Int), .slice av len cap] 27 (0, 0))).alloc (.cells #[.pointer none, .slice none 0 0] 96 (0, 0)) = w0 at *
    clear x0 x1
    refine (HSp.out w0 (HT.out _ HB1.out).2).mono ?_
    rintro e w1 ⟨rfl, b1⟩
    have HIb := Lib.hid (isBuilderF_below HI0.out b1)
    have HBb := Lib.hid (HB1.out.trans (b1.mono (by omega)))
    have hs1 := b1.size
    have v1 := (b1.cell (p := ⟨w.heap.size, 1, none⟩) (by simp; omega)).trans y1
    clear b1 y0 y1
    go_wp2_with fail
    refine (sbWriteString_any _ _ [] s8 _ HIb.out (by simp; omega) (by omega)).mono ?_
    rintro e w2 ⟨⟨v2, rfl⟩, hI2, b2⟩
    rw [List.nil_append] at hI2
    have HI2 := Lib.hid hI2
    have HB2 := Lib.hid (HBb.out.trans (b2.mono (by omega)))
    have u1 := (b2.cell (p := ⟨w.heap.size, 1, none⟩) (by simp)).trans v1
    have hs2 := b2.size
    clear b2 hI2 v1
    go_wp2_with fail
    go_loopw [18] (fun k wr => ∃ (j : Nat) (acc : List UInt8) (pl : Nat), k = .int .i64 j ∧ j ≤ len ∧ okPs (ps.drop j) pl ∧ acc ++ (textY (ps.drop j) false).data.toList = T.data.toList ∧ Lib.IsBuilderF 96 5 (w.heap.size + 1) (w.heap.size + 1) (Lib.byteCells acc) wr ∧ Below w.heap.size w wr) (fun k _ => len - (intOf k).toNat)
    case atStart => exact ⟨0, s8.data.toList, _, rfl, by omega, HOk.out, HTd.out, HI2.out, HB2.out⟩
    case round =>
      obtain ⟨j, acc, pl, rfl, hj, hok, hacc, hI, hb⟩ := hrel
      have HB := Lib.hid hb
      have HI := Lib.hid hI
      have HA := Lib.hid hacc
      have hal : acc.length ≤ 2000 := by
        have := congrArg List.length hacc
        rw [List.length_append] at this
        omega
      clear hacc hI hb
      have hsz := HB.out.size
      by_cases hj2 : j < len
      · have hjp : j < ps.length := by have := HR.out.1; omega
        have hd : ps.drop j = ps[j] :: ps.drop (j + 1) := List.drop_eq_getElem_cons hjp
        rw [hd] at HA hok
        have hpj : ps[j]? = some ps[j] := List.getElem?_eq_getElem hjp
        rcases HR.out.2.2.2 with h0 | ⟨b, off, rfl, hbl, hc⟩
        · have := HR.out.2.1
          omega
        have hb2 : b < w.heap.size := hbl (by omega)
        obtain ⟨x1, x2⟩ := hc.below HB.out hb2 j _ hpj
        clear hd hpj hc hbl
        generalize ps[j] = p at *
        obtain ⟨r, l⟩ := p
        simp only at x1 x2
        have hp := okPs_pair hok
        have HOk2 := Lib.hid hok.2.2.2
        have hpl1 : -127 ≤ l ∧ l ≤ 127 := by
          have := hp
          unfold isP at this
          rw [decide_eq_true_iff] at this
          omega
        have q1 : (j : Int) < (len : Int) := by omega
        have q2 : (0 : Int) ≤ (j : Int) := by omega
        have hb3 : b < wr.heap.size := by omega
        obtain ⟨z0, z1⟩ := two_cells wr (.int .i64 r) (.int .i64 l) 66
        have hba : Below wr.heap.size wr (wr.alloc (.cells #[.int .i64 r, .int .i64 l] 66 (0, 0))) := (Below.refl _ wr).alloc (Nat.le_refl _) _
        have HBa := Lib.hid (HB.out.trans (hba.mono hsz))
        have HIa := Lib.hid (isBuilderF_below HI.out hba)
        have hsza : w.heap.size + 1 ≤ (wr.alloc (.cells #[.int .i64 r, .int .i64 l] 66 (0, 0))).heap.size := by rw [World.size_alloc]; omega
        have HPut := Lib.hid (fun fs => eput_any r l fs (wr.alloc (.cells #[.int .i64 r, .int .i64 l] 66 (0, 0))) (HT.out _ HBa.out) (by omega) (by omega))
        have hps : ∀ fs, putS8 fs r l = putP fs r l := fun fs => by unfold putS8; rw [hp]; rfl
        have hpe : putE8 r l = 0 := by unfold putE8; rw [hp]; rfl
        have hpsz := (putP_size false r l).2.1
        clear hba hok
        by_cases hj0 : j = 0
        · have qj : ((j : Int) == 0) = true := by simpa using hj0
          have qn : (j == 0) = true := by simpa using hj0
          clear hj0
          have HPf := Lib.hid (HPut.out false)
          rw [hps false, hpe] at HPf
          have HA2 : Hid ((acc ++ (putP false r l).data.toList) ++ (textY (ps.drop (j + 1)) false).data.toList = T.data.toList) := by
            show _ = _
            have := HA.out
            skip
            rw [List.append_assoc, ← bytes_app]
            exact this
          have hpsz2 := (putP_size false r l).2.1
          clear HPut hps hpe hp
          generalize putP false r l = s at *
          skip
          go_wp2_with (first
            | (go_at_call 62; refine HPf.out.mono ?_; rintro e w3 ⟨rfl, b3⟩; have HB3 := Lib.hid (HBa.out.trans (b3.mono HBa.out.size)); have HI3 := Lib.hid (isBuilderF_below HIa.out b3); have hs3 := b3.size; clear b3)
            | (go_at_call 60; refine (sbWriteString_any _ _ _ s _ HI3.out (by omega) (by omega)).mono ?_; rintro e w4 ⟨⟨v4, rfl⟩, hI4, hb4⟩; have HI4 := Lib.hid hI4; have HB4 := Lib.hid (HB3.out.trans (hb4.mono (by omega))); clear hI4 hb4))
          go_roundw
          case rel => exact ⟨j + 1, acc ++ s.data.toList, _, by go_num, by omega, HOk2.out, HA2.out, HI4.out, HB4.out⟩
          case measure => simp [intOf]; omega
        · have qj : ((j : Int) == 0) = false := by simpa using hj0
          have HPf := Lib.hid (HPut.out false)
          rw [hps false, hpe] at HPf
          have HA2 : Hid ((acc ++ (putP false r l).data.toList) ++ (textY (ps.drop (j + 1)) false).data.toList = T.data.toList) := by
            show _ = _
            have := HA.out
            skip
            rw [List.append_assoc, ← bytes_app]
            exact this
          have hpsz2 := (putP_size false r l).2.1
          clear HPut hps hpe hp
          generalize putP false r l = s at *
          skip
          go_wp2_with (first
            | (go_at_call 62; refine HPf.out.mono ?_; rintro e w3 ⟨rfl, b3⟩; have HB3 := Lib.hid (HBa.out.trans (b3.mono HBa.out.size)); have HI3 := Lib.hid (isBuilderF_below HIa.out b3); have hs3 := b3.size; clear b3)
            | (go_at_call 60; refine (sbWriteString_any _ _ _ s _ HI3.out (by omega) (by omega)).mono ?_; rintro e w4 ⟨⟨v4, rfl⟩, hI4, hb4⟩; have HI4 := Lib.hid hI4; have HB4 := Lib.hid (HB3.out.trans (hb4.mono (by omega))); clear hI4 hb4))
          go_roundw
          case rel => exact ⟨j + 1, acc ++ s.data.toList, _, by go_num, by omega, HOk2.out, HA2.out, HI4.out, HB4.out⟩
          case measure => simp [intOf]; omega
      · obtain rfl : j = len := by omega
        have hnil : ps.drop j = [] := List.drop_eq_nil_of_le (by have := HR.out.1; omega)
        rw [hnil] at HA
        have HEnd := Lib.hid (fun W => eend_any W)
        have hI2 := HI.out
        have hlt : w.heap.size + 1 ≤ wr.heap.size := by
          rcases hI2 with h | h <;> (have := h.lt; omega)
        go_wp2_with (first
          | (go_at_call 63; refine (HEnd.out _).mono ?_; rintro e w' ⟨rfl, rfl⟩)
          | (go_at_call 60; refine (sbWriteString_any _ _ _ end8 _ HI.out (by have : end8.size = 2 := rfl; omega) (by omega)).mono ?_; rintro e w4 ⟨⟨v4, rfl⟩, hI4, hb4⟩; have HI4 := Lib.hid hI4; have HB4 := Lib.hid (HB.out.trans (hb4.mono (by omega))); clear hI4 hb4)
          | (go_at_call 64; refine (sbString_any _ _ _ _ HI4.out (by have := HB4.out.size; rcases HI4.out with h | h <;> (have := h.lt; omega))).mono ?_; rintro e w5 ⟨rfl, hb5⟩; have HB5 := Lib.hid (HB4.out.trans (hb5.mono (by omega))); clear hb5))
        go_ret
        refine ⟨?_, HB5.out⟩
        rw [show acc ++ end8.data.toList = T.data.toList from HA.out, byte_back]
        rfl
  | false =>
    simp only [Bool.false_eq_true, if_false, Bool.not_false] at HTd
    go_enter Tryz.func41, Tryz.ntmps41
    go_wp2_with fail
    generalize (w.alloc (.cells #[.int .i64 dc, .slice av len cap] 27 (0, 0))).alloc (.cells #[.pointer none, .slice none 0 0] 96 (0, 0)) = w0 at *
    clear x0 x1
    go_wp2_with fail
    go_loopw [18] (fun k wr => ∃ (j : Nat) (acc : List UInt8) (pl : Nat), k = .int .i64 j ∧ j ≤ len ∧ okPs (ps.drop j) pl ∧ acc ++ (textY (ps.drop j) (j == 0)).data.toList = T.data.toList ∧ Lib.IsBuilderF 96 5 (w.heap.size + 1) (w.heap.size + 1) (Lib.byteCells acc) wr ∧ Below w.heap.size w wr) (fun k _ => len - (intOf k).toNat)
    case atStart => exact ⟨0, [], _, rfl, by omega, HOk.out, HTd.out, HI0.out, HB1.out⟩
    case round =>
      obtain ⟨j, acc, pl, rfl, hj, hok, hacc, hI, hb⟩ := hrel
      have HB := Lib.hid hb
      have HI := Lib.hid hI
      have HA := Lib.hid hacc
      have hal : acc.length ≤ 2000 := by
        have := congrArg List.length hacc
        rw [List.length_append] at this
        omega
      clear hacc hI hb
      have hsz := HB.out.size
      by_cases hj2 : j < len
      · have hjp : j < ps.length := by have := HR.out.1; omega
        have hd : ps.drop j = ps[j] :: ps.drop (j + 1) := List.drop_eq_getElem_cons hjp
        rw [hd] at HA hok
        have hpj : ps[j]? = some ps[j] := List.getElem?_eq_getElem hjp
        rcases HR.out.2.2.2 with h0 | ⟨b, off, rfl, hbl, hc⟩
        · have := HR.out.2.1
          omega
        have hb2 : b < w.heap.size := hbl (by omega)
        obtain ⟨x1, x2⟩ := hc.below HB.out hb2 j _ hpj
        clear hd hpj hc hbl
        generalize ps[j] = p at *
        obtain ⟨r, l⟩ := p
        simp only at x1 x2
        have hp := okPs_pair hok
        have HOk2 := Lib.hid hok.2.2.2
        have hpl1 : -127 ≤ l ∧ l ≤ 127 := by
          have := hp
          unfold isP at this
          rw [decide_eq_true_iff] at this
          omega
        have q1 : (j : Int) < (len : Int) := by omega
        have q2 : (0 : Int) ≤ (j : Int) := by omega
        have hb3 : b < wr.heap.size := by omega
        obtain ⟨z0, z1⟩ := two_cells wr (.int .i64 r) (.int .i64 l) 66
        have hba : Below wr.heap.size wr (wr.alloc (.cells #[.int .i64 r, .int .i64 l] 66 (0, 0))) := (Below.refl _ wr).alloc (Nat.le_refl _) _
        have HBa := Lib.hid (HB.out.trans (hba.mono hsz))
        have HIa := Lib.hid (isBuilderF_below HI.out hba)
        have hsza : w.heap.size + 1 ≤ (wr.alloc (.cells #[.int .i64 r, .int .i64 l] 66 (0, 0))).heap.size := by rw [World.size_alloc]; omega
        have HPut := Lib.hid (fun fs => eput_any r l fs (wr.alloc (.cells #[.int .i64 r, .int .i64 l] 66 (0, 0))) (HT.out _ HBa.out) (by omega) (by omega))
        have hps : ∀ fs, putS8 fs r l = putP fs r l := fun fs => by unfold putS8; rw [hp]; rfl
        have hpe : putE8 r l = 0 := by unfold putE8; rw [hp]; rfl
        have hpsz := (putP_size true r l).2.1
        clear hba hok
        by_cases hj0 : j = 0
        · have qj : ((j : Int) == 0) = true := by simpa using hj0
          have qn : (j == 0) = true := by simpa using hj0
          clear hj0
          have HPf := Lib.hid (HPut.out true)
          rw [hps true, hpe] at HPf
          have HA2 : Hid ((acc ++ (putP true r l).data.toList) ++ (textY (ps.drop (j + 1)) false).data.toList = T.data.toList) := by
            show _ = _
            have := HA.out
            rw [qn] at this
            rw [List.append_assoc, ← bytes_app]
            exact this
          have hpsz2 := (putP_size true r l).2.1
          clear HPut hps hpe hp
          generalize putP true r l = s at *
          skip
          go_wp2_with (first
            | (go_at_call 62; refine HPf.out.mono ?_; rintro e w3 ⟨rfl, b3⟩; have HB3 := Lib.hid (HBa.out.trans (b3.mono HBa.out.size)); have HI3 := Lib.hid (isBuilderF_below HIa.out b3); have hs3 := b3.size; clear b3)
            | (go_at_call 60; refine (sbWriteString_any _ _ _ s _ HI3.out (by omega) (by omega)).mono ?_; rintro e w4 ⟨⟨v4, rfl⟩, hI4, hb4⟩; have HI4 := Lib.hid hI4; have HB4 := Lib.hid (HB3.out.trans (hb4.mono (by omega))); clear hI4 hb4))
          go_roundw
          case rel => exact ⟨j + 1, acc ++ s.data.toList, _, by go_num, by omega, HOk2.out, (by rw [show (j + 1 == 0) = false by simp]; exact HA2.out), HI4.out, HB4.out⟩
          case measure => simp [intOf]; omega
        · have qj : ((j : Int) == 0) = false := by simpa using hj0
          have qn : (j == 0) = false := by simpa using hj0
          rw [qn] at HA
          have HPf := Lib.hid (HPut.out false)
          rw [hps false, hpe] at HPf
          have HA2 : Hid ((acc ++ (putP false r l).data.toList) ++ (textY (ps.drop (j + 1)) false).data.toList = T.data.toList) := by
            show _ = _
            have := HA.out
            skip
            rw [List.append_assoc, ← bytes_app]
            exact this
          have hpsz2 := (putP_size false r l).2.1
          clear HPut hps hpe hp
          generalize putP false r l = s at *
          skip
          go_wp2_with (first
            | (go_at_call 62; refine HPf.out.mono ?_; rintro e w3 ⟨rfl, b3⟩; have HB3 := Lib.hid (HBa.out.trans (b3.mono HBa.out.size)); have HI3 := Lib.hid (isBuilderF_below HIa.out b3); have hs3 := b3.size; clear b3)
            | (go_at_call 60; refine (sbWriteString_any _ _ _ s _ HI3.out (by omega) (by omega)).mono ?_; rintro e w4 ⟨⟨v4, rfl⟩, hI4, hb4⟩; have HI4 := Lib.hid hI4; have HB4 := Lib.hid (HB3.out.trans (hb4.mono (by omega))); clear hI4 hb4))
          go_roundw
          case rel => exact ⟨j + 1, acc ++ s.data.toList, _, by go_num, by omega, HOk2.out, (by rw [show (j + 1 == 0) = false by simp]; exact HA2.out), HI4.out, HB4.out⟩
          case measure => simp [intOf]; omega
      · obtain rfl : j = len := by omega
        have hnil : ps.drop j = [] := List.drop_eq_nil_of_le (by have := HR.out.1; omega)
        rw [hnil] at HA
        have HEnd := Lib.hid (fun W => eend_any W)
        have hI2 := HI.out
        have hlt : w.heap.size + 1 ≤ wr.heap.size := by
          rcases hI2 with h | h <;> (have := h.lt; omega)
        go_wp2_with (first
          | (go_at_call 63; refine (HEnd.out _).mono ?_; rintro e w' ⟨rfl, rfl⟩)
          | (go_at_call 60; refine (sbWriteString_any _ _ _ end8 _ HI.out (by have : end8.size = 2 := rfl; omega) (by omega)).mono ?_; rintro e w4 ⟨⟨v4, rfl⟩, hI4, hb4⟩; have HI4 := Lib.hid hI4; have HB4 := Lib.hid (HB.out.trans (hb4.mono (by omega))); clear hI4 hb4)
          | (go_at_call 64; refine (sbString_any _ _ _ _ HI4.out (by have := HB4.out.size; rcases HI4.out with h | h <;> (have := h.lt; omega))).mono ?_; rintro e w5 ⟨rfl, hb5⟩; have HB5 := Lib.hid (HB4.out.trans (hb5.mono (by omega))); clear hb5))
        go_ret
        refine ⟨?_, HB5.out⟩
        rw [show acc ++ end8.data.toList = T.data.toList from HA.out, byte_back]
        rfl

set_option maxRecDepth 100000 in
set_option maxHeartbeats 1000000 in
theorem yPut_any {n₀ : Nat} {w : World} {av : Option Addr} {len cap : Nat} {ps : List (Int × Int)} (hR : RowP n₀ w av len cap ps) (hn : n₀ ≤ w.heap.size) (hlen : len ≤ 1000000) (hT : Lay8 w) (dc : Int) (intra : Bool) :
    Calls Tryz.prog 18 #[blkV dc (.slice av len cap), .bool intra] w fun e w' => e = .returned (.tuple #[.string (if chkY dc ps intra = 0 then putTY dc ps intra else ⟨#[]⟩), .int .i64 (chkY dc ps intra)]) ∧ Below w.heap.size w w' := by
  obtain ⟨x0, x1⟩ := two_cells w (.int .i64 dc) (.slice av len cap) 27
  have hb0 : Below w.heap.size w (w.alloc (.cells #[.int .i64 dc, .slice av len cap] 27 (0, 0))) := (Below.refl _ w).alloc (Nat.le_refl _) _
  have hlt : w.heap.size < (w.alloc (.cells #[.int .i64 dc, .slice av len cap] 27 (0, 0))).heap.size := by simp
  have HC := Lib.hid (yCheck_any (hR.below (hb0.mono hn)) (Nat.le_trans hn hb0.size) hlen dc intra)
  have HX := Lib.hid (fun (W : World) (hb : Below w.heap.size w W) (h : chkY dc ps intra = 0) => yText_any (w := W) (hR.below (hb.mono hn)) (Nat.le_trans hn hb.size) (hT.below hb) dc intra h)
  have HB0 := Lib.hid hb0
  clear hR hb0 hT
  by_cases hck : chkY dc ps intra = 0
  · rw [hck] at HC HX ⊢
    simp only [if_true]
    generalize putTY dc ps intra = s at *
    have HX2 := Lib.hid (fun W hb => HX.out W hb rfl)
    clear HX hck
    go_enter Tryz.func18, Tryz.ntmps18
    go_wp2_with fail
    generalize w.alloc (.cells #[.int .i64 dc, .slice av len cap] 27 (0, 0)) = w0 at *
    refine HC.out.mono ?_
    rintro e w1 ⟨rfl, b1⟩
    have y0 := (b1.cell (p := ⟨w.heap.size, 0, none⟩) hlt).trans x0
    have y1 := (b1.cell (p := ⟨w.heap.size, 1, none⟩) hlt).trans x1
    have hs1 := b1.size
    have hlt1 : w.heap.size < w1.heap.size := by omega
    have B1 := Lib.hid (HB0.out.trans (b1.mono HB0.out.size))
    clear b1 x0 x1
    go_wp2_with fail
    refine (HX2.out _ B1.out).mono ?_
    rintro e w2 ⟨rfl, b2⟩
    have B2 := Lib.hid (B1.out.trans (b2.mono B1.out.size))
    clear b2
    go_wp2_with fail
    go_ret2
    exact ⟨rfl, B2.out⟩
  · rw [if_neg hck]
    clear HX
    generalize chkY dc ps intra = er at *
    have q3 : (er != 0) = true := by simpa using hck
    clear hck
    go_enter Tryz.func18, Tryz.ntmps18
    go_wp2_with fail
    generalize w.alloc (.cells #[.int .i64 dc, .slice av len cap] 27 (0, 0)) = w0 at *
    refine HC.out.mono ?_
    rintro e w1 ⟨rfl, b1⟩
    have B1 := Lib.hid (HB0.out.trans (b1.mono HB0.out.size))
    clear b1
    go_wp2_with fail
    go_ret2
    exact ⟨rfl, B1.out⟩

end Go.Proofs.YtbcfiafgolcbpaaGreatDoor

/- block's functions, as the record that the laws are walked over. -/
namespace Go.Proofs.YtbcfiafgolcbpaaGreatDoor
open Go.RowKit Go.Shelf
set_option linter.unusedVariables false

theorem blockI : BlockI where
  check := fun hR hn hlen _ dc intra => yCheck_any hR hn hlen dc intra
  get := fun hB hn hl hT x intra hx => yGet_any hB hn hl hT x intra hx
  put := fun hR hn hlen hT dc intra => yPut_any hR hn hlen hT dc intra
  levels := fun hR hn hlen _ dc intra => yLevels_any hR hn hlen dc intra
  resid := fun hR hn hlen _ dc q intra => yResid_any hR hn hlen dc q intra

end Go.Proofs.YtbcfiafgolcbpaaGreatDoor
