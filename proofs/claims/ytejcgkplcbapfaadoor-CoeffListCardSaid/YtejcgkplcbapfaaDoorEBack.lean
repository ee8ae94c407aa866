/- The walk of CoeffBack (praxinoscopelaw08). -/
import Derived.Test.YtejcgkplcbapfaaDoorELaw
import Derived.Test.YtejcgkplcbapfaaDoorEFact
import Derived.Deep.RegionHeld3
namespace Go.Proofs.YtejcgkplcbapfaaDoor
open Go.RowKit Go.Shelf
set_option linter.unusedVariables false

theorem stands_of {zs : List UInt8} {s : ByteArray} (h1 : s.size ≤ 8 * zs.length) (h : ∀ j (hj : j < s.size), s[j] = UInt8.ofNat (48 + bt zs j)) : Stands zs 0 s := by
  refine ⟨by omega, fun i hi => ?_⟩
  have h2 : i < s.data.toList.length := by simpa using hi
  rw [List.getElem?_eq_getElem h2, Nat.zero_add, ← h i hi]
  simp
  rfl

abbrev BackS (w2 w' : World) (g : Nat) (r l : Int) : Prop := Below w2.heap.size w2 w' ∧ w'.cell? ⟨g, 0, none⟩ = some (.int .i64 r) ∧ w'.cell? ⟨g, 1, none⟩ = some (.int .i64 l)

set_option maxRecDepth 100000 in
set_option maxHeartbeats 4000000 in
theorem coeffBack_walk (I : CoeffI) {w : World} {a : Option Addr} {len cap : Nat} {ys : List Int} (x y : Int) (first : Bool) (hR : RowV w.heap.size w a len cap (intV ys)) (hT : Lay8 w) :
    Calls Tryd.prog 6 #[.int .i64 x, .int .i64 y, .bool first, .slice a len cap] w fun e w' => e = .returned (.bool true) ∧ Below w.heap.size w w' := by
  have hp := isP_by x y
  have HOf := Lib.hid (fun w => of8_any x y w)
  obtain ⟨l1, l2, l3⟩ := lvE_in y
  generalize x % 64 = r at *
  generalize lvE y = l at *
  have HT := Lib.hid (fun w' (hb : Below w.heap.size w w') => hT.below hb)
  have HK := Lib.hid (known8_any I w hT)
  have HR := Lib.hid hR
  have HP := Lib.hid (fun w hT => I.put r l first w hT (by omega) (by omega))
  have HE := Lib.hid (fun w hT => I.esc r l w hT)
  have HS := Lib.hid (fun w hT => I.short r l w hT (by omega) (by omega))
  rw [show putS8 first r l = putP first r l by unfold putS8; rw [if_pos hp], show putE8 r l = 0 by unfold putE8; rw [if_pos hp]] at HP
  rw [show escS8 r l = escS r l by unfold escS8; rw [if_pos hp], show putE8 r l = 0 by unfold putE8; rw [if_pos hp]] at HE
  obtain ⟨z1, z2, z3, z4⟩ := putP_size first r l
  have z5 := escS_size r l
  have HG := Lib.hid (fun (zs : List UInt8) (h : Stands zs 0 (putP first r l)) => got_put hp h)
  have HX := Lib.hid (fun (zs : List UInt8) (h : Stands zs 0 (escS r l)) => got_esc (first := first) hp h)
  have A1 := Lib.hid ((allB_iff _).1 (putP_bits first r l))
  have A2 := Lib.hid ((allB_iff _).1 (escS_bits r l))
  have O1 := Lib.hid (putP_one9 first r l)
  have O2 := Lib.hid (escS_one r l)
  generalize putP first r l = s at *
  generalize escS r l = t at *
  have Z4 := Lib.hid z4
  clear hR hT hp z4
  obtain ⟨y0, y1⟩ : True ∧ True := ⟨trivial, trivial⟩
  clear y0 y1
  cases hB : shortB r l with
  | true =>
    rw [hB] at HS
    have z6 := z3 hB
    clear z3 hB Z4
    go_enter Tryd.func6, Tryd.ntmps6
    go_wp2_with fail
    refine HK.out.mono ?_
    rintro e w1 ⟨rfl, b1⟩
    have HB1 := Lib.hid b1
    clear b1
    go_wp2_with fail
    refine (HOf.out w1).mono ?_
    rintro e w2 ⟨rfl, b2⟩
    have b2' := below_chain HB1.out (Nat.le_refl _) (b2.alloc (o := .cells #[.int .i64 r, .int .i64 l] 26 (0, 0)) b2.size)
    have HB2 := Lib.hid b2'
    obtain ⟨y0, y1⟩ := two_cells w2 (.int .i64 r) (.int .i64 l) 26
    have hs2 : (w2.alloc (.cells #[.int .i64 r, .int .i64 l] 26 (0, 0))).heap.size = w2.heap.size + 1 := by simp
    clear b2 b2'
    by_cases hlong : 60 < len
    · go_wp2
      go_ret
      exact ⟨rfl, HB2.out⟩
    go_wp2_with fail
    generalize w2.alloc (.cells #[.int .i64 r, .int .i64 l] 26 (0, 0)) = w2' at *
    refine (HP.out w2' (HT.out _ HB2.out)).mono ?_
    rintro e w3 ⟨rfl, b3⟩
    have x0 := (b3.cell (p := ⟨w2.heap.size, 0, none⟩) (by simp; omega)).trans y0
    have x1 := (b3.cell (p := ⟨w2.heap.size, 1, none⟩) (by simp; omega)).trans y1
    have hs3 : w2.heap.size < w3.heap.size := by have := b3.size; omega
    have HB3 := Lib.hid (below_chain HB2.out (Nat.le_refl _) b3)
    clear b3 y0 y1 hs2
    go_wp2_with fail
    refine (HE.out w3 (HT.out _ HB3.out)).mono ?_
    rintro e w4 ⟨rfl, b4⟩
    have y0 := (b4.cell (p := ⟨w2.heap.size, 0, none⟩) (by simp; omega)).trans x0
    have y1 := (b4.cell (p := ⟨w2.heap.size, 1, none⟩) (by simp; omega)).trans x1
    have hs4 : w2.heap.size < w4.heap.size := by have := b4.size; omega
    have HB4 := Lib.hid (below_chain HB3.out (Nat.le_refl _) b4)
    clear b4 x0 x1 hs3
    go_wp2_with fail
    refine (HS.out w4 (HT.out _ HB4.out)).mono ?_
    rintro e w5 ⟨rfl, b5⟩
    have x0 := (b5.cell (p := ⟨w2.heap.size, 0, none⟩) (by simp; omega)).trans y0
    have x1 := (b5.cell (p := ⟨w2.heap.size, 1, none⟩) (by simp; omega)).trans y1
    have hs5 : w2.heap.size < w5.heap.size := by have := b5.size; omega
    have HB5 := Lib.hid (below_chain HB4.out (Nat.le_refl _) b5)
    clear b5 y0 y1 hs4
    go_wp2_with fail
    refine (code8_true s A1.out z1 O1.out 14 (by omega) (by omega) w5).mono ?_
    rintro e w' ⟨rfl, rfl⟩
    go_wp2_with fail
    refine (code8_true t A2.out (by omega) O2.out 20 (by omega) (by omega) w5).mono ?_
    rintro e w' ⟨rfl, rfl⟩
    have H0 : Hid (BackS w5 w5.drew w2.heap.size r l) := ⟨below_undrew (Below.refl _ w5.drew), x0, x1⟩
    have HKeep : ∀ {wx wy : World}, BackS w5 wx w2.heap.size r l → Below wx.heap.size wx wy → BackS w5 wy w2.heap.size r l := fun {wx wy} h hb => by
      have hsz := h.1.size
      exact ⟨h.1.trans (hb.mono hsz), (hb.cell (p := ⟨w2.heap.size, 0, none⟩) (by simp; omega)).trans h.2.1, (hb.cell (p := ⟨w2.heap.size, 1, none⟩) (by simp; omega)).trans h.2.2⟩
    have C1 : Hid (∀ W c, BackS w5 W w2.heap.size r l → c = s ∨ c = t → Calls Tryd.prog 26 #[.string c, .slice a len cap] W fun e W' => ∃ v, e = .returned v ∧ BackS w5 W' w2.heap.size r l ∧ Hid (∀ n : Int, n = (c.size : Nat) → Calls Tryd.prog 21 #[.bool first, pairV r l, .int .i64 n, .int .i64 0, v] W' fun e W'' => e = .returned (.bool true) ∧ BackS w5 W'' w2.heap.size r l)) := fun W c hW hc => by
      have hbW := HB5.out.trans (hW.1.mono HB5.out.size)
      have hA : AllBits c ∧ c.size ≤ 20 ∧ ∀ zs, Stands zs 0 c → got first zs 0 = ⟨r, l, false, (c.size : Nat), 0⟩ := by
        rcases hc with rfl | rfl
        · exact ⟨A1.out, z2, fun zs h => HG.out zs h⟩
        · exact ⟨A2.out, by omega, fun zs h => by rw [z5]; exact HX.out zs h⟩
      obtain ⟨q1, q2, q3⟩ := hA
      refine (bytes8_any (HR.out.below hbW) hbW.size (by omega) c q1 c.size rfl (by omega)).mono ?_
      rintro e W' ⟨zs, v, rfl, hzl, ho, hd, hb⟩
      have hS' := HKeep hW hb
      refine ⟨v, rfl, hS', ?_⟩
      have hbW' := HB5.out.trans (hS'.1.mono HB5.out.size)
      rintro n rfl
      refine (gets8_byt I (byt_own ho (by omega) (Nat.le_refl _)) (Nat.le_refl _) (by omega) (HT.out _ hbW') first r l (c.size : Nat) 0 (q3 zs (stands_of (by omega) hd))).mono ?_
      rintro e W'' ⟨rfl, hb2⟩
      exact ⟨rfl, HKeep hS' hb2⟩
    clear HKeep HG HX HP HE HS HK HOf
    go_wp2_with fail
    go_region_held3 (fun w' => BackS w5 w' w2.heap.size r l)
      (first | exact H0.out | assumption | exact hSl)
      (first
       | (go_at_call 26; refine (C1.out _ _ (by assumption) (by first | exact .inl rfl | exact .inr rfl)).mono ?_; rintro e wl ⟨vl, rfl, hSl, HGl⟩)
       | (go_at_call 21; refine (HGl.out _ (by omega)).mono ?_; rintro e wl ⟨rfl, hSl⟩))
    rename_i hHeld
    go_wp2
    go_ret
    exact ⟨rfl, HB5.out.trans (hHeld.1.mono HB5.out.size)⟩
  | false =>
    rw [hB] at HS
    obtain rfl := Z4.out hB
    clear z3 hB Z4
    go_enter Tryd.func6, Tryd.ntmps6
    go_wp2_with fail
    refine HK.out.mono ?_
    rintro e w1 ⟨rfl, b1⟩
    have HB1 := Lib.hid b1
    clear b1
    go_wp2_with fail
    refine (HOf.out w1).mono ?_
    rintro e w2 ⟨rfl, b2⟩
    have b2' := below_chain HB1.out (Nat.le_refl _) (b2.alloc (o := .cells #[.int .i64 r, .int .i64 l] 26 (0, 0)) b2.size)
    have HB2 := Lib.hid b2'
    obtain ⟨y0, y1⟩ := two_cells w2 (.int .i64 r) (.int .i64 l) 26
    have hs2 : (w2.alloc (.cells #[.int .i64 r, .int .i64 l] 26 (0, 0))).heap.size = w2.heap.size + 1 := by simp
    clear b2 b2'
    by_cases hlong : 60 < len
    · go_wp2
      go_ret
      exact ⟨rfl, HB2.out⟩
    go_wp2_with fail
    generalize w2.alloc (.cells #[.int .i64 r, .int .i64 l] 26 (0, 0)) = w2' at *
    refine (HP.out w2' (HT.out _ HB2.out)).mono ?_
    rintro e w3 ⟨rfl, b3⟩
    have x0 := (b3.cell (p := ⟨w2.heap.size, 0, none⟩) (by simp; omega)).trans y0
    have x1 := (b3.cell (p := ⟨w2.heap.size, 1, none⟩) (by simp; omega)).trans y1
    have hs3 : w2.heap.size < w3.heap.size := by have := b3.size; omega
    have HB3 := Lib.hid (below_chain HB2.out (Nat.le_refl _) b3)
    clear b3 y0 y1 hs2
    go_wp2_with fail
    refine (HE.out w3 (HT.out _ HB3.out)).mono ?_
    rintro e w4 ⟨rfl, b4⟩
    have y0 := (b4.cell (p := ⟨w2.heap.size, 0, none⟩) (by simp; omega)).trans x0
    have y1 := (b4.cell (p := ⟨w2.heap.size, 1, none⟩) (by simp; omega)).trans x1
    have hs4 : w2.heap.size < w4.heap.size := by have := b4.size; omega
    have HB4 := Lib.hid (below_chain HB3.out (Nat.le_refl _) b4)
    clear b4 x0 x1 hs3
    go_wp2_with fail
    refine (HS.out w4 (HT.out _ HB4.out)).mono ?_
    rintro e w5 ⟨rfl, b5⟩
    have x0 := (b5.cell (p := ⟨w2.heap.size, 0, none⟩) (by simp; omega)).trans y0
    have x1 := (b5.cell (p := ⟨w2.heap.size, 1, none⟩) (by simp; omega)).trans y1
    have hs5 : w2.heap.size < w5.heap.size := by have := b5.size; omega
    have HB5 := Lib.hid (below_chain HB4.out (Nat.le_refl _) b5)
    clear b5 y0 y1 hs4
    go_wp2_with fail
    refine (code8_true s A1.out z1 O1.out 20 (by omega) (by omega) w5).mono ?_
    rintro e w' ⟨rfl, rfl⟩
    go_wp2_with fail
    refine (code8_true s A2.out (by omega) O2.out 20 (by omega) (by omega) w5).mono ?_
    rintro e w' ⟨rfl, rfl⟩
    have H0 : Hid (BackS w5 w5.drew w2.heap.size r l) := ⟨below_undrew (Below.refl _ w5.drew), x0, x1⟩
    have HKeep : ∀ {wx wy : World}, BackS w5 wx w2.heap.size r l → Below wx.heap.size wx wy → BackS w5 wy w2.heap.size r l := fun {wx wy} h hb => by
      have hsz := h.1.size
      exact ⟨h.1.trans (hb.mono hsz), (hb.cell (p := ⟨w2.heap.size, 0, none⟩) (by simp; omega)).trans h.2.1, (hb.cell (p := ⟨w2.heap.size, 1, none⟩) (by simp; omega)).trans h.2.2⟩
    have C1 : Hid (∀ W c, BackS w5 W w2.heap.size r l → c = s ∨ c = s → Calls Tryd.prog 26 #[.string c, .slice a len cap] W fun e W' => ∃ v, e = .returned v ∧ BackS w5 W' w2.heap.size r l ∧ Hid (∀ n : Int, n = (c.size : Nat) → Calls Tryd.prog 21 #[.bool first, pairV r l, .int .i64 n, .int .i64 0, v] W' fun e W'' => e = .returned (.bool true) ∧ BackS w5 W'' w2.heap.size r l)) := fun W c hW hc => by
      have hbW := HB5.out.trans (hW.1.mono HB5.out.size)
      have hA : AllBits c ∧ c.size ≤ 20 ∧ ∀ zs, Stands zs 0 c → got first zs 0 = ⟨r, l, false, (c.size : Nat), 0⟩ := by
        rcases hc with rfl | rfl
        · exact ⟨A1.out, z2, fun zs h => HG.out zs h⟩
        · exact ⟨A2.out, by omega, fun zs h => by rw [z5]; exact HX.out zs h⟩
      obtain ⟨q1, q2, q3⟩ := hA
      refine (bytes8_any (HR.out.below hbW) hbW.size (by omega) c q1 c.size rfl (by omega)).mono ?_
      rintro e W' ⟨zs, v, rfl, hzl, ho, hd, hb⟩
      have hS' := HKeep hW hb
      refine ⟨v, rfl, hS', ?_⟩
      have hbW' := HB5.out.trans (hS'.1.mono HB5.out.size)
      rintro n rfl
      refine (gets8_byt I (byt_own ho (by omega) (Nat.le_refl _)) (Nat.le_refl _) (by omega) (HT.out _ hbW') first r l (c.size : Nat) 0 (q3 zs (stands_of (by omega) hd))).mono ?_
      rintro e W'' ⟨rfl, hb2⟩
      exact ⟨rfl, HKeep hS' hb2⟩
    clear HKeep HG HX HP HE HS HK HOf
    go_wp2_with fail
    go_region_held3 (fun w' => BackS w5 w' w2.heap.size r l)
      (first | exact H0.out | assumption | exact hSl)
      (first
       | (go_at_call 26; refine (C1.out _ _ (by assumption) (by first | exact .inl rfl | exact .inr rfl)).mono ?_; rintro e wl ⟨vl, rfl, hSl, HGl⟩)
       | (go_at_call 21; refine (HGl.out _ (by omega)).mono ?_; rintro e wl ⟨rfl, hSl⟩))
    rename_i hHeld
    go_wp2
    go_ret
    exact ⟨rfl, HB5.out.trans (hHeld.1.mono HB5.out.size)⟩

end Go.Proofs.YtejcgkplcbapfaaDoor
