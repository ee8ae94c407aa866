/- The walk of BlockBack (praxinoscopelaw12). -/
import Derived.Test.YtbcfiafgolcbpaaGreatDoorYLaw5
import Derived.Test.YtbcfiafgolcbpaaGreatDoorEBack
import Derived.Deep.RegionHeld3
namespace Go.Proofs.YtbcfiafgolcbpaaGreatDoor
open Go.RowKit Go.Shelf
set_option linter.unusedVariables false

theorem allB_bits {s : ByteArray} (h : allB s = true) : AllBits s := (allB_iff s).1 h

theorem bt_takeY (zs : List UInt8) (e i : Nat) (h : i < 8 * e) : bt (zs.take e) i = bt zs i := by
  unfold bt
  have : i / 8 < e := by omega
  simp [List.getD, this]
theorem byt_takeY {n₀ : Nat} {w : World} {a : Option Addr} {cap : Nat} {zs : List UInt8} (h : Byt n₀ w (.slice a zs.length cap) zs) (e : Nat) (he : e ≤ zs.length) : Byt n₀ w (.slice a e cap) (zs.take e) := by
  obtain ⟨a', cap', e1, hl, hz⟩ := h
  cases e1
  have hte : (zs.take e).length = e := by simp; omega
  refine ⟨a, cap, by rw [hte], by omega, ?_⟩
  rcases hz with rfl | ⟨b, off, rfl, hb, hc⟩
  · left; simp
  · refine .inr ⟨b, off, rfl, hb, fun j hj => ?_⟩
    rw [hc j (by omega)]
    have : j < e := by omega
    simp [this]
/-- what is left of a block's bits when the last byte is taken away -/
theorem cut_of {zs : List UInt8} {s : ByteArray} {n : Nat} (h2 : s.size = n) (h3 : 2 ≤ n) (h1 : zs.length = (n + 0 + 7) / 8) (h : ∀ j (hj : j < s.size), s[j] = UInt8.ofNat (48 + bt zs j)) : Cut (zs.take ((n - 1) / 8)) 0 s := by
  have hl : (zs.take ((n - 1) / 8)).length = (n - 1) / 8 := by rw [List.length_take]; omega
  refine ⟨by omega, by omega, fun i hi => ?_⟩
  rw [Nat.zero_add] at *
  have h2' : i < s.data.toList.length := by
    have : s.data.toList.length = s.size := by simp
    omega
  rw [List.getElem?_eq_getElem h2', bt_takeY _ _ _ (by omega), ← h i (by omega)]
  simp
  rfl

abbrev YS (w2 w' : World) (g : Nat) (dc : Int) (v : Value) : Prop := Below w2.heap.size w2 w' ∧ w'.cell? ⟨g, 0, none⟩ = some (.int .i64 dc) ∧ w'.cell? ⟨g, 1, none⟩ = some v

set_option maxRecDepth 100000 in
set_option maxHeartbeats 4000000 in
theorem blockBack_walk (I : BlockI) {w : World} (hT : Lay8 w) {av : Option Addr} {len cap : Nat} {ps : List (Int × Int)} (hR : RowP w.heap.size w av len cap ps) (dc : Int) (intra : Bool) {a : Option Addr} {len' cap' : Nat} {ys : List Int} (hY : RowV w.heap.size w a len' cap' (intV ys)) :
    Calls Tryz.prog 7 #[blkV dc (.slice av len cap), .bool intra, .slice a len' cap'] w fun e w' => e = .returned (.bool true) ∧ Below w.heap.size w w' := by
  have hb0 : Below w.heap.size w (w.alloc (.cells #[.int .i64 dc, .slice av len cap] 27 (0, 0))) := (Below.refl _ w).alloc (Nat.le_refl _) _
  obtain ⟨x0, x1⟩ := two_cells w (.int .i64 dc) (.slice av len cap) 27
  have HK := Lib.hid (known12_any I _ (hT.below hb0))
  have HB0 := Lib.hid hb0
  have HRB := Lib.hid (fun w' (hb : Below w.heap.size w w') => hR.below hb)
  have HYB := Lib.hid (fun w' (hb : Below w.heap.size w w') => hY.below hb)
  have HT := Lib.hid (fun w' (hb : Below w.heap.size w w') => hT.below hb)
  have hpl := hR.1
  have hlt : w.heap.size < (w.alloc (.cells #[.int .i64 dc, .slice av len cap] 27 (0, 0))).heap.size := by simp
  clear hR hY hT hb0
  by_cases hlen : 64 < len
  · have q1 : decide ((64 : Int) < (len : Int)) = true := by simp; omega
    go_enter Tryz.func7, Tryz.ntmps7
    go_wp2_with fail
    generalize w.alloc (.cells #[.int .i64 dc, .slice av len cap] 27 (0, 0)) = w0 at *
    refine HK.out.mono ?_
    rintro e w1 ⟨rfl, b1⟩
    have y1 := (b1.cell (p := ⟨w.heap.size, 1, none⟩) hlt).trans x1
    have B1 := Lib.hid (HB0.out.trans (b1.mono HB0.out.size))
    clear b1
    go_wp2_with fail
    go_ret
    exact ⟨rfl, B1.out⟩
  · by_cases hlen' : 60 < len'
    · have q1 : decide ((64 : Int) < (len : Int)) = false := by simp; omega
      have q2 : decide ((60 : Int) < (len' : Int)) = true := by simp; omega
      go_enter Tryz.func7, Tryz.ntmps7
      go_wp2_with fail
      generalize w.alloc (.cells #[.int .i64 dc, .slice av len cap] 27 (0, 0)) = w0 at *
      refine HK.out.mono ?_
      rintro e w1 ⟨rfl, b1⟩
      have y1 := (b1.cell (p := ⟨w.heap.size, 1, none⟩) hlt).trans x1
      have B1 := Lib.hid (HB0.out.trans (b1.mono HB0.out.size))
      clear b1
      go_wp2_with fail
      go_ret
      exact ⟨rfl, B1.out⟩
    · have q1 : decide ((64 : Int) < (len : Int)) = false := by simp; omega
      have q2 : decide ((60 : Int) < (len' : Int)) = false := by simp; omega
      by_cases hck : chkY dc ps intra = 0
      · go_enter Tryz.func7, Tryz.ntmps7
        go_wp2_with fail
        generalize w.alloc (.cells #[.int .i64 dc, .slice av len cap] 27 (0, 0)) = w0 at *
        refine HK.out.mono ?_
        rintro e w1 ⟨rfl, b1⟩
        have y0 := (b1.cell (p := ⟨w.heap.size, 0, none⟩) hlt).trans x0
        have y1 := (b1.cell (p := ⟨w.heap.size, 1, none⟩) hlt).trans x1
        have hs1 := b1.size
        have B1 := Lib.hid (HB0.out.trans (b1.mono HB0.out.size))
        clear b1 x0 x1 HK
        have HP := Lib.hid (I.put (HRB.out w1 B1.out) B1.out.size (by omega) (HT.out w1 B1.out) dc intra)
        rw [if_pos hck, hck] at HP
        go_wp2_with fail
        refine HP.out.mono ?_
        rintro e w2 ⟨rfl, b2⟩
        have z0 := (b2.cell (p := ⟨w.heap.size, 0, none⟩) (by simp; omega)).trans y0
        have z1 := (b2.cell (p := ⟨w.heap.size, 1, none⟩) (by simp; omega)).trans y1
        have hs2 := b2.size
        have B2 := Lib.hid (B1.out.trans (b2.mono B1.out.size))
        have hsz := putTY_size dc ps intra
        have hbits := putTY_bits dc ps intra
        clear b2 y0 y1 HP
        have HAB := Lib.hid (allB_bits hbits)
        obtain ⟨tn, htn, ht2, ht3⟩ : ∃ tn : Nat, (putTY dc ps intra).size = tn ∧ 2 ≤ tn ∧ tn ≤ 1290 := ⟨_, rfl, by omega, by omega⟩
        have HGP := Lib.hid (fun zs hs => @got_putY zs 0 dc ps intra hck hs)
        have HGC := Lib.hid (fun zs hs => @got_cutY zs 0 dc ps intra hck hs)
        rw [htn] at HGP
        clear hbits hsz
        generalize putTY dc ps intra = T at *
        have hlt2 : w.heap.size < w2.heap.size := by omega
        have H0 : Hid (YS w2 w2.drew w.heap.size dc (.slice av len cap)) := ⟨below_undrew (Below.refl _ w2.drew), z0, z1⟩
        have HKeep : ∀ {wx wy : World}, YS w2 wx w.heap.size dc (.slice av len cap) → Below wx.heap.size wx wy → YS w2 wy w.heap.size dc (.slice av len cap) := fun {wx wy} h hb => by
          have hsz := h.1.size
          exact ⟨h.1.trans (hb.mono hsz), (hb.cell (p := ⟨w.heap.size, 0, none⟩) (by simp; omega)).trans h.2.1, (hb.cell (p := ⟨w.heap.size, 1, none⟩) (by simp; omega)).trans h.2.2⟩
        have CB : Hid (∀ W, YS w2 W w.heap.size dc (.slice av len cap) → Calls Tryz.prog 32 #[.string T] W fun e W' => e = .returned (.bool true) ∧ YS w2 W' w.heap.size dc (.slice av len cap)) := fun W hW => by
          refine (bits12_any T HAB.out tn htn (by omega) W).mono ?_
          rintro e W' ⟨rfl, rfl⟩
          exact ⟨rfl, hW⟩
        have CC : Hid (∀ W, YS w2 W w.heap.size dc (.slice av len cap) → Calls Tryz.prog 23 #[blkV dc (.slice av len cap), .bool intra] W fun e W' => e = .returned (.int .i64 0) ∧ YS w2 W' w.heap.size dc (.slice av len cap)) := fun W hW => by
          have hbW := B2.out.trans (hW.1.mono B2.out.size)
          refine (I.check (HRB.out W hbW) hbW.size (by omega) (HT.out W hbW) dc intra).mono ?_
          rintro e W' ⟨rfl, hb⟩
          exact ⟨by rw [hck], HKeep hW hb⟩
        have CY : Hid (∀ W, YS w2 W w.heap.size dc (.slice av len cap) → Calls Tryz.prog 33 #[.string T, .slice a len' cap'] W fun e W' => ∃ v, e = .returned v ∧ YS w2 W' w.heap.size dc (.slice av len cap) ∧ Hid (∀ n : Int, n = (tn : Int) → Calls Tryz.prog 30 #[.bool intra, blkV dc (.slice av len cap), .int .i64 n, .int .i64 0, v] W' fun e W'' => e = .returned (.bool true) ∧ YS w2 W'' w.heap.size dc (.slice av len cap))) := fun W hW => by
          have hbW := B2.out.trans (hW.1.mono B2.out.size)
          refine (bytes12_any (HYB.out W hbW) hbW.size (by omega) T HAB.out tn htn (by omega)).mono ?_
          rintro e W' ⟨zs, v, rfl, hzl, ho, hd, hb⟩
          have hS' := HKeep hW hb
          have hbW' := B2.out.trans (hS'.1.mono B2.out.size)
          refine ⟨v, rfl, hS', ?_⟩
          rintro n rfl
          refine (gets12_any I (byt_own ho (by omega) (Nat.le_refl _)) (Nat.le_refl _) (by omega) (HT.out _ hbW') intra (HRB.out W' hbW').cellsP (by omega) dc tn 0 (HGP.out zs (stands_of (by omega) hd))).mono ?_
          rintro e W'' ⟨rfl, hb2⟩
          exact ⟨rfl, HKeep hS' hb2⟩
        have HTN := Lib.hid htn
        have v1 : decide ((tn : Int) < 2) = false := by simp; omega
        clear HKeep HGP hck
        go_wp2_with fail
        go_region_held3 (fun w' => YS w2 w' w.heap.size dc (.slice av len cap))
          (first | exact H0.out | assumption | exact hSl)
          (first
           | (go_at_call 32; refine (CB.out _ (by assumption)).mono ?_; rintro e wl ⟨rfl, hSl⟩)
           | (go_at_call 23; refine (CC.out _ (by assumption)).mono ?_; rintro e wl ⟨rfl, hSl⟩)
           | (go_at_call 33; refine (CY.out _ (by assumption)).mono ?_; rintro e wl ⟨vl, rfl, hSl, HGl⟩)
           | (go_at_call 30; refine (HGl.out _ (by omega)).mono ?_; rintro e wl ⟨rfl, hSl⟩))
        rename_i hHeld
        have hS := Lib.hid hHeld
        go_wp2_with fail
        have hbw := B2.out.trans (hS.out.1.mono B2.out.size)
        refine (bytes12_any (n₀ := 0) (w := wl) (a := none) (len := 0) (cap := 0) (ys := []) ⟨rfl, Nat.le_refl _, by omega, .inl rfl⟩ (Nat.zero_le _) (by omega) T HAB.out tn htn (by omega)).mono ?_
        rintro e w3 ⟨zs, v, rfl, hzl, ho, hd, b3⟩
        have hby := byt_own ho (by omega) (Nat.le_refl _)
        obtain ⟨ga, gc, rfl, hgr⟩ := rowV_own4 ho
        have hgc : zs.length ≤ gc := hgr.2.1
        have hgm := hgr.2.2.1
        have hcut := Lib.hid (cut_of htn ht2 hzl hd)
        have HBY := Lib.hid hby
        have B3 := Lib.hid (hbw.trans (b3.mono hbw.size))
        clear hby ho hgr hd b3 hbw
        obtain ⟨k, hk, hk1, hk2⟩ : ∃ k : Nat, (tn - 1) / 8 = k ∧ ((tn : Int) - 1).tdiv 8 = (k : Int) ∧ k ≤ zs.length := ⟨_, rfl, by rw [Int.tdiv_eq_ediv_of_nonneg (by omega)]; omega, by omega⟩
        rw [hk] at hcut
        go_wp2_with fail
        refine (gets12_any I (byt_takeY HBY.out k hk2) (Nat.le_refl _) (by rw [List.length_take]; omega) (HT.out _ B3.out) intra (u := .slice none 0 0) (ps := []) ⟨none, 0, rfl, .inl rfl⟩ (by simp) 0 0 5 (HGC.out _ hcut.out)).mono ?_
        rintro e w4 ⟨rfl, b4⟩
        have B4 := B3.out.trans (b4.mono B3.out.size)
        go_wp2_with fail
        go_ret
        exact ⟨rfl, B4⟩
      · have HP := Lib.hid (fun w1 hb => I.put (w := w1) (HRB.out w1 hb) hb.size (by omega) (HT.out w1 hb) dc intra)
        have HC := Lib.hid (fun w1 hb => I.check (w := w1) (HRB.out w1 hb) hb.size (by omega) (HT.out w1 hb) dc intra)
        rw [if_neg hck] at HP
        generalize chkY dc ps intra = er at *
        have q3 : (er == 0) = false := by simpa using hck
        go_enter Tryz.func7, Tryz.ntmps7
        go_wp2_with fail
        generalize w.alloc (.cells #[.int .i64 dc, .slice av len cap] 27 (0, 0)) = w0 at *
        refine HK.out.mono ?_
        rintro e w1 ⟨rfl, b1⟩
        have y0 := (b1.cell (p := ⟨w.heap.size, 0, none⟩) hlt).trans x0
        have y1 := (b1.cell (p := ⟨w.heap.size, 1, none⟩) hlt).trans x1
        have hs1 := b1.size
        have B1 := Lib.hid (HB0.out.trans (b1.mono HB0.out.size))
        clear b1 x0 x1 HK
        go_wp2_with fail
        refine (HP.out w1 B1.out).mono ?_
        rintro e w2 ⟨rfl, b2⟩
        have z0 := (b2.cell (p := ⟨w.heap.size, 0, none⟩) (by simp; omega)).trans y0
        have z1 := (b2.cell (p := ⟨w.heap.size, 1, none⟩) (by simp; omega)).trans y1
        have hs2 := b2.size
        have B2 := Lib.hid (B1.out.trans (b2.mono B1.out.size))
        clear b2 y0 y1
        go_wp2_with fail
        refine (HC.out w2 B2.out).mono ?_
        rintro e w3 ⟨rfl, b3⟩
        have B3 := Lib.hid (B2.out.trans (b3.mono B2.out.size))
        go_wp2_with fail
        go_ret
        exact ⟨rfl, B3.out⟩

end Go.Proofs.YtbcfiafgolcbpaaGreatDoor
