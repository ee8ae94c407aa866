/- The laws' helpers pair, gets, puts, awake (praxinoscopelaw08); the walks of CoeffKnown, CoeffGets, CoeffPuts. -/
import Derived.Test.YtejcgkplcbapfaaDoorELaw0
import Derived.Test.YtejcgkplcbapfaaDoorEHelp
namespace Go.Proofs.YtejcgkplcbapfaaDoor
open Go.RowKit Go.Shelf
set_option linter.unusedVariables false

set_option maxHeartbeats 1000000 in
theorem gets8_byt (I : CoeffI) {n₁ : Nat} {w : World} {sv : Value} {zs : List UInt8} (hB : Byt n₁ w sv zs) (hn : n₁ ≤ w.heap.size) (hl : zs.length ≤ 1000) (hT : Lay8 w) (first : Bool) (r l size err : Int)
    (h : got first zs 0 = ⟨r, l, false, size, err⟩) :
    Calls Tryd.prog 21 #[.bool first, pairV r l, .int .i64 size, .int .i64 err, sv] w fun e w' => e = .returned (.bool true) ∧ Below w.heap.size w w' := by
  have hb0 : Below w.heap.size w (w.alloc (.cells #[.int .i64 r, .int .i64 l] 26 (0, 0))) := (Below.refl _ w).alloc (Nat.le_refl _) _
  have HG := Lib.hid (I.get (hB.below (hb0.mono hn)) (by simp; omega) (by omega) (hT.below hb0) 0 first (by omega))
  rw [h] at HG
  obtain ⟨z0, z1⟩ := two_cells w (.int .i64 r) (.int .i64 l) 26
  have hsz : (w.alloc (.cells #[.int .i64 r, .int .i64 l] 26 (0, 0))).heap.size = w.heap.size + 1 := by simp
  have HB0 := Lib.hid hb0
  have heq := fun W => pair_eq r l r l W
  simp only [beq_self_eq_true, Bool.and_self] at heq
  clear h hB hT hb0
  go_enter Tryd.func21, Tryd.ntmps21
  go_wp2_with fail
  generalize w.alloc (.cells #[.int .i64 r, .int .i64 l] 26 (0, 0)) = w1 at *
  refine HG.out.mono ?_
  rintro e w2 ⟨rfl, b2⟩
  have x0 := (b2.cell (p := ⟨w.heap.size, 0, none⟩) (by simp; omega)).trans z0
  have x1 := (b2.cell (p := ⟨w.heap.size, 1, none⟩) (by simp; omega)).trans z1
  have hs2 := b2.size
  have B2 := HB0.out.trans (b2.mono (by omega))
  have hlt2 : w.heap.size < w2.heap.size := by omega
  clear z0 z1 b2
  go_wp2
  go_ret
  exact ⟨rfl, B2.alloc (by omega) _⟩
theorem gets8_lit (I : CoeffI) (W : World) (hT : Lay8 W) (zs : List UInt8) (cs : Array Value) (len cap : Nat) (hcs : cs = (zs.map fun z => Value.int .u8 z.toNat).toArray) (hlen : zs.length = len) (first : Bool) (r l size err : Int) (hl : len ≤ 1000)
    (h : got first zs 0 = ⟨r, l, false, size, err⟩) (t : TypeId) :
    Calls Tryd.prog 21 #[.bool first, pairV r l, .int .i64 size, .int .i64 err, .slice (some ⟨W.heap.size, 0, none⟩) len cap] (W.alloc (.cells cs t)) fun e w' => e = .returned (.bool true) ∧ Below W.heap.size W w' := by
  subst hlen
  have hb : Below W.heap.size W (W.alloc (.cells cs t)) := (Below.refl _ _).alloc (Nat.le_refl _) _
  refine (gets8_byt I (byt_new W zs cs cap hcs (by omega) (W.heap.size + 1) (by omega) t) (by simp) (by omega) (hT.below hb) first r l size err h).mono ?_
  rintro e w' ⟨rfl, hb2⟩
  exact ⟨rfl, below_chain hb (Nat.le_refl _) hb2⟩
set_option maxHeartbeats 1000000 in
theorem puts8_lit (I : CoeffI) (r l : Int) (first : Bool) (want : ByteArray) (h1 : putS8 first r l = want) (h2 : putE8 r l = 0) (hn : -1000 ≤ l) (hn2 : l ≤ 1000) (w : World) (hT : Lay8 w) :
    Calls Tryd.prog 23 #[pairV r l, .bool first, .string want] w fun e w' => e = .returned (.bool true) ∧ Below w.heap.size w w' := by
  have hb0 : Below w.heap.size w (w.alloc (.cells #[.int .i64 r, .int .i64 l] 26 (0, 0))) := (Below.refl _ w).alloc (Nat.le_refl _) _
  have HG := Lib.hid (I.put r l first _ (hT.below hb0) (by omega) (by omega))
  rw [h1, h2] at HG
  have HB0 := Lib.hid hb0
  clear h1 h2 hT hb0
  go_enter Tryd.func23, Tryd.ntmps23
  go_wp2_with (go_at_call 14; refine HG.out.mono ?_; rintro e w' ⟨rfl, b2⟩)
  go_ret
  exact ⟨rfl, HB0.out.trans (b2.mono (by simp))⟩
theorem put8_lit (I : CoeffI) (r l : Int) (first : Bool) (s : ByteArray) (err : Int) (h1 : putS8 first r l = s) (h2 : putE8 r l = err) (hn : -1000 ≤ l) (hn2 : l ≤ 1000) (w : World) (hT : Lay8 w) :
    Calls Tryd.prog 14 #[pairV r l, .bool first] w fun e w' => e = .returned (.tuple #[.string s, .int .i64 err]) ∧ Below w.heap.size w w' := by
  have h := I.put r l first w hT (by omega) (by omega)
  rwa [h1, h2] at h
theorem esc8_lit (I : CoeffI) (r l : Int) (s : ByteArray) (err : Int) (h1 : escS8 r l = s) (h2 : putE8 r l = err) (w : World) (hT : Lay8 w) :
    Calls Tryd.prog 16 #[pairV r l] w fun e w' => e = .returned (.tuple #[.string s, .int .i64 err]) ∧ Below w.heap.size w w' := by
  have h := I.esc r l w hT
  rwa [h1, h2] at h
theorem short8_lit (I : CoeffI) (r l : Int) (b : Bool) (h1 : shortB r l = b) (hn : -1000 ≤ l) (hn2 : l ≤ 1000) (w : World) (hT : Lay8 w) :
    Calls Tryd.prog 18 #[pairV r l] w fun e w' => e = .returned (.bool b) ∧ Below w.heap.size w w' := by
  have h := I.short r l w hT (by omega) (by omega)
  rwa [h1] at h
theorem get8_lit (I : CoeffI) (W : World) (hT : Lay8 W) (zs : List UInt8) (cs : Array Value) (len cap : Nat) (hcs : cs = (zs.map fun z => Value.int .u8 z.toNat).toArray) (hlen : zs.length = len) (first : Bool) (r l : Int) (o : Bool) (size err : Int) (hl : len ≤ 1000)
    (h : got first zs 0 = ⟨r, l, o, size, err⟩) (t : TypeId) :
    Calls Tryd.prog 11 #[.slice (some ⟨W.heap.size, 0, none⟩) len cap, .int .i64 0, .bool first] (W.alloc (.cells cs t)) fun e w' => e = .returned (.tuple #[.agg #[.int .i64 r, .int .i64 l], .bool o, .int .i64 size, .int .i64 err]) ∧ Below W.heap.size W w' := by
  subst hlen
  have hb : Below W.heap.size W (W.alloc (.cells cs t)) := (Below.refl _ _).alloc (Nat.le_refl _) _
  have hG := I.get (byt_new W zs cs cap hcs (by omega) (W.heap.size + 1) (by omega) t) (by simp) (by omega) (hT.below hb) 0 first (by omega)
  rw [h] at hG
  refine hG.mono ?_
  rintro e w' ⟨rfl, hb2⟩
  exact ⟨rfl, below_chain hb (Nat.le_refl _) hb2⟩

set_option maxRecDepth 100000 in
set_option maxHeartbeats 4000000 in
theorem awake8_any (I : CoeffI) (w : World) (hT : Lay8 w) : Calls Tryd.prog 9 #[] w fun e w' => e = .returned (.bool true) ∧ Below w.heap.size w w' := by
  have HT := Lib.hid (fun w' (hb : Below w.heap.size w w') => hT.below hb)
  clear hT
  go_enter Tryd.func9, Tryd.ntmps9
  go_wp2_with fail
  refine (pair8_any 0 (-1) w).mono ?_
  rintro e w1 ⟨rfl, b1⟩
  have B1 := Lib.hid b1
  clear b1
  go_wp2_with fail
  refine (gets8_lit I w1 (HT.out w1 B1.out) [192] _ 1 1 (by rfl) rfl true 0 (-1) 2 0 (by omega) (by kernel_rfl) _).mono ?_
  rintro e w2 ⟨rfl, b2⟩
  have B2 := Lib.hid (below_chain B1.out (Nat.le_refl _) b2)
  clear b2
  go_wp2_with fail
  refine (pair8_any 0 1 w2).mono ?_
  rintro e w3 ⟨rfl, b3⟩
  have B3 := Lib.hid (below_chain B2.out (Nat.le_refl _) b3)
  clear b3
  go_wp2_with fail
  refine (gets8_lit I w3 (HT.out w3 B3.out) [192] _ 1 1 (by rfl) rfl false 0 1 3 0 (by omega) (by kernel_rfl) _).mono ?_
  rintro e w4 ⟨rfl, b4⟩
  have B4 := Lib.hid (below_chain B3.out (Nat.le_refl _) b4)
  clear b4
  go_wp2_with fail
  refine (pair8_any 0 49 w4).mono ?_
  rintro e w5 ⟨rfl, b5⟩
  have B5 := Lib.hid (below_chain B4.out (Nat.le_refl _) b5)
  clear b5
  go_wp2_with fail
  refine (gets8_lit I w5 (HT.out w5 B5.out) [4, 3, 16] _ 3 3 (by rfl) rfl false 0 49 20 0 (by omega) (by kernel_rfl) _).mono ?_
  rintro e w6 ⟨rfl, b6⟩
  have B6 := Lib.hid (below_chain B5.out (Nat.le_refl _) b6)
  clear b6
  go_wp2_with fail
  refine (pair8_any 26 (-1) w6).mono ?_
  rintro e w7 ⟨rfl, b7⟩
  have B7 := Lib.hid (below_chain B6.out (Nat.le_refl _) b7)
  clear b7
  go_wp2_with fail
  refine (puts8_lit I 26 (-1) true _ (by decide +kernel) (by decide +kernel) (by omega) (by omega) w7 (HT.out w7 B7.out)).mono ?_
  rintro e w8 ⟨rfl, b8⟩
  have B8 := Lib.hid (below_chain B7.out (Nat.le_refl _) b8)
  clear b8
  go_wp2_with fail
  refine (I.fin w8).mono ?_
  rintro e w9 ⟨rfl, rfl⟩
  go_wp2
  go_ret
  exact ⟨rfl, B8.out⟩

set_option maxRecDepth 100000 in
set_option maxHeartbeats 8000000 in
theorem known8_any (I : CoeffI) (w : World) (hT : Lay8 w) : Calls Tryd.prog 5 #[] w fun e w' => e = .returned (.bool true) ∧ Below w.heap.size w w' := by
  have HT := Lib.hid (fun w' (hb : Below w.heap.size w w') => hT.below hb)
  clear hT
  go_enter Tryd.func5, Tryd.ntmps5
  go_wp2_with fail
  refine (get8_lit I w (HT.out w (Below.refl _ _)) [128] _ 1 1 (by rfl) rfl false 0 0 true 2 0 (by omega) (by kernel_rfl) _).mono ?_
  rintro e w1 ⟨rfl, b1⟩
  have B0 := Lib.hid (b1.alloc b1.size (.cells #[.int .i64 0, .int .i64 0] 26 (0, 0)))
  clear b1
  go_wp2_with fail
  generalize w1.alloc (.cells #[.int .i64 0, .int .i64 0] 26 (0, 0)) = w1' at *
  refine (pair8_any 0 1 w1').mono ?_
  rintro e w2 ⟨rfl, b2⟩
  have B2 := Lib.hid (below_chain B0.out (Nat.le_refl _) b2)
  clear b2
  go_wp2_with fail
  refine (gets8_lit I w2 (HT.out w2 B2.out) [128] _ 1 1 (by rfl) rfl true 0 1 2 0 (by omega) (by kernel_rfl) _).mono ?_
  rintro e w3 ⟨rfl, b3⟩
  have B3 := Lib.hid (below_chain B2.out (Nat.le_refl _) b3)
  clear b3
  go_wp2_with fail
  refine (pair8_any 0 (-1) w3).mono ?_
  rintro e w4 ⟨rfl, b4⟩
  have B4 := Lib.hid (below_chain B3.out (Nat.le_refl _) b4)
  clear b4
  go_wp2_with fail
  refine (gets8_lit I w4 (HT.out w4 B4.out) [224] _ 1 1 (by rfl) rfl false 0 (-1) 3 0 (by omega) (by kernel_rfl) _).mono ?_
  rintro e w5 ⟨rfl, b5⟩
  have B5 := Lib.hid (below_chain B4.out (Nat.le_refl _) b5)
  clear b5
  go_wp2_with fail
  refine (pair8_any 0 2 w5).mono ?_
  rintro e w6 ⟨rfl, b6⟩
  have B6 := Lib.hid (below_chain B5.out (Nat.le_refl _) b6)
  clear b6
  go_wp2_with fail
  refine (gets8_lit I w6 (HT.out w6 B6.out) [64] _ 1 1 (by rfl) rfl false 0 2 5 0 (by omega) (by kernel_rfl) _).mono ?_
  rintro e w7 ⟨rfl, b7⟩
  have B7 := Lib.hid (below_chain B6.out (Nat.le_refl _) b7)
  clear b7
  go_wp2_with fail
  refine (pair8_any 0 (-2) w7).mono ?_
  rintro e w8 ⟨rfl, b8⟩
  have B8 := Lib.hid (below_chain B7.out (Nat.le_refl _) b8)
  clear b8
  go_wp2_with fail
  refine (gets8_lit I w8 (HT.out w8 B8.out) [72] _ 1 1 (by rfl) rfl false 0 (-2) 5 0 (by omega) (by kernel_rfl) _).mono ?_
  rintro e w9 ⟨rfl, b9⟩
  have B9 := Lib.hid (below_chain B8.out (Nat.le_refl _) b9)
  clear b9
  go_wp2_with fail
  refine (pair8_any 0 0 w9).mono ?_
  rintro e w10 ⟨rfl, b10⟩
  have B10 := Lib.hid (below_chain B9.out (Nat.le_refl _) b10)
  clear b10
  go_wp2_with fail
  refine (gets8_lit I w10 (HT.out w10 B10.out) [4, 0, 0] _ 3 3 (by rfl) rfl true 0 0 0 10 (by omega) (by kernel_rfl) _).mono ?_
  rintro e w11 ⟨rfl, b11⟩
  have B11 := Lib.hid (below_chain B10.out (Nat.le_refl _) b11)
  clear b11
  go_wp2_with fail
  refine (pair8_any 0 0 w11).mono ?_
  rintro e w12 ⟨rfl, b12⟩
  have B12 := Lib.hid (below_chain B11.out (Nat.le_refl _) b12)
  clear b12
  go_wp2_with fail
  refine (gets8_lit I w12 (HT.out w12 B12.out) [0, 32] _ 2 2 (by rfl) rfl true 0 0 0 7 (by omega) (by kernel_rfl) _).mono ?_
  rintro e w13 ⟨rfl, b13⟩
  have B13 := Lib.hid (below_chain B12.out (Nat.le_refl _) b13)
  clear b13
  go_wp2_with fail
  refine (pair8_any 0 0 w13).mono ?_
  rintro e w14 ⟨rfl, b14⟩
  have B14 := Lib.hid (below_chain B13.out (Nat.le_refl _) b14)
  clear b14
  go_wp2_with fail
  refine (gets8_lit I w14 (HT.out w14 B14.out) [4] _ 1 1 (by rfl) rfl true 0 0 0 5 (by omega) (by kernel_rfl) _).mono ?_
  rintro e w15 ⟨rfl, b15⟩
  have B15 := Lib.hid (below_chain B14.out (Nat.le_refl _) b15)
  clear b15
  go_wp2_with fail
  refine (pair8_any 0 (-1) w15).mono ?_
  rintro e w16 ⟨rfl, b16⟩
  have B16 := Lib.hid (below_chain B15.out (Nat.le_refl _) b16)
  clear b16
  go_wp2_with fail
  refine (esc8_lit I 0 (-1) ⟨#[48, 48, 48, 48, 48, 49, 48, 48, 48, 48, 48, 48, 49, 49, 49, 49, 49, 49, 49, 49]⟩ 0 (by decide +kernel) (by decide +kernel) w16 (HT.out w16 B16.out)).mono ?_
  rintro e w17 ⟨rfl, b17⟩
  have B17 := Lib.hid (below_chain B16.out (Nat.le_refl _) b17)
  clear b17
  go_wp2_with fail
  refine (pair8_any 0 0 w17).mono ?_
  rintro e w18 ⟨rfl, b18⟩
  have B18 := Lib.hid (below_chain B17.out (Nat.le_refl _) b18)
  clear b18
  go_wp2_with fail
  refine (put8_lit I 0 0 true ⟨#[]⟩ 3 (by decide +kernel) (by decide +kernel) (by omega) (by omega) w18 (HT.out w18 B18.out)).mono ?_
  rintro e w19 ⟨rfl, b19⟩
  have B19 := Lib.hid (below_chain B18.out (Nat.le_refl _) b19)
  clear b19
  go_wp2_with fail
  refine (pair8_any 0 1 w19).mono ?_
  rintro e w20 ⟨rfl, b20⟩
  have B20 := Lib.hid (below_chain B19.out (Nat.le_refl _) b20)
  clear b20
  go_wp2_with fail
  refine (puts8_lit I 0 1 true _ (by decide +kernel) (by decide +kernel) (by omega) (by omega) w20 (HT.out w20 B20.out)).mono ?_
  rintro e w21 ⟨rfl, b21⟩
  have B21 := Lib.hid (below_chain B20.out (Nat.le_refl _) b21)
  clear b21
  go_wp2_with fail
  refine (pair8_any 0 1 w21).mono ?_
  rintro e w22 ⟨rfl, b22⟩
  have B22 := Lib.hid (below_chain B21.out (Nat.le_refl _) b22)
  clear b22
  go_wp2_with fail
  refine (puts8_lit I 0 1 false _ (by decide +kernel) (by decide +kernel) (by omega) (by omega) w22 (HT.out w22 B22.out)).mono ?_
  rintro e w23 ⟨rfl, b23⟩
  have B23 := Lib.hid (below_chain B22.out (Nat.le_refl _) b23)
  clear b23
  go_wp2_with fail
  refine (pair8_any 27 1 w23).mono ?_
  rintro e w24 ⟨rfl, b24⟩
  have B24 := Lib.hid (below_chain B23.out (Nat.le_refl _) b24)
  clear b24
  go_wp2_with fail
  refine (puts8_lit I 27 1 true _ (by decide +kernel) (by decide +kernel) (by omega) (by omega) w24 (HT.out w24 B24.out)).mono ?_
  rintro e w25 ⟨rfl, b25⟩
  have B25 := Lib.hid (below_chain B24.out (Nat.le_refl _) b25)
  clear b25
  go_wp2_with fail
  refine (awake8_any I w25 (HT.out w25 B25.out)).mono ?_
  rintro e w26 ⟨rfl, b26⟩
  have B26 := Lib.hid (below_chain B25.out (Nat.le_refl _) b26)
  clear b26
  go_wp2_with fail
  refine (pair8_any 1 8 w26).mono ?_
  rintro e w27 ⟨rfl, b27⟩
  have B27 := Lib.hid (below_chain B26.out (Nat.le_refl _) b27)
  clear b27
  go_wp2_with fail
  refine (short8_lit I 1 8 false (by decide +kernel) (by omega) (by omega) w27 (HT.out w27 B27.out)).mono ?_
  rintro e w28 ⟨rfl, b28⟩
  have B28 := Lib.hid (below_chain B27.out (Nat.le_refl _) b28)
  clear b28
  go_wp2
  go_ret
  exact ⟨rfl, B28.out⟩

end Go.Proofs.YtejcgkplcbapfaaDoor
