/- What vector's functions must answer, as one record; the laws' helpers gets, puts, turns, diffs, awake (praxinoscopelaw06); the walks of VectorGets, VectorTurns, VectorKnown, VectorOne. -/
import Derived.Test.YtmmnnedhoanhnaaDoorVRef
namespace Go.Proofs.YtmmnnedhoanhnaaDoor
open Go.RowKit Go.Shelf
set_option linter.unusedVariables false

/-- what the variable tails holds -/
def tailsB : List ByteArray := [[], [], [], [], [1], [0, 1], [0, 0], [1], [0, 1, 1], [0, 1, 0], [0, 0, 1], [0, 0, 0, 1], [0, 0, 0, 0], [1, 1, 1], [1, 1, 0], [1, 0, 1], [1, 0, 0]].map bitsT
def Tails (w : World) : Prop := ∀ k, k < 17 → w.cell? ⟨0, k, none⟩ = some (.string (tailsB[k]?.getD ⟨#[]⟩))
theorem Tails.below {w w' : World} (h : Tails w) (hb : Below w.heap.size w w') : Tails w' := fun k hk =>
  (hb.cell (p := ⟨0, k, none⟩) (World.block_lt_of_cell? w _ (h k hk))).trans (h k hk)

/-- what vector's functions must answer -/
structure VectorI : Prop where
  get : ∀ {n₁ : Nat} {w : World} {sv : Value} {zs : List UInt8}, Byt n₁ w sv zs → n₁ ≤ w.heap.size → zs.length ≤ 1099511627776 → Tails w → ∀ x : Int, x ≤ 9223372036854775807 →
    Calls Tryd.prog 10 #[sv, .int .i64 x] w fun e w' => e = .returned (getT codes6 nums6 zs x) ∧ Below w.heap.size w w'
  put : ∀ (d : Int) (w : World), Tails w → -9223372036854775808 ≤ d → d ≤ 9223372036854775807 → Calls Tryd.prog 13 #[.int .i64 d] w fun e w' => e = .returned (.tuple #[.string (putS6 d), .int .i64 (putE6 d)]) ∧ w = w'
  turn : ∀ (p d : Int) (w : World), Calls Tryd.prog 15 #[.int .i64 p, .int .i64 d] w fun e w' => e = .returned (.tuple #[.int .i64 (turnN p d), .int .i64 (turnE p d)]) ∧ w = w'
  diff : ∀ (p q : Int) (w : World), Calls Tryd.prog 17 #[.int .i64 p, .int .i64 q] w fun e w' => e = .returned (.tuple #[.int .i64 (diffN p q), .int .i64 (diffE p q)]) ∧ w = w'
  pred : ∀ (a d : Int) (had : Bool) (x y : Int) (w : World), Calls Tryd.prog 19 #[.int .i64 a, .int .i64 d, .bool had, .int .i64 x, .int .i64 y] w fun e w' => e = .returned (.tuple #[.int .i64 (predN a d had x), .int .i64 (predN a d had y)]) ∧ w = w'

set_option maxHeartbeats 1000000 in
theorem gets6_byt (I : VectorI) {n₁ : Nat} {w : World} {sv : Value} {zs : List UInt8} (hB : Byt n₁ w sv zs) (hn : n₁ ≤ w.heap.size) (hl : zs.length ≤ 1000) (hT : Tails w) (want size err : Int)
    (h : getT codes6 nums6 zs 0 = .tuple #[.int .i64 want, .int .i64 size, .int .i64 err]) :
    Calls Tryd.prog 21 #[.int .i64 want, .int .i64 size, .int .i64 err, sv] w fun e w' => e = .returned (.bool true) ∧ Below w.heap.size w w' := by
  have HG := Lib.hid (I.get hB hn (by omega) hT 0 (by omega))
  rw [h] at HG
  clear h hB hT
  go_enter Tryd.func21, Tryd.ntmps21
  go_wp2_with (go_at_call 10; refine HG.out.mono ?_; rintro e w' ⟨rfl, hb2⟩)
  go_ret
  exact ⟨rfl, hb2⟩
theorem gets6_lit (I : VectorI) (W : World) (hT : Tails W) (zs : List UInt8) (cs : Array Value) (len cap : Nat) (hcs : cs = (zs.map fun z => Value.int .u8 z.toNat).toArray) (hlen : zs.length = len) (want size err : Int) (hl : len ≤ 1000)
    (h : getT codes6 nums6 zs 0 = .tuple #[.int .i64 want, .int .i64 size, .int .i64 err]) (t : TypeId) :
    Calls Tryd.prog 21 #[.int .i64 want, .int .i64 size, .int .i64 err, .slice (some ⟨W.heap.size, 0, none⟩) len cap] (W.alloc (.cells cs t)) fun e w' => e = .returned (.bool true) ∧ Below W.heap.size W w' := by
  subst hlen
  have hb : Below W.heap.size W (W.alloc (.cells cs t)) := (Below.refl _ _).alloc (Nat.le_refl _) _
  refine (gets6_byt I (byt_new W zs cs cap hcs (by omega) (W.heap.size + 1) (by omega) t) (by simp) (by omega) (hT.below hb) want size err h).mono ?_
  rintro e w' ⟨rfl, hb2⟩
  exact ⟨rfl, below_chain hb (Nat.le_refl _) hb2⟩
set_option maxHeartbeats 1000000 in
theorem puts6_lit (I : VectorI) (d : Int) (want : ByteArray) (h1 : putS6 d = want) (h2 : putE6 d = 0) (hn : -1000 ≤ d) (hn2 : d ≤ 1000) (w : World) (hT : Tails w) :
    Calls Tryd.prog 22 #[.int .i64 d, .string want] w fun e w' => e = .returned (.bool true) ∧ w = w' := by
  have HG := Lib.hid (I.put d w hT (by omega) (by omega))
  rw [h1, h2] at HG
  clear h1 h2 hT
  go_enter Tryd.func22, Tryd.ntmps22
  go_wp2_with (go_at_call 13; refine HG.out.mono ?_; rintro e w' ⟨rfl, rfl⟩)
  go_ret
  exact ⟨rfl, rfl⟩
set_option maxHeartbeats 1000000 in
theorem turns6_lit (I : VectorI) (p d want err : Int) (h1 : turnN p d = want) (h2 : turnE p d = err) (w : World) :
    Calls Tryd.prog 23 #[.int .i64 p, .int .i64 d, .int .i64 want, .int .i64 err] w fun e w' => e = .returned (.bool true) ∧ w = w' := by
  have HG := Lib.hid (I.turn p d w)
  rw [h1, h2] at HG
  clear h1 h2
  go_enter Tryd.func23, Tryd.ntmps23
  go_wp2_with (go_at_call 15; refine HG.out.mono ?_; rintro e w' ⟨rfl, rfl⟩)
  go_ret
  exact ⟨rfl, rfl⟩
set_option maxHeartbeats 1000000 in
theorem diffs6_lit (I : VectorI) (p q want : Int) (h1 : diffN p q = want) (h2 : diffE p q = 0) (w : World) :
    Calls Tryd.prog 24 #[.int .i64 p, .int .i64 q, .int .i64 want] w fun e w' => e = .returned (.bool true) ∧ w = w' := by
  have HG := Lib.hid (I.diff p q w)
  rw [h1, h2] at HG
  clear h1 h2
  go_enter Tryd.func24, Tryd.ntmps24
  go_wp2_with (go_at_call 17; refine HG.out.mono ?_; rintro e w' ⟨rfl, rfl⟩)
  go_ret
  exact ⟨rfl, rfl⟩
theorem pred6_lit (I : VectorI) (a d : Int) (had : Bool) (x y x' y' : Int) (h1 : predN a d had x = x') (h2 : predN a d had y = y') (w : World) :
    Calls Tryd.prog 19 #[.int .i64 a, .int .i64 d, .bool had, .int .i64 x, .int .i64 y] w fun e w' => e = .returned (.tuple #[.int .i64 x', .int .i64 y']) ∧ w = w' := by
  have h := I.pred a d had x y w
  rwa [h1, h2] at h
theorem put6_lit (I : VectorI) (d : Int) (s : ByteArray) (err : Int) (h1 : putS6 d = s) (h2 : putE6 d = err) (hn : -1000 ≤ d) (hn2 : d ≤ 1000) (w : World) (hT : Tails w) :
    Calls Tryd.prog 13 #[.int .i64 d] w fun e w' => e = .returned (.tuple #[.string s, .int .i64 err]) ∧ w = w' := by
  have h := I.put d w hT (by omega) (by omega)
  rwa [h1, h2] at h

set_option maxHeartbeats 1000000 in
theorem awake6_any (I : VectorI) (w : World) (hT : Tails w) : Calls Tryd.prog 8 #[] w fun e w' => e = .returned (.bool true) ∧ Below w.heap.size w w' := by
  have HT := Lib.hid (fun w' (hb : Below w.heap.size w w') => hT.below hb)
  clear hT
  go_enter Tryd.func8, Tryd.ntmps8
  go_wp2_with fail
  refine (gets6_lit I w (HT.out w (Below.refl _ _)) [96] _ 1 1 (by rfl) rfl (-1) 3 0 (by omega) (by kernel_rfl) _).mono ?_
  rintro e w1 ⟨rfl, b1⟩
  go_wp2_with fail
  refine (gets6_lit I w1 (HT.out w1 b1) [3, 32] _ 2 2 (by rfl) rfl (-16) 11 0 (by omega) (by kernel_rfl) _).mono ?_
  rintro e w2 ⟨rfl, b2⟩
  have B2 := Lib.hid (below_chain b1 (Nat.le_refl _) b2)
  clear b1 b2
  go_wp2_with fail
  refine (puts6_lit I 15 _ (by decide +kernel) (by decide +kernel) (by omega) (by omega) w2 (HT.out w2 B2.out)).mono ?_
  rintro e w3 ⟨rfl, rfl⟩
  go_wp2_with fail
  refine (turns6_lit I 10 10 (-12) 0 (by decide +kernel) (by decide +kernel) w2).mono ?_
  rintro e w3 ⟨rfl, rfl⟩
  go_wp2_with fail
  refine (diffs6_lit I 10 (-12) 10 (by decide +kernel) (by decide +kernel) w2).mono ?_
  rintro e w3 ⟨rfl, rfl⟩
  go_wp2
  go_ret
  exact ⟨rfl, B2.out⟩

set_option maxRecDepth 100000 in
set_option maxHeartbeats 4000000 in
theorem known6_any (I : VectorI) (w : World) (hT : Tails w) : Calls Tryd.prog 5 #[] w fun e w' => e = .returned (.bool true) ∧ Below w.heap.size w w' := by
  have HT := Lib.hid (fun w' (hb : Below w.heap.size w w') => hT.below hb)
  clear hT
  go_enter Tryd.func5, Tryd.ntmps5
  go_wp2_with fail
  refine (put6_lit I 16 ⟨#[]⟩ 3 (by decide +kernel) (by decide +kernel) (by omega) (by omega) w (HT.out w (Below.refl _ _))).mono ?_
  rintro e w1 ⟨rfl, rfl⟩
  go_wp2_with fail
  refine (gets6_lit I w (HT.out w (Below.refl _ _)) [128] _ 1 1 (by rfl) rfl 0 1 0 (by omega) (by kernel_rfl) _).mono ?_
  rintro e w1 ⟨rfl, b1⟩
  have B1 := Lib.hid b1
  clear b1
  go_wp2_with fail
  refine (gets6_lit I w1 (HT.out w1 B1.out) [64] _ 1 1 (by rfl) rfl 1 3 0 (by omega) (by kernel_rfl) _).mono ?_
  rintro e w2 ⟨rfl, b2⟩
  have B2 := Lib.hid (below_chain B1.out (Nat.le_refl _) b2)
  clear b2
  go_wp2_with fail
  refine (gets6_lit I w2 (HT.out w2 B2.out) [0, 255] _ 2 2 (by rfl) rfl 0 0 7 (by omega) (by kernel_rfl) _).mono ?_
  rintro e w3 ⟨rfl, b3⟩
  have B3 := Lib.hid (below_chain B2.out (Nat.le_refl _) b3)
  clear b3
  go_wp2_with fail
  refine (gets6_lit I w3 (HT.out w3 B3.out) [3] _ 1 1 (by rfl) rfl 0 0 5 (by omega) (by kernel_rfl) _).mono ?_
  rintro e w4 ⟨rfl, b4⟩
  have B4 := Lib.hid (below_chain B3.out (Nat.le_refl _) b4)
  clear b4
  go_wp2_with fail
  refine (puts6_lit I 0 _ (by decide +kernel) (by decide +kernel) (by omega) (by omega) w4 (HT.out w4 B4.out)).mono ?_
  rintro e w5 ⟨rfl, rfl⟩
  go_wp2_with fail
  refine (puts6_lit I (-16) _ (by decide +kernel) (by decide +kernel) (by omega) (by omega) w4 (HT.out w4 B4.out)).mono ?_
  rintro e w5 ⟨rfl, rfl⟩
  go_wp2_with fail
  refine (turns6_lit I 0 5 5 0 (by decide +kernel) (by decide +kernel) w4).mono ?_
  rintro e w5 ⟨rfl, rfl⟩
  go_wp2_with fail
  refine (turns6_lit I (-10) (-10) 12 0 (by decide +kernel) (by decide +kernel) w4).mono ?_
  rintro e w5 ⟨rfl, rfl⟩
  go_wp2_with fail
  refine (turns6_lit I 0 (-16) 0 12 (by decide +kernel) (by decide +kernel) w4).mono ?_
  rintro e w5 ⟨rfl, rfl⟩
  go_wp2_with fail
  refine (turns6_lit I 1 (-16) (-15) 0 (by decide +kernel) (by decide +kernel) w4).mono ?_
  rintro e w5 ⟨rfl, rfl⟩
  go_wp2_with fail
  refine (turns6_lit I (-1) (-16) 15 0 (by decide +kernel) (by decide +kernel) w4).mono ?_
  rintro e w5 ⟨rfl, rfl⟩
  go_wp2_with fail
  refine (turns6_lit I 16 0 0 3 (by decide +kernel) (by decide +kernel) w4).mono ?_
  rintro e w5 ⟨rfl, rfl⟩
  go_wp2_with fail
  refine (pred6_lit I 5 1 true 2 (-3) 2 (-3) (by decide +kernel) (by decide +kernel) w4).mono ?_
  rintro e w5 ⟨rfl, rfl⟩
  go_wp2_with fail
  refine (pred6_lit I 12 1 true 2 (-3) 0 0 (by decide +kernel) (by decide +kernel) w4).mono ?_
  rintro e w5 ⟨rfl, rfl⟩
  go_wp2_with fail
  refine (pred6_lit I 5 2 true 2 (-3) 0 0 (by decide +kernel) (by decide +kernel) w4).mono ?_
  rintro e w5 ⟨rfl, rfl⟩
  go_wp2_with fail
  refine (pred6_lit I 5 1 false 2 (-3) 0 0 (by decide +kernel) (by decide +kernel) w4).mono ?_
  rintro e w5 ⟨rfl, rfl⟩
  go_wp2_with fail
  refine (awake6_any I w4 (HT.out w4 B4.out)).mono ?_
  rintro e w5 ⟨rfl, b5⟩
  have B5 := Lib.hid (below_chain B4.out (Nat.le_refl _) b5)
  clear b5
  go_wp2_with fail
  refine (diffs6_lit I (-15) 15 (-2) (by decide +kernel) (by decide +kernel) w5).mono ?_
  rintro e w6 ⟨rfl, rfl⟩
  go_wp2_with fail
  refine (diffs6_lit I 15 (-15) 2 (by decide +kernel) (by decide +kernel) w5).mono ?_
  rintro e w6 ⟨rfl, rfl⟩
  go_wp2_with fail
  refine (diffs6_lit I 3 3 0 (by decide +kernel) (by decide +kernel) w5).mono ?_
  rintro e w6 ⟨rfl, rfl⟩
  go_wp2
  go_ret
  exact ⟨rfl, B5.out⟩

set_option maxRecDepth 100000 in
set_option maxHeartbeats 2000000 in
theorem vectorGets_walk (I : VectorI) {a : Option Addr} {len cap : Nat} {zs : List UInt8} {w : World} (hR : Row8 w.heap.size w a len cap zs) (x : Int) (hx : x ≤ 9223372036854775807) (hT : Tails w) :
    Calls Tryd.prog 3 #[.slice a len cap, .int .i64 x] w fun e w' => e = .returned (.bool true) ∧ Below w.heap.size w w' := by
  have HT := Lib.hid (fun w' (hb : Below w.heap.size w w') => hT.below hb)
  clear hT
  by_cases h : 100 < len
  · clear hR
    go_enter Tryd.func3, Tryd.ntmps3
    go_wp2_with (go_at_call 8; refine (awake6_any I w (HT.out w (Below.refl _ _))).mono ?_; rintro e w' ⟨rfl, b3⟩)
    go_ret
    exact ⟨rfl, b3⟩
  · have hl := hR.1
    subst hl
    have HSrc : Hid (Src w a zs.length (u8s zs)) := by
      have h := hR.src (n := zs.length) (Nat.le_refl _)
      rw [List.take_length] at h
      exact h
    have HB : Hid (∀ w', Below w.heap.size w w' → Byt w.heap.size w' (.slice a zs.length cap) zs) := fun w' hb => by
      have h := hR.byt (Nat.le_refl _) (k := zs.length) (Nat.le_refl _) (by omega)
      rw [List.take_length] at h
      exact h.below hb
    have HNc := Lib.hid hR.nocap
    obtain ⟨g, n, e0, hg⟩ := getT_form6 codes6 nums6 zs x
    have HGt := Lib.hid hg
    clear hR hg
    go_enter Tryd.func3, Tryd.ntmps3
    go_wp2_with fail
    refine (lent_any HSrc.out HNc.out (by omega)).mono ?_
    rintro e w1 ⟨vi, rfl, hLe, b1⟩
    have HLe := Lib.hid hLe
    have HB1 := Lib.hid b1
    have HG := Lib.hid (I.get (hLe.byt (by omega)) (Nat.le_refl _) (by omega) (HT.out w1 b1) x hx)
    rw [HGt.out] at HG
    clear hLe b1
    go_wp2_with fail
    refine HG.out.mono ?_
    rintro e w2 ⟨rfl, b2⟩
    have HB2 := Lib.hid (below_chain HB1.out (Nat.le_refl _) b2)
    have HLe2 := Lib.hid (HLe.out.bar (bar_of_below (S := fun _ => False) b2) (fun _ _ e => e))
    clear b2
    have HG2 := Lib.hid (r6get_any (HB.out w2 HB2.out) HB2.out.size (by omega) x hx)
    rw [HGt.out] at HG2
    go_wp2_with fail
    refine HG2.out.mono ?_
    rintro e w3 ⟨rfl, b3⟩
    have HB3 := Lib.hid (below_chain HB2.out (Nat.le_refl _) b3)
    have HLe3 := Lib.hid (HLe2.out.bar (bar_of_below (S := fun _ => False) b3) (fun _ _ e => e))
    clear b3
    go_wp2_with fail
    refine (kept_any HLe3.out (HB.out w3 HB3.out) (by omega)).mono ?_
    rintro e w4 ⟨rfl, b4⟩
    have HB4 := Lib.hid (below_chain HB3.out (Nat.le_refl _) b4)
    clear b4
    go_wp2_with (go_at_call 8; refine (awake6_any I w4 (HT.out w4 HB4.out)).mono ?_; rintro e w' ⟨rfl, b5⟩)
    go_ret
    exact ⟨rfl, below_chain HB4.out (Nat.le_refl _) b5⟩

set_option maxRecDepth 100000 in
set_option maxHeartbeats 2000000 in
theorem vectorTurns_walk (I : VectorI) (p d a : Int) (had : Bool) (hd1 : -9223372036854775808 ≤ d) (hd2 : d ≤ 9223372036854775807) (w : World) (hT : Tails w) :
    Calls Tryd.prog 4 #[.int .i64 p, .int .i64 d, .int .i64 a, .bool had] w fun e w' => e = .returned (.bool true) ∧ Below w.heap.size w w' := by
  have HP := Lib.hid (I.put d w hT hd1 hd2)
  have HP2 := Lib.hid (fun w => r6put_any d w)
  have HN := Lib.hid (fun w => I.turn p d w)
  have HN2 := Lib.hid (fun w => r6turn_any p d w)
  have HD := Lib.hid (fun w => I.diff p d w)
  have HD2 := Lib.hid (fun w => r6diff_any p d w)
  have HX := Lib.hid (fun w => I.pred a d had p (-3) w)
  have HX2 := Lib.hid (fun w => r6pred_any a d had p (-3) w)
  have HT := Lib.hid (fun w' (hb : Below w.heap.size w w') => hT.below hb)
  clear hT hd1 hd2
  generalize putS6 d = s at *
  generalize putE6 d = f at *
  generalize turnN p d = n at *
  generalize turnE p d = g at *
  generalize diffN p d = c at *
  generalize diffE p d = i at *
  generalize predN a d had p = x at *
  generalize predN a d had (-3) = y at *
  go_enter Tryd.func4, Tryd.ntmps4
  go_wp2_with fail
  refine HP.out.mono ?_
  rintro e w1 ⟨rfl, rfl⟩
  go_wp2_with fail
  refine (HP2.out w).mono ?_
  rintro e w2 ⟨rfl, b2⟩
  have HB2 := Lib.hid b2
  clear b2
  go_wp2_with fail
  refine (HN.out w2).mono ?_
  rintro e w3 ⟨rfl, rfl⟩
  go_wp2_with fail
  refine (HN2.out w2).mono ?_
  rintro e w3 ⟨rfl, rfl⟩
  go_wp2_with fail
  refine (HD.out w2).mono ?_
  rintro e w3 ⟨rfl, rfl⟩
  go_wp2_with fail
  refine (HD2.out w2).mono ?_
  rintro e w3 ⟨rfl, rfl⟩
  go_wp2_with fail
  refine (HX.out w2).mono ?_
  rintro e w3 ⟨rfl, rfl⟩
  go_wp2_with fail
  refine (HX2.out w2).mono ?_
  rintro e w3 ⟨rfl, rfl⟩
  go_wp2_with fail
  refine (awake6_any I w2 (HT.out w2 HB2.out)).mono ?_
  rintro e w3 ⟨rfl, b3⟩
  go_wp2
  go_ret
  exact ⟨rfl, below_chain HB2.out (Nat.le_refl _) b3⟩

set_option maxRecDepth 100000 in
set_option maxHeartbeats 4000000 in
theorem vectorOne_walk (I : VectorI) (x y : Int) (w : World) (hT : Tails w) :
    Calls Tryd.prog 7 #[.int .i64 x, .int .i64 y] w fun e w' => e = .returned (.bool true) ∧ Below w.heap.size w w' := by
  have hp0 := Int.emod_nonneg x (b := 31) (by omega)
  have hp1 := Int.emod_lt_of_pos x (b := 31) (by omega)
  have hq0 := Int.emod_nonneg y (b := 31) (by omega)
  have hq1 := Int.emod_lt_of_pos y (b := 31) (by omega)
  have HPx := Lib.hid (pick_any x 31)
  have HPy := Lib.hid (pick_any y 31)
  generalize x % 31 = X at *
  generalize y % 31 = Y at *
  obtain ⟨p, hp⟩ : ∃ p, p = X - 15 := ⟨_, rfl⟩
  obtain ⟨q, hq⟩ : ∃ q, q = Y - 15 := ⟨_, rfl⟩
  obtain rfl : X = p + 15 := by omega
  obtain rfl : Y = q + 15 := by omega
  obtain ⟨hE, hd1, hd2, hone⟩ := diff_in (part_yes (n := p) (by omega) (by omega)) (part_yes (n := q) (by omega) (by omega))
  have HD := Lib.hid (fun w => I.diff p q w)
  rw [hE] at HD
  have HO := Lib.hid hone
  have HK := Lib.hid (known6_any I w hT)
  obtain ⟨D, hD⟩ : ∃ D, D = diffN p q := ⟨_, rfl⟩
  rw [← hD] at HD HO hd1 hd2
  have e15p : p + 15 - 15 = p := by omega
  have e15q : q + 15 - 15 = q := by omega
  clear hT hE hone hD hp hq
  go_enter Tryd.func7, Tryd.ntmps7
  go_wp2_with fail
  refine HK.out.mono ?_
  rintro e w1 ⟨rfl, b1⟩
  have HB1 := Lib.hid b1
  clear b1
  go_wp2_with fail
  refine (HPx.out _ (by decide) (by decide)).mono ?_
  rintro e w' ⟨rfl, rfl⟩
  go_wp2_with fail
  refine (HPy.out _ (by decide) (by decide)).mono ?_
  rintro e w' ⟨rfl, rfl⟩
  go_wp2_with fail
  refine (HD.out w1).mono ?_
  rintro e w' ⟨rfl, rfl⟩
  go_wp2_with fail
  go_loop [8, 9, 10] (fun i _ _ => ∃ x : Int, i = .int .i64 x ∧ -16 ≤ x ∧ x ≤ 16) (fun i _ _ => (16 - intOf i).toNat)
  case atStart => exact ⟨-16, rfl, by omega, by omega⟩
  case round =>
    obtain ⟨x, rfl, hx1, hx2⟩ := hrel
    by_cases hlt : x ≤ 15
    · have hiff := HO.out x hx1 hlt
      have HR := Lib.hid (I.turn p x w1)
      by_cases he : x = D
      · subst he
        obtain ⟨t1, t2⟩ := hiff.2 rfl
        rw [t1, t2] at HR
        clear hiff t1 t2
        go_wp2_with (go_at_call 15; refine HR.out.mono ?_; rintro e w' ⟨rfl, rfl⟩)
        go_round
        case rel => exact ⟨x + 1, by go_num, by omega, by omega⟩
        case measure => simp [intOf]; omega
      · have hno : ¬ (turnE p x = 0 ∧ turnN p x = q) := fun h => he (hiff.1 h)
        have t0 : (x == D) = false := by simpa using he
        generalize turnE p x = E at *
        generalize turnN p x = T at *
        clear hiff he
        by_cases hE0 : E = 0
        · subst hE0
          have t2 : (T == q) = false := by
            rw [beq_eq_false_iff_ne]
            exact fun h => hno ⟨rfl, h⟩
          clear hno
          go_wp2_with (go_at_call 15; refine HR.out.mono ?_; rintro e w' ⟨rfl, rfl⟩)
          go_round
          case rel => exact ⟨x + 1, by go_num, by omega, by omega⟩
          case measure => simp [intOf]; omega
        · have t2 : (E == 0) = false := by simpa using hE0
          clear hno hE0
          go_wp2_with (go_at_call 15; refine HR.out.mono ?_; rintro e w' ⟨rfl, rfl⟩)
          go_round
          case rel => exact ⟨x + 1, by go_num, by omega, by omega⟩
          case measure => simp [intOf]; omega
    · obtain rfl : x = 16 := by omega
      go_wp2
      go_ret
      exact ⟨rfl, HB1.out⟩

end Go.Proofs.YtmmnnedhoanhnaaDoor
