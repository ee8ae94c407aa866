/- picture: what its functions must answer, as a record; the kit's SameHead; the laws' helpers puts, gets, awake, and PictureKnown (praxinoscopelaw17). -/
import Derived.Test.YtlcaboddkcpgaaaDoorHRef2
import Derived.Test.YtlcaboddkcpgaaaDoorFmt
namespace Go.Proofs.YtlcaboddkcpgaaaDoor
open Go.RowKit Go.Shelf Go.Sort
set_option linter.unusedVariables false

theorem three_cells {w : World} {g : Nat} {a b c : Value} {t : TypeId} (h : w.heap[g]? = some (.cells #[a, b, c] t (0, 0))) : w.cell? ⟨g, 0, none⟩ = some a ∧ w.cell? ⟨g, 1, none⟩ = some b ∧ w.cell? ⟨g, 2, none⟩ = some c := by simp [World.cell?, h]
/-- what picture's functions must answer -/
structure PictureI : Prop where
  check : ∀ (t y : Int) {n₀ : Nat} {w : World} {sv : Value} {xs : List UInt8}, Byt n₀ w sv xs → n₀ ≤ w.heap.size → Capped sv → xs.length ≤ 1000000 → I64 t → I64 y →
    Calls Tryd.prog 12 #[headV t y sv] w fun e w' => e = .returned (.int .i64 (ckH t y xs.length)) ∧ Below w.heap.size w w'
  format : ∀ (t y : Int) {n₀ : Nat} {w : World} {sv : Value} {xs : List UInt8}, Byt n₀ w sv xs → n₀ ≤ w.heap.size → Capped sv → xs.length ≤ 1000000 → I64 t → I64 y →
    Calls Tryd.prog 14 #[headV t y sv] w fun e w' => e = .returned (.int .i64 (fmH y)) ∧ Below w.heap.size w w'
  put : ∀ (t y : Int) {n₀ : Nat} {w : World} {sv : Value} {xs : List UInt8}, Tab2 w → Byt n₀ w sv xs → n₀ ≤ w.heap.size → Capped sv → xs.length ≤ 1000000 → I64 t → I64 y →
    Calls Tryd.prog 10 #[headV t y sv] w fun e w' => e = .returned (.tuple #[.string (txH t y xs), .int .i64 (ckH t y xs.length)]) ∧ Below w.heap.size w w'
  get : ∀ {n₀ : Nat} {w : World} {sv : Value} {zs : List UInt8}, Byt n₀ w sv zs → n₀ ≤ w.heap.size → Capped sv → zs.length ≤ 1000000 → ∀ x : Int, I64 x →
    Calls Tryd.prog 17 #[sv, .int .i64 x] w fun e w' => HeadGot w w' e (gtH zs x)

set_option maxRecDepth 100000 in
theorem sameHead_any (t y t' y' : Int) {n₀ n₁ : Nat} {w : World} {u v : Value} {xs ys : List UInt8} (h1 : Byt n₀ w u xs) (hn : n₀ ≤ w.heap.size) (h2 : Byt n₁ w v ys) (hn₁ : n₁ ≤ w.heap.size) (e1 : t = t') (e2 : y = y') (e3 : xs = ys) :
    Calls Tryd.prog 19 #[headV t y u, headV t' y' v] w fun e w' => e = .returned (.bool true) ∧ Below w.heap.size w w' := by
  subst e1 e2 e3
  have hb : ∀ o p, Below w.heap.size w ((w.alloc o).alloc p) := fun o p => ((Below.refl _ w).alloc (Nat.le_refl _) o).alloc (by simp) p
  have HB := Lib.hid hb
  have HS := Lib.hid (fun o p => same_any (Byt.below ((hb o p).mono hn) h1) (Byt.below ((hb o p).mono hn₁) h2))
  simp only [decide_true] at HS
  obtain ⟨a, c, rfl, -, -⟩ := h1
  obtain ⟨a', c', rfl, -, -⟩ := h2
  clear hb
  go_enter Tryd.func19, Tryd.ntmps19
  go_wp2_with fail
  refine (HS.out _ _).mono ?_
  rintro e w' ⟨rfl, rfl⟩
  go_wp2_with fail
  go_ret
  exact ⟨rfl, HB.out _ _⟩

set_option maxRecDepth 100000 in
theorem puts17_any (I : PictureI) (t y : Int) (ht : I64 t) (hy : I64 y) {n₀ : Nat} {w : World} {sv : Value} {xs : List UInt8} (hT : Tab2 w) (hB : Byt n₀ w sv xs) (hn : n₀ ≤ w.heap.size) (hk : Capped sv) (hl : xs.length ≤ 1000000) (s : ByteArray) (er : Int) (h1 : txH t y xs = s) (h2 : ckH t y xs.length = er) :
    Calls Tryd.prog 21 #[headV t y sv, .string s, .int .i64 er] w fun e w' => e = .returned (.bool true) ∧ Below w.heap.size w w' := by
  have hb : ∀ o, Below w.heap.size w (w.alloc o) := fun o => (Below.refl _ w).alloc (Nat.le_refl _) o
  have HB := Lib.hid hb
  have HP := Lib.hid (fun o => I.put t y (hT.below (hb o)) (Byt.below ((hb o).mono hn) hB) (by have := (hb o).size; omega) hk hl ht hy)
  rw [h1, h2] at HP
  obtain ⟨a, c, rfl, -, -⟩ := hB
  clear hb
  go_enter Tryd.func21, Tryd.ntmps21
  go_wp2_with fail
  refine (HP.out _).mono ?_
  rintro e w2 ⟨rfl, hb⟩
  have HB2 := Lib.hid ((HB.out _).trans (hb.mono (HB.out _).size))
  clear hb
  go_wp2_with fail
  go_ret
  exact ⟨rfl, HB2.out⟩

set_option maxRecDepth 100000 in
set_option maxHeartbeats 1000000 in
theorem gets17_any (I : PictureI) {n₀ n₁ : Nat} {w : World} {sv : Value} {zs : List UInt8} (hB : Byt n₀ w sv zs) (hn : n₀ ≤ w.heap.size) (hk : Capped sv) (hl : zs.length ≤ 1000000) (x : Int) (hx : I64 x) (t y : Int) {u : Value} {xs : List UInt8} (hU : Byt n₁ w u xs) (hn₁ : n₁ ≤ w.heap.size) (n er : Int) (h : gtH zs x = ⟨t, y, xs, n, er⟩) :
    Calls Tryd.prog 22 #[sv, .int .i64 x, headV t y u, .int .i64 n, .int .i64 er] w fun e w' => e = .returned (.bool true) ∧ Below w.heap.size w w' := by
  have hb : ∀ o, Below w.heap.size w (w.alloc o) := fun o => (Below.refl _ w).alloc (Nat.le_refl _) o
  have HB := Lib.hid hb
  have HG := Lib.hid (fun o => I.get (Byt.below ((hb o).mono hn) hB) (by have := (hb o).size; omega) hk hl x hx)
  rw [h] at HG
  have hU' : ∀ W', Below w.heap.size w W' → Byt n₁ W' u xs := fun W' hb' => Byt.below (hb'.mono hn₁) hU
  have HU := Lib.hid hU'
  obtain ⟨a, c, rfl, hlen, -⟩ := hB
  obtain ⟨a', c', rfl, hlx, -⟩ := hU
  clear hb hU'
  go_enter Tryd.func22, Tryd.ntmps22
  go_wp2_with fail
  refine (HG.out _).mono ?_
  rintro e w2 ⟨v, rfl, ho, hb⟩
  have hb2 := (HB.out _).trans (hb.mono (HB.out _).size)
  have hx2 := (hb.block _ (by simp)).trans (World.alloc_heap_new w _)
  have hz := hb.size
  simp only [World.size_alloc] at hz
  obtain ⟨av, cv, rfl, -⟩ := byt_own ho (by show xs.length ≤ _; omega) (Nat.le_refl _)
  have HO := Lib.hid ho
  have HB2 := Lib.hid hb2
  clear hb hb2 ho
  obtain ⟨w3, hw3⟩ : ∃ w3, w2.alloc (.cells #[.int .i64 t, .int .i64 y, .slice av xs.length cv] 24 (0, 0)) = w3 := ⟨_, rfl⟩
  have hb3 : Below w2.heap.size w2 w3 := by rw [← hw3]; exact (Below.refl _ w2).alloc (Nat.le_refl _) _
  have HB3 := Lib.hid (HB2.out.trans (hb3.mono HB2.out.size))
  have HS := Lib.hid (sameHead_any t y t y (byt_own (ownsRow_belowN HO.out hb3) (by show xs.length ≤ _; omega) (Nat.le_refl _)) (Nat.le_refl _) (HU.out _ HB3.out) (by have := HB3.out.size; omega) rfl rfl rfl)
  have x3 := (hb3.block _ (by omega)).trans hx2
  have x4 : w3.heap[w2.heap.size]? = some (.cells #[.int .i64 t, .int .i64 y, .slice av xs.length cv] 24 (0, 0)) := by rw [← hw3]; exact World.alloc_heap_new w2 _
  obtain ⟨y0, y1, y2⟩ := three_cells x3
  obtain ⟨y3, y4, y5⟩ := three_cells x4
  clear hx2 hb3 x3 x4
  go_wp2_with fail
  refine HS.out.mono ?_
  rintro e w4 ⟨rfl, hb4⟩
  have HB4 := Lib.hid (HB3.out.trans (hb4.mono HB3.out.size))
  clear hb4
  go_wp2_with fail
  go_ret
  exact ⟨rfl, HB4.out⟩

/-- the same, of bytes just laid -/
theorem gets17_lit (I : PictureI) (W : World) (zs : List UInt8) (cs : Array Value) (len cap : Nat) (hcs : cs = (zs.map fun z => Value.int .u8 z.toNat).toArray) (hlen : zs.length = len) (hl : len ≤ 1000) (hcap : len ≤ cap) (x : Int) (hx : I64 x) (t y : Int) {n₁ : Nat} {u : Value} {xs : List UInt8} (hU : Byt n₁ W u xs) (hn₁ : n₁ ≤ W.heap.size) (n er : Int) (h : gtH zs x = ⟨t, y, xs, n, er⟩) (ty : TypeId) :
    Calls Tryd.prog 22 #[.slice (some ⟨W.heap.size, 0, none⟩) len cap, .int .i64 x, headV t y u, .int .i64 n, .int .i64 er] (W.alloc (.cells cs ty)) fun e w' => e = .returned (.bool true) ∧ Below W.heap.size W w' := by
  subst hlen
  have hb : Below W.heap.size W (W.alloc (.cells cs ty)) := (Below.refl _ _).alloc (Nat.le_refl _) _
  refine (gets17_any I (byt_new W zs cs cap hcs (by omega) (W.heap.size + 1) (by omega) ty) (by simp) ⟨_, _, _, rfl, hcap⟩ (by omega) x hx t y (Byt.below (hb.mono hn₁) hU) (by simp; omega) n er h).mono ?_
  rintro e w' ⟨rfl, hb2⟩
  exact ⟨rfl, below_chain hb (Nat.le_refl _) hb2⟩


theorem ex17_1 : txH 3 4 [] = ⟨#[48, 48, 48, 49, 49, 48, 48, 48, 49, 48, 48, 48]⟩ := by decide +kernel
theorem ex17_2 : gtH [24, 128] 0 = ⟨3, 4, [], 12, 0⟩ := by
  have h := gtH_stands (zs := [24, 128]) (A := 0) (t := 3) (y := 4) (xs := []) (by decide) ⟨by decide +kernel, by decide +kernel⟩
  exact h
set_option maxRecDepth 100000 in
set_option maxHeartbeats 1000000 in
theorem awake17_any (I : PictureI) (w : World) (hT : Tab2 w) : Calls Tryd.prog 8 #[] w fun e w' => e = .returned (.bool true) ∧ Below w.heap.size w w' := by
  have i0 : I64 0 := by unfold I64; omega
  have i3 : I64 3 := by unfold I64; omega
  have i4 : I64 4 := by unfold I64; omega
  have HP := Lib.hid (fun W (hW : Below w.heap.size w W) => puts17_any I 3 4 i3 i4 (hT.below hW) (byt_nil W) (Nat.le_refl _) capped_nil (by decide) _ 0 ex17_1 (by decide))
  have HF := Lib.hid (fun W => I.format 3 4 (byt_nil W) (Nat.le_refl _) capped_nil (by decide) i3 i4)
  have HG := Lib.hid (fun W cs cap hcs hc => gets17_lit I W [24, 128] cs 2 cap hcs rfl (by decide) hc 0 i0 3 4 (byt_nil W) (Nat.le_refl _) 12 0 ex17_2)
  have hx0 := World.alloc_heap_new w (.cells #[.int .i64 3, .int .i64 4, .slice none 0 0] 24 (0, 0))
  have HB0 := Lib.hid ((Below.refl _ w).alloc (Nat.le_refl _) (.cells #[.int .i64 3, .int .i64 4, .slice none 0 0] 24 (0, 0)))
  go_enter Tryd.func8, Tryd.ntmps8
  go_wp2_with fail
  refine (HP.out _ HB0.out).mono ?_
  rintro e w2 ⟨rfl, hb⟩
  have hx2 := (hb.block _ (by simp)).trans hx0
  have HB2 := Lib.hid (HB0.out.trans (hb.mono (by simp)))
  obtain ⟨y0, y1, y2⟩ := three_cells hx2
  have hl2 := (Array.getElem?_eq_some_iff.1 hx2).1
  clear hb
  go_wp2_with fail
  refine (HF.out _).mono ?_
  rintro e w3 ⟨rfl, hb⟩
  have hx3 := (hb.block _ hl2).trans hx2
  have HB3 := Lib.hid (HB2.out.trans (hb.mono HB2.out.size))
  have hl3 := (Array.getElem?_eq_some_iff.1 hx3).1
  clear hb hx2 y0 y1 y2
  obtain ⟨w4, hw4⟩ : ∃ w4, w3.alloc (.cells #[.int .u8 24, .int .u8 128] 5 (0, 0)) = w4 := ⟨_, rfl⟩
  have hb4 : Below w3.heap.size w3 w4 := by rw [← hw4]; exact (Below.refl _ w3).alloc (Nat.le_refl _) _
  obtain ⟨y0, y1, y2⟩ := three_cells ((hb4.block _ hl3).trans hx3)
  clear hb4
  go_wp2_with fail
  rw [← hw4]
  refine (HG.out w3 _ 2 rfl (by omega) _).mono ?_
  rintro e w5 ⟨rfl, hb⟩
  have HB5 := Lib.hid (HB3.out.trans (hb.mono HB3.out.size))
  clear hb
  go_wp2_with fail
  go_ret
  exact ⟨rfl, HB5.out⟩

theorem ex17_3 : txH 32 0 [] = ⟨#[]⟩ ∧ ckH 32 0 0 = 2 := by decide +kernel
theorem ex17_4 : txH 0 0 [165] = ⟨#[48, 48, 48, 48, 48, 48, 48, 48, 48, 48, 48, 49, 49, 48, 49, 48, 48, 49, 48, 49, 48]⟩ ∧ ckH 0 0 1 = 0 := by decide +kernel
theorem ex17_5 : gtH [24] 0 = ⟨0, 0, [], 0, 5⟩ := by
  unfold gtH
  rw [if_neg (by decide), if_pos (by decide)]
  rfl
theorem ex17_6 : gtH [24, 128] (-1) = ⟨0, 0, [], 0, 3⟩ := by
  unfold gtH
  rw [if_pos (by decide)]
  rfl
theorem byt_lit17 (W : World) (z : UInt8) (t : TypeId) : Byt (W.heap.size + 1) (W.alloc (.cells #[.int .u8 z.toNat] t (0, 0))) (.slice (some ⟨W.heap.size, 0, none⟩) 1 1) [z] := byt_new W [z] _ 1 rfl (by simp) (W.heap.size + 1) (by omega) t
set_option maxRecDepth 100000 in
set_option maxHeartbeats 2000000 in
theorem known17_any (I : PictureI) (w : World) (hT : Tab2 w) : Calls Tryd.prog 5 #[] w fun e w' => e = .returned (.bool true) ∧ Below w.heap.size w w' := by
  have i0 : I64 0 := by unfold I64; omega
  have i1 : I64 (-1) := by unfold I64; omega
  have i3 : I64 3 := by unfold I64; omega
  have i32 : I64 32 := by unfold I64; omega
  have HF := Lib.hid (fun W => I.format 0 3 (byt_nil W) (Nat.le_refl _) capped_nil (by decide) i0 i3)
  have HP1 := Lib.hid (fun W (hW : Below w.heap.size w W) => puts17_any I 32 0 i32 i0 (hT.below hW) (byt_nil W) (Nat.le_refl _) capped_nil (by decide) _ 2 ex17_3.1 ex17_3.2)
  have HP2 := Lib.hid (fun W t (hW : Below w.heap.size w W) => puts17_any I 0 0 i0 i0 (hT.below (hW.alloc hW.size (.cells #[.int .u8 (165 : UInt8).toNat] t (0, 0)))) (byt_lit17 W 165 t) (by simp) ⟨_, _, _, rfl, Nat.le_refl _⟩ (by decide) _ 0 ex17_4.1 ex17_4.2)
  have HAw := Lib.hid (fun W (hW : Below w.heap.size w W) => awake17_any I W (hT.below hW))
  have HG1 := Lib.hid (fun W cs cap hcs hc => gets17_lit I W [24] cs 1 cap hcs rfl (by decide) hc 0 i0 0 0 (byt_nil W) (Nat.le_refl _) 0 5 ex17_5)
  have HG2 := Lib.hid (fun W cs cap hcs hc => gets17_lit I W [24, 128] cs 2 cap hcs rfl (by decide) hc (-1) i1 0 0 (byt_nil W) (Nat.le_refl _) 0 3 ex17_6)
  have B0 := Lib.hid (Below.refl w.heap.size w)
  go_enter Tryd.func5, Tryd.ntmps5
  go_wp2_with fail
  refine (HF.out _).mono ?_
  rintro e w2 ⟨rfl, hb⟩
  have B2 := Lib.hid (below_chain B0.out (Nat.le_refl _) hb)
  clear hb
  go_wp2_with fail
  refine (HP1.out _ B2.out).mono ?_
  rintro e w3 ⟨rfl, hb⟩
  have B3 := Lib.hid (below_chain B2.out (Nat.le_refl _) hb)
  clear hb
  go_wp2_with fail
  refine (HP2.out _ _ B3.out).mono ?_
  rintro e w4 ⟨rfl, hb⟩
  have B4 := Lib.hid (B3.out.trans ((((Below.refl _ w3).alloc (Nat.le_refl _) _).trans (hb.mono (by simp))).mono B3.out.size))
  clear hb
  go_wp2_with fail
  refine (HAw.out _ B4.out).mono ?_
  rintro e w5 ⟨rfl, hb⟩
  have B5 := Lib.hid (below_chain B4.out (Nat.le_refl _) hb)
  clear hb
  go_wp2_with fail
  refine (HG1.out _ _ 1 rfl (by omega) _).mono ?_
  rintro e w6 ⟨rfl, hb⟩
  have B6 := Lib.hid (B5.out.trans (hb.mono B5.out.size))
  clear hb
  go_wp2_with fail
  refine (HG2.out _ _ 2 rfl (by omega) _).mono ?_
  rintro e w7 ⟨rfl, hb⟩
  have B7 := Lib.hid (B6.out.trans (hb.mono B6.out.size))
  clear hb
  go_wp2_with fail
  go_ret
  exact ⟨rfl, B7.out⟩

end Go.Proofs.YtlcaboddkcpgaaaDoor
