/- Over a tree's contracts: the laws' gets, puts, refuses, three, awake, and the law PrefixKnown. -/
import Derived.Test.YtdadmoefmaojlaaDoorPTree
namespace Go.Proofs.YtdadmoefmaojlaaDoor
open Go.RowKit Go.Shelf
set_option linter.unusedVariables false

/-- a row that was just built -/
theorem rowV_built (w : World) (t : TypeId) (vs : List Value) (hl : vs.length ≤ 9223372036854775807) : RowV (w.alloc (.cells vs.toArray t (0, 0))).heap.size (w.alloc (.cells vs.toArray t (0, 0))) (some ⟨w.heap.size, 0, none⟩) vs.length vs.length vs := by
  refine ⟨rfl, Nat.le_refl _, hl, .inr ⟨w.heap.size, 0, rfl, by simp, fun j u hu => ?_⟩⟩
  have h := World.alloc_heap_new w (.cells vs.toArray t (0, 0))
  generalize w.alloc (.cells vs.toArray t (0, 0)) = w' at h ⊢
  simp [World.cell?, h, hu]
theorem byt_built (w : World) (z : UInt8) : Byt (w.alloc (.cells #[.int .u8 z.toNat] 5 (0, 0))).heap.size (w.alloc (.cells #[.int .u8 z.toNat] 5 (0, 0))) (.slice (some ⟨w.heap.size, 0, none⟩) 1 1) [z] := by
  refine ⟨_, 1, rfl, by simp, .inr ⟨w.heap.size, 0, rfl, by simp, fun j hj => ?_⟩⟩
  have h := World.alloc_heap_new w (.cells #[.int .u8 z.toNat] 5 (0, 0))
  generalize w.alloc (.cells #[.int .u8 z.toNat] 5 (0, 0)) = w' at h ⊢
  simp at hj
  subst hj
  simp [World.cell?, h]
theorem byt_none (n : Nat) (w : World) : Byt n w (.slice none 0 0) [] := ⟨none, 0, rfl, by simp, .inl rfl⟩

theorem gets_true (I : TreeI) {n₀ m₁ n₁ : Nat} {w : World} {b : Nat} {cs : List ByteArray} {ns : List Int} {sv : Value} {zs : List UInt8} (h : I.IsP n₀ m₁ w b cs ns) (hB : Byt n₁ w sv zs) (hn : n₁ ≤ w.heap.size) (hl : zs.length ≤ 1099511627776) (x g n e : Int) (hx : x ≤ 9223372036854775807)
    (hg : getT cs ns zs x = .tuple #[.int .i64 g, .int .i64 n, .int .i64 e]) :
    Calls Tryd.prog 21 #[.pointer (some ⟨b, 0, none⟩), sv, .int .i64 x, .int .i64 g, .int .i64 n, .int .i64 e] w fun r w' => r = .returned (.bool true) ∧ Below w.heap.size w w' := by
  have HG := Lib.hid (I.get h hB hn hl x hx)
  rw [hg] at HG
  clear h hB hg
  go_enter Tryd.func21, Tryd.ntmps21
  go_wp2_with fail
  refine HG.out.mono ?_
  rintro r w1 ⟨rfl, b1⟩
  go_wp2
  go_ret
  exact ⟨rfl, b1⟩
theorem puts_true (I : TreeI) {n₀ m₁ : Nat} {w : World} {b : Nat} {cs : List ByteArray} {ns : List Int} (h : I.IsP n₀ m₁ w b cs ns) (x e : Int) (s : ByteArray) (hs : putS cs ns x = s) (he : putE3 ns x = e) (hx1 : -9223372036854775808 ≤ x) (hx2 : x ≤ 9223372036854775807) :
    Calls Tryd.prog 22 #[.pointer (some ⟨b, 0, none⟩), .int .i64 x, .string s, .int .i64 e] w fun r w' => r = .returned (.bool true) ∧ Below w.heap.size w w' := by
  have HG := Lib.hid (I.put h x hx1 hx2)
  rw [hs, he] at HG
  clear h hs he
  go_enter Tryd.func22, Tryd.ntmps22
  go_wp2_with fail
  refine HG.out.mono ?_
  rintro r w1 ⟨rfl, b1⟩
  go_wp2
  go_ret
  exact ⟨rfl, b1⟩
theorem refuses_true (I : TreeI) {w : World} {a a' : Option Addr} {len cap len' cap' : Nat} {cs : List ByteArray} {ns : List Int} (hC : RowV w.heap.size w a len cap (strV cs)) (hN : RowV w.heap.size w a' len' cap' (intV ns)) (hsz : ∀ s ∈ cs, s.size ≤ 9223372036854775807) (hns : I64s ns) (e : Int) (he : makeE cs ns = e) (h0 : e ≠ 0) :
    Calls Tryd.prog 23 #[.int .i64 e, .slice a' len' cap', .slice a len cap] w fun r w' => r = .returned (.bool true) ∧ Below w.heap.size w w' := by
  have HM := Lib.hid (I.make hC hN hsz hns)
  rw [he] at HM
  clear hC hN hsz he
  go_enter Tryd.func23, Tryd.ntmps23
  go_wp2_with fail
  refine HM.out.mono ?_
  rintro r w1 ⟨b1, hm⟩
  obtain ⟨_, rfl⟩ := hm.resolve_left (fun h => h0 h.1)
  clear hm h0
  go_wp2
  go_ret
  exact ⟨rfl, b1⟩

abbrev cs3 : List ByteArray := [⟨#[49]⟩, ⟨#[48, 49]⟩, ⟨#[48, 48, 49]⟩]
abbrev ns3 : List Int := [7, 8, 7]
abbrev objC3 : Obj := .cells #[.string ⟨#[49]⟩, .string ⟨#[48, 49]⟩, .string ⟨#[48, 48, 49]⟩] 9 (0, 0)
abbrev objN3 : Obj := .cells #[.int .i64 7, .int .i64 8, .int .i64 7] 3 (0, 0)
theorem make3 : makeE cs3 ns3 = 0 := by decide +kernel
theorem small3i {ns : List Int} (h : ns.all (fun n => decide (-100 ≤ n) && decide (n ≤ 100)) = true) : I64s ns := by
  intro n hn
  have := List.all_eq_true.1 h n hn
  simp at this
  omega
theorem small3 {cs : List ByteArray} (h : cs.all (fun s => decide (s.size ≤ 100)) = true) : ∀ s ∈ cs, s.size ≤ 9223372036854775807 := by
  intro s hs
  have := List.all_eq_true.1 h s hs
  simp at this
  omega

set_option maxRecDepth 100000 in
theorem three3_any (I : TreeI) (w : World) :
    Calls Tryd.prog 20 #[] w fun e w' => ∃ n₀ m₁ b, e = .returned (.pointer (some ⟨b, 0, none⟩)) ∧ I.IsP n₀ m₁ w' b cs3 ns3 ∧ w.heap.size ≤ n₀ ∧ Below w.heap.size w w' := by
  have b1 : Below w.heap.size w (w.alloc objC3) := (Below.refl _ _).alloc (Nat.le_refl _) _
  have b2 : Below (w.alloc objC3).heap.size (w.alloc objC3) ((w.alloc objC3).alloc objN3) := (Below.refl _ _).alloc (Nat.le_refl _) _
  have hC : RowV (w.alloc objC3).heap.size (w.alloc objC3) (some ⟨w.heap.size, 0, none⟩) 3 3 (strV cs3) := rowV_built w 9 (strV cs3) (by simp)
  have hN : RowV ((w.alloc objC3).alloc objN3).heap.size ((w.alloc objC3).alloc objN3) (some ⟨(w.alloc objC3).heap.size, 0, none⟩) 3 3 (intV ns3) := rowV_built (w.alloc objC3) 3 (intV ns3) (by simp)
  have HM := Lib.hid (I.make ((hC.below b2).mono b2.size) hN (small3 (by decide +kernel)) (small3i (by decide +kernel)))
  rw [make3] at HM
  have hsz : (w.alloc objC3).heap.size = w.heap.size + 1 := by simp
  rw [hsz] at HM
  have HB := Lib.hid (below_chain b1 (Nat.le_refl _) b2)
  clear b1 b2 hC hN
  go_enter Tryd.func20, Tryd.ntmps20
  go_wp2_with fail
  refine HM.out.mono ?_
  rintro r w1 ⟨b3, hm⟩
  obtain ⟨_, b, rfl, hp⟩ := hm.resolve_right (fun h => h.1 rfl)
  have HP := Lib.hid hp
  clear hm hp
  go_wp2
  go_ret
  exact ⟨_, _, b, rfl, HP.out, HB.out.size, below_chain HB.out (Nat.le_refl _) b3⟩

abbrev obj1 (z : Int) : Obj := .cells #[.int .u8 z] 5 (0, 0)
theorem below_one (w : World) (o : Obj) : Below w.heap.size w (w.alloc o) := (Below.refl _ _).alloc (Nat.le_refl _) o
theorem g128 : getT cs3 ns3 [128] 0 = .tuple #[.int .i64 7, .int .i64 1, .int .i64 0] := by kernel_rfl
theorem g64 : getT cs3 ns3 [64] 0 = .tuple #[.int .i64 8, .int .i64 2, .int .i64 0] := by kernel_rfl
theorem g64b : getT cs3 ns3 [64] 1 = .tuple #[.int .i64 7, .int .i64 1, .int .i64 0] := by kernel_rfl
theorem g0 : getT cs3 ns3 [0] 0 = .tuple #[.int .i64 0, .int .i64 0, .int .i64 7] := by kernel_rfl
theorem g0b : getT cs3 ns3 [0] 7 = .tuple #[.int .i64 0, .int .i64 0, .int .i64 5] := by kernel_rfl
theorem gnone : getT cs3 ns3 [] 0 = .tuple #[.int .i64 0, .int .i64 0, .int .i64 5] := by kernel_rfl
theorem g1m : getT cs3 ns3 [1] (-1) = .tuple #[.int .i64 0, .int .i64 0, .int .i64 3] := by kernel_rfl

set_option maxRecDepth 100000 in
set_option maxHeartbeats 1000000 in
theorem awake3_any (I : TreeI) (w : World) : Calls Tryd.prog 9 #[] w fun e w' => e = .returned (.bool true) ∧ Below w.heap.size w w' := by
  go_enter Tryd.func9, Tryd.ntmps9
  go_wp2_with fail
  refine (three3_any I w).mono ?_
  rintro e w1 ⟨n₀, m₁, b, rfl, hp, hn, b1⟩
  have HP := Lib.hid hp
  have HB1 := Lib.hid b1
  clear hp b1
  have HG1 := Lib.hid (gets_true I (I.later HP.out (below_one w1 (obj1 128))) (byt_built w1 128) (Nat.le_refl _) (by simp) 0 7 1 0 (by omega) g128)
  go_wp2_with fail
  refine HG1.out.mono ?_
  rintro e w2 ⟨rfl, b2⟩
  have b12 := below_chain (below_one w1 (obj1 128)) (Nat.le_refl _) b2
  have HG2 := Lib.hid (gets_true I (I.later (I.later HP.out b12) (below_one w2 (obj1 64))) (byt_built w2 64) (Nat.le_refl _) (by simp) 0 8 2 0 (by omega) g64)
  go_wp2_with fail
  refine HG2.out.mono ?_
  rintro e w3 ⟨rfl, b3⟩
  have b13 := below_chain (below_chain b12 (Nat.le_refl _) (below_one w2 (obj1 64))) (Nat.le_refl _) b3
  have HG3 := Lib.hid (puts_true I (I.later HP.out b13) 8 0 ⟨#[48, 49]⟩ (by kernel_rfl) (by kernel_rfl) (by decide) (by decide))
  go_wp2_with fail
  refine HG3.out.mono ?_
  rintro e w4 ⟨rfl, b4⟩
  go_wp2
  go_ret
  exact ⟨rfl, below_chain (below_chain HB1.out (Nat.le_refl _) b13) (Nat.le_refl _) b4⟩

abbrev objS (cs : List ByteArray) : Obj := .cells (strV cs).toArray 9 (0, 0)
abbrev objI (ns : List Int) : Obj := .cells (intV ns).toArray 3 (0, 0)
theorem refuses_built (I : TreeI) (w : World) (cs : List ByteArray) (ns : List Int) (hc : cs.length ≤ 100) (hn : ns.length ≤ 100) (hns : I64s ns) (hsz : ∀ s ∈ cs, s.size ≤ 9223372036854775807) (e : Int) (he : makeE cs ns = e) (h0 : e ≠ 0) :
    Calls Tryd.prog 23 #[.int .i64 e, .slice (some ⟨w.heap.size, 0, none⟩) (intV ns).length (intV ns).length, .slice (some ⟨w.heap.size + 1, 0, none⟩) (strV cs).length (strV cs).length] ((w.alloc (objI ns)).alloc (objS cs)) fun r w' => r = .returned (.bool true) ∧ Below w.heap.size w w' := by
  have b1 := below_one w (objI ns)
  have b2 := below_one (w.alloc (objI ns)) (objS cs)
  have hN := rowV_built w 3 (intV ns) (by simp; omega)
  have hC := rowV_built (w.alloc (objI ns)) 9 (strV cs) (by simp; omega)
  have hs : (w.alloc (objI ns)).heap.size = w.heap.size + 1 := by simp
  refine (refuses_true I (a := some ⟨w.heap.size + 1, 0, none⟩) (by rw [← hs]; exact hC) ((hN.below b2).mono b2.size) hsz hns e he h0).mono ?_
  rintro r w' ⟨rfl, hb⟩
  exact ⟨rfl, below_chain (below_chain b1 (Nat.le_refl _) b2) (Nat.le_refl _) hb⟩
theorem refuses_nil (I : TreeI) (w : World) : Calls Tryd.prog 23 #[.int .i64 2, .slice none 0 0, .slice none 0 0] w fun r w' => r = .returned (.bool true) ∧ Below w.heap.size w w' :=
  refuses_true I (cs := []) (ns := []) ⟨rfl, Nat.le_refl 0, by decide, .inl rfl⟩ ⟨rfl, Nat.le_refl 0, by decide, .inl rfl⟩ (by simp) (by intro n hn; simp at hn) 2 (by decide +kernel) (by decide)

set_option maxRecDepth 100000 in
set_option maxHeartbeats 4000000 in
theorem prefixKnown_any (I : TreeI) (w : World) : Calls Tryd.prog 5 #[] w fun e w' => e = .returned (.bool true) ∧ Below w.heap.size w w' := by
  go_enter Tryd.func5, Tryd.ntmps5
  go_wp2_with fail
  refine (three3_any I w).mono ?_
  rintro e w1 ⟨n₀, m₁, b, rfl, hp, hn, b1⟩
  have HP := Lib.hid hp
  have HB1 := Lib.hid b1
  clear hp b1
  have HG1 := Lib.hid (gets_true I (I.later HP.out (below_one w1 (obj1 64))) (byt_built w1 64) (Nat.le_refl _) (by simp) 1 7 1 0 (by omega) g64b)
  go_wp2_with fail
  refine HG1.out.mono ?_
  rintro e w2 ⟨rfl, d2⟩
  have b2 := below_chain (below_one w1 (obj1 64)) (Nat.le_refl _) d2
  have HG2 := Lib.hid (gets_true I (I.later (I.later HP.out b2) (below_one w2 (obj1 0))) (byt_built w2 0) (Nat.le_refl _) (by simp) 0 0 0 7 (by omega) g0)
  clear HG1 d2
  go_wp2_with fail
  refine HG2.out.mono ?_
  rintro e w3 ⟨rfl, d3⟩
  have b3 := below_chain (below_chain b2 (Nat.le_refl _) (below_one w2 (obj1 0))) (Nat.le_refl _) d3
  have HG3 := Lib.hid (gets_true I (I.later (I.later HP.out b3) (below_one w3 (obj1 0))) (byt_built w3 0) (Nat.le_refl _) (by simp) 7 0 0 5 (by omega) g0b)
  clear HG2 d3 b2
  go_wp2_with fail
  refine HG3.out.mono ?_
  rintro e w4 ⟨rfl, d4⟩
  have b4 := below_chain (below_chain b3 (Nat.le_refl _) (below_one w3 (obj1 0))) (Nat.le_refl _) d4
  have HG4 := Lib.hid (gets_true I (I.later HP.out b4) (byt_none w4.heap.size w4) (Nat.le_refl _) (by simp) 0 0 0 5 (by omega) gnone)
  clear HG3 d4 b3
  go_wp2_with fail
  refine HG4.out.mono ?_
  rintro e w5 ⟨rfl, d5⟩
  have b5 := below_chain b4 (Nat.le_refl _) d5
  have HG5 := Lib.hid (gets_true I (I.later (I.later HP.out b5) (below_one w5 (obj1 1))) (byt_built w5 1) (Nat.le_refl _) (by simp) (-1) 0 0 3 (by omega) g1m)
  clear HG4 d5 b4
  go_wp2_with fail
  refine HG5.out.mono ?_
  rintro e w6 ⟨rfl, d6⟩
  have b6 := below_chain (below_chain b5 (Nat.le_refl _) (below_one w5 (obj1 1))) (Nat.le_refl _) d6
  have HG6 := Lib.hid (puts_true I (I.later HP.out b6) 7 0 ⟨#[49]⟩ (by kernel_rfl) (by kernel_rfl) (by decide) (by decide))
  clear HG5 d6 b5
  go_wp2_with fail
  refine HG6.out.mono ?_
  rintro e w7 ⟨rfl, d7⟩
  have b7 := below_chain b6 (Nat.le_refl _) d7
  have HG7 := Lib.hid (puts_true I (I.later HP.out b7) 9 18 ⟨#[]⟩ (by kernel_rfl) (by kernel_rfl) (by decide) (by decide))
  clear HG6 d7 b6
  go_wp2_with fail
  refine HG7.out.mono ?_
  rintro e w8 ⟨rfl, d8⟩
  have b8 := below_chain b7 (Nat.le_refl _) d8
  have HG8 := Lib.hid (I.codes (I.later HP.out b8))
  clear HG7 d8 b7
  go_wp2_with fail
  refine HG8.out.mono ?_
  rintro e w9 ⟨rfl, d9⟩
  have b9 := below_chain b8 (Nat.le_refl _) d9
  clear HG8 d9 b8
  go_wp2_with fail
  refine (awake3_any I w9).mono ?_
  rintro e x0 ⟨rfl, d0⟩
  have B0 := below_chain (below_chain HB1.out (Nat.le_refl _) b9) (Nat.le_refl _) d0
  clear d0 b9
  have HR1 : Hid (Calls Tryd.prog 23 #[.int .i64 14, .slice (some ⟨x0.heap.size, 0, none⟩) 2 2, .slice (some ⟨x0.heap.size + 1, 0, none⟩) 2 2] ((x0.alloc (.cells #[.int .i64 1, .int .i64 2] 3 (0, 0))).alloc (.cells #[.string ⟨#[49]⟩, .string ⟨#[49, 48]⟩] 9 (0, 0))) fun r w' => r = .returned (.bool true) ∧ Below x0.heap.size x0 w') :=
    refuses_built I x0 [⟨#[49]⟩, ⟨#[49, 48]⟩] [1, 2] (by decide) (by decide) (small3i (by decide +kernel)) (small3 (by decide +kernel)) 14 (by decide +kernel) (by decide)
  go_wp2_with fail
  refine HR1.out.mono ?_
  rintro e x1 ⟨rfl, d1⟩
  have B1 := below_chain B0 (Nat.le_refl _) d1
  clear HR1 d1 B0
  have HR2 : Hid (Calls Tryd.prog 23 #[.int .i64 14, .slice (some ⟨x1.heap.size, 0, none⟩) 2 2, .slice (some ⟨x1.heap.size + 1, 0, none⟩) 2 2] ((x1.alloc (.cells #[.int .i64 1, .int .i64 2] 3 (0, 0))).alloc (.cells #[.string ⟨#[49]⟩, .string ⟨#[49]⟩] 9 (0, 0))) fun r w' => r = .returned (.bool true) ∧ Below x1.heap.size x1 w') :=
    refuses_built I x1 [⟨#[49]⟩, ⟨#[49]⟩] [1, 2] (by decide) (by decide) (small3i (by decide +kernel)) (small3 (by decide +kernel)) 14 (by decide +kernel) (by decide)
  go_wp2_with fail
  refine HR2.out.mono ?_
  rintro e x2 ⟨rfl, d2⟩
  have B2 := below_chain B1 (Nat.le_refl _) d2
  clear HR2 d2 B1
  have HR3 : Hid (Calls Tryd.prog 23 #[.int .i64 2, .slice (some ⟨x2.heap.size, 0, none⟩) 1 1, .slice (some ⟨x2.heap.size + 1, 0, none⟩) 1 1] ((x2.alloc (.cells #[.int .i64 1] 3 (0, 0))).alloc (.cells #[.string ⟨#[50]⟩] 9 (0, 0))) fun r w' => r = .returned (.bool true) ∧ Below x2.heap.size x2 w') :=
    refuses_built I x2 [⟨#[50]⟩] [1] (by decide) (by decide) (small3i (by decide +kernel)) (small3 (by decide +kernel)) 2 (by decide +kernel) (by decide)
  go_wp2_with fail
  refine HR3.out.mono ?_
  rintro e x3 ⟨rfl, d3⟩
  have B3 := below_chain B2 (Nat.le_refl _) d3
  clear HR3 d3 B2
  have HR4 : Hid (Calls Tryd.prog 23 #[.int .i64 2, .slice (some ⟨x3.heap.size, 0, none⟩) 2 2, .slice (some ⟨x3.heap.size + 1, 0, none⟩) 1 1] ((x3.alloc (.cells #[.int .i64 1, .int .i64 2] 3 (0, 0))).alloc (.cells #[.string ⟨#[49]⟩] 9 (0, 0))) fun r w' => r = .returned (.bool true) ∧ Below x3.heap.size x3 w') :=
    refuses_built I x3 [⟨#[49]⟩] [1, 2] (by decide) (by decide) (small3i (by decide +kernel)) (small3 (by decide +kernel)) 2 (by decide +kernel) (by decide)
  go_wp2_with fail
  refine HR4.out.mono ?_
  rintro e x4 ⟨rfl, d4⟩
  have B4 := below_chain B3 (Nat.le_refl _) d4
  clear HR4 d4 B3
  go_wp2_with fail
  refine (refuses_nil I x4).mono ?_
  rintro e x5 ⟨rfl, d5⟩
  go_wp2
  go_ret
  exact ⟨rfl, below_chain B4 (Nat.le_refl _) d5⟩

end Go.Proofs.YtdadmoefmaojlaaDoor
