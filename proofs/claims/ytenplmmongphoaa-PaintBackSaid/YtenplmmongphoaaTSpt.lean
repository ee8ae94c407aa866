/- paint: pictures, placeOf, placesOf (praxinoscope/paint). -/
import Derived.Test.YtenplmmongphoaaTPut
import Derived.Test.YtenplmmongphoaaTRef3
namespace Go.Proofs.Ytenplmmongphoaa
open Go.RowKit Go.Shelf Go.Sort
set_option linter.unusedVariables false

/-- slices that lie one after another in a block: so long each -/
def LensAt (W : World) (R n : Nat) (l : Nat → Nat) : Prop := R < W.heap.size ∧ ∀ j, j < n → ∃ a c, W.cell? ⟨R, j, none⟩ = some (.slice a (l j) c)
abbrev lensL (n : Nat) (l : Nat → Nat) : List Int := (List.range n).map fun j => ((l j : Nat) : Int)

set_option maxRecDepth 100000 in
set_option maxHeartbeats 2000000 in
theorem tpics_any {w : World} {R n : Nat} {l : Nat → Nat} (f g a : Int) (hR : LensAt w R n l) (hlen : n ≤ 1000) :
    Calls Try.prog 41 #[.agg #[.int .i64 f, .int .i64 g, .int .i64 a], .slice (some ⟨R, 0, none⟩) n n] w fun e w' => e = .returned (.int .i64 (rfE f g a (lensL n l))) ∧ Below w.heap.size w w' := by
  obtain ⟨W1, hW1⟩ : ∃ W1, w.alloc (.cells #[.int .i64 f, .int .i64 g, .int .i64 a] 37 (0, 0)) = W1 := ⟨_, rfl⟩
  have hb1 : Below w.heap.size w W1 := by rw [← hW1]; exact (Below.refl _ w).alloc (Nat.le_refl _) _
  have B1 := Lib.hid hb1
  have hz1 : W1.heap.size = w.heap.size + 1 := by rw [← hW1]; simp
  have hbx : SpotAt W1 w.heap.size f g a := ⟨_, by rw [← hW1]; exact World.alloc_heap_new w _⟩
  obtain ⟨c0, c1, c2⟩ := hbx.cells
  have HBx := Lib.hid hbx
  have HC := Lib.hid (corner13_ans f g a W1)
  have HS := Lib.hid (fun W => size13_ans f W)
  clear hb1 hbx
  by_cases hc : cE f g a = 0
  · rw [hc] at HC
    have e0 : rfE f g a (lensL n l) = if (lensL n l).all (· == sN f) = true then 0 else 2 := if_pos hc
    rw [e0]
    obtain ⟨sn, hsn, hsn2⟩ := sN_nat f
    have HX : Hid (∀ w', Below w.heap.size w w' → ∀ j, j < n → ∃ a c, w'.cell? ⟨R, j, none⟩ = some (.slice a (l j) c)) := fun w' hb j hj => by
      obtain ⟨a, c, h⟩ := hR.2 j hj
      exact ⟨a, c, (hb.cell (p := ⟨R, j, none⟩) (by simpa using hR.1)).trans h⟩
    have HAll : Hid ((∀ j, j < n → l j = sn) → (lensL n l).all (· == sN f) = true) := fun h => by
      rw [List.all_eq_true]
      intro x hx
      simp only [List.mem_map, List.mem_range] at hx
      obtain ⟨j, hj, rfl⟩ := hx
      rw [hsn, h j hj]
      simp
    have HOne : Hid (∀ j, j < n → l j ≠ sn → (lensL n l).all (· == sN f) = false) := fun j hj h => by
      rw [Bool.eq_false_iff]
      intro h2
      rw [List.all_eq_true] at h2
      have := h2 ((l j : Nat) : Int) (List.mem_map.2 ⟨j, List.mem_range.2 hj, rfl⟩)
      rw [hsn] at this
      simp only [beq_iff_eq] at this
      omega
    rw [hsn] at HS
    clear hR e0 hc
    generalize (lensL n l).all (· == sN f) = ok at *
    clear hsn
    go_enter Try.func41, Try.ntmps41
    go_wp2_with fail
    refine HC.out.mono ?_
    rintro e W2 ⟨rfl, hb⟩
    have B2 := Lib.hid (below_chain B1.out (Nat.le_refl _) hb)
    have HBx := Lib.hid (HBx.out.later hb)
    obtain ⟨d0, d1, d2⟩ := HBx.out.cells
    clear hb c0 c1 c2
    go_wp2_with (go_at_call 48; refine (HS.out _).mono ?_; rintro e w' ⟨rfl, rfl⟩)
    go_loopw [38] (fun i wr => ∃ k : Nat, i = .int .i64 (k : Int) ∧ k ≤ n ∧ (∀ j, j < k → l j = sn) ∧ Below w.heap.size w wr) (fun i _ => n - (intOf i).toNat)
    case atStart => exact ⟨0, rfl, by omega, fun j hj => by omega, B2.out⟩
    case round =>
      obtain ⟨k, rfl, hk, hok, hb⟩ := hrel
      have HB := Lib.hid hb
      clear hb
      by_cases hk2 : k < n
      · have z1 : (k : Int) < (n : Int) := by omega
        obtain ⟨a3, c3, x1⟩ := HX.out _ HB.out k hk2
        by_cases e : l k = sn
        · rw [e] at x1
          have HOk := Lib.hid (show ∀ j, j < k + 1 → l j = sn from fun j hj => by
            by_cases e2 : j = k
            · rw [e2]; exact e
            · exact hok j (by omega))
          clear hok e
          go_wp2_with fail
          go_roundw
          case rel => exact ⟨k + 1, by go_num, by omega, HOk.out, HB.out⟩
          case measure => simp [intOf]; omega
        · have t1 : (((l k : Nat) : Int) != (sn : Int)) = true := by simp; omega
          have hf := HOne.out k hk2 e
          subst hf
          clear hok e HAll HOne
          generalize l k = y at *
          go_wp2_with fail
          go_ret
          exact ⟨rfl, HB.out⟩
      · obtain rfl : k = n := by omega
        have hf := HAll.out hok
        subst hf
        clear hok HAll HOne
        go_wp2_with fail
        go_ret
        exact ⟨rfl, HB.out⟩
  · have e0 : rfE f g a (lensL n l) = cE f g a := if_neg hc
    rw [e0]
    have t1 : (cE f g a != 0) = true := by simpa using hc
    clear e0 hc hR
    generalize cE f g a = ce at *
    go_enter Try.func41, Try.ntmps41
    go_wp2_with fail
    refine HC.out.mono ?_
    rintro e W2 ⟨rfl, hb⟩
    have B2 := Lib.hid (below_chain B1.out (Nat.le_refl _) hb)
    clear hb c0 c1 c2
    go_wp2
    go_ret
    exact ⟨rfl, B2.out⟩

set_option maxRecDepth 100000 in
set_option maxHeartbeats 2000000 in
theorem tplaceOf_any (f g a b : Int) (w : World) :
    Calls Try.prog 42 #[.agg #[.int .i64 f, .int .i64 g, .int .i64 a], .int .i64 b] w fun e w' => e = .returned (.tuple #[.agg #[.int .i64 (pA f g a b), .int .i64 (pW f g a b)], .int .i64 (pE f g a b)]) ∧ Below w.heap.size w w' := by
  obtain ⟨W1, hW1⟩ : ∃ W1, w.alloc (.cells #[.int .i64 f, .int .i64 g, .int .i64 a] 37 (0, 0)) = W1 := ⟨_, rfl⟩
  have hb1 : Below w.heap.size w W1 := by rw [← hW1]; exact (Below.refl _ w).alloc (Nat.le_refl _) _
  have hz1 : W1.heap.size = w.heap.size + 1 := by rw [← hW1]; simp
  have hx1 : SpotAt W1 w.heap.size f g a := ⟨_, by rw [← hW1]; exact World.alloc_heap_new w _⟩
  obtain ⟨W2, hW2⟩ : ∃ W2, W1.alloc (.cells #[.int .i64 0, .int .i64 0] 61 (0, 0)) = W2 := ⟨_, rfl⟩
  have hb2 : Below W1.heap.size W1 W2 := by rw [← hW2]; exact (Below.refl _ W1).alloc (Nat.le_refl _) _
  have hp2 : W2.heap[w.heap.size + 1]? = some (.cells #[.int .i64 0, .int .i64 0] 61 (0, 0)) := by rw [← hz1, ← hW2]; exact World.alloc_heap_new W1 _
  have hbx : SpotAt W2 w.heap.size f g a := hx1.later hb2
  obtain ⟨c0, c1, c2⟩ := hbx.cells
  have B2 := Lib.hid (below_chain hb1 (Nat.le_refl _) hb2)
  have HP2 := Lib.hid hp2
  have HPl := Lib.hid (place13_ans f g a b W2)
  clear hb1 hx1 hb2 hbx hp2
  generalize pA f g a b = P at *
  generalize pW f g a b = q at *
  generalize pE f g a b = pe at *
  go_enter Try.func42, Try.ntmps42
  go_wp2_with fail
  refine HPl.out.mono ?_
  rintro e W3 ⟨rfl, hb⟩
  have B3 := Lib.hid (below_chain B2.out (Nat.le_refl _) hb)
  have hlt := (Array.getElem?_eq_some_iff.1 HP2.out).1
  have hp3 : W3.heap[w.heap.size + 1]? = some (.cells #[.int .i64 0, .int .i64 0] 61 (0, 0)) := (hb.block _ hlt).trans HP2.out
  have f0 : ∀ v, (W3.setCell ⟨w.heap.size + 1, 0, none⟩ v).frozen? ⟨w.heap.size + 1, 1, none⟩ = false := fun v => by
    have := heap_setCell_same W3 (w.heap.size + 1) 0 _ _ v hp3
    simp [World.frozen?, this]
  have f1 : W3.frozen? ⟨w.heap.size + 1, 0, none⟩ = false := by simp [World.frozen?, hp3]
  have c3 : W3.cell? ⟨w.heap.size + 1, 0, none⟩ = some (.int .i64 0) := by simp [World.cell?, hp3]
  have c4 : ∀ v, (W3.setCell ⟨w.heap.size + 1, 0, none⟩ v).cell? ⟨w.heap.size + 1, 1, none⟩ = some (.int .i64 0) := fun v => by
    have := heap_setCell_same W3 (w.heap.size + 1) 0 _ _ v hp3
    simp [World.cell?, this]
  have HP3 := Lib.hid hp3
  clear hb c0 c1 c2 hp3 HPl
  go_wp2
  have hp5 := heap_setCell_same _ (w.heap.size + 1) 1 _ _ (.int .i64 q) (heap_setCell_same W3 (w.heap.size + 1) 0 _ _ (.int .i64 P) HP3.out)
  have z0 : ((W3.setCell ⟨w.heap.size + 1, 0, none⟩ (.int .i64 P)).setCell ⟨w.heap.size + 1, 1, none⟩ (.int .i64 q)).cell? ⟨w.heap.size + 1, 0, none⟩ = some (.int .i64 P) := by simp [World.cell?, hp5]
  have z1 : ((W3.setCell ⟨w.heap.size + 1, 0, none⟩ (.int .i64 P)).setCell ⟨w.heap.size + 1, 1, none⟩ (.int .i64 q)).cell? ⟨w.heap.size + 1, 1, none⟩ = some (.int .i64 q) := by simp [World.cell?, hp5]
  exact bodyPost_ret (v := .tuple #[.agg #[.int .i64 P, .int .i64 q], .int .i64 pe]) (by simp [results, Try.f42, go_sem, z0, z1]) rfl ⟨rfl, (B3.out.setCell (by simp) _).setCell (by simp) _⟩

/-- the places of a spot's blocks, so many of them told -/
def plcL (f g a : Int) (k : Nat) : List Int := ofC 12 fun j => if j / 2 < k then (if j % 2 = 0 then pA f g a (((j / 2 : Nat) : Int) + 1) else pW f g a (((j / 2 : Nat) : Int) + 1)) else 0
theorem plcL_length (f g a : Int) (k : Nat) : (plcL f g a k).length = 12 := ofC_length _ _
def zeros12 : List Int := List.replicate 12 0
theorem plcL_zero (f g a : Int) : plcL f g a 0 = zeros12 := by
  refine listC_ext (n := 12) (ofC_length _ _) rfl (fun j hj => ?_)
  unfold plcL
  rw [ofC_get hj, if_neg (by omega)]
  exact (by decide : ∀ j : Fin 12, (0 : Int) = nthC (List.replicate 12 0) j.val) ⟨j, hj⟩
theorem plcL_step (f g a : Int) {k : Nat} (hk : k < 6) : ((plcL f g a k).set (k * 2) (pA f g a ((k : Int) + 1))).set (k * 2 + 1) (pW f g a ((k : Int) + 1)) = plcL f g a (k + 1) := by
  refine listC_ext (n := 12) (by simp [plcL_length]) (plcL_length _ _ _ _) (fun j hj => ?_)
  rw [nth_set (by simp [plcL_length]; omega), nth_set (by rw [plcL_length]; omega)]
  unfold plcL
  rw [ofC_get hj, ofC_get hj]
  by_cases e1 : j = k * 2 + 1
  · rw [if_pos e1, if_pos (by omega), if_neg (by omega), show j / 2 = k by omega]
  · rw [if_neg e1]
    by_cases e2 : j = k * 2
    · rw [if_pos e2, if_pos (by omega), if_pos (by omega), show j / 2 = k by omega]
    · rw [if_neg e2]
      by_cases e3 : j / 2 < k
      · rw [if_pos e3, if_pos (show j / 2 < k + 1 by omega)]
      · rw [if_neg e3, if_neg (show ¬ j / 2 < k + 1 by omega)]
theorem plcL_at (f g a : Int) {k : Nat} (hk : k < 6) : nthC (plcL f g a 6) (k * 2) = pA f g a ((k : Int) + 1) ∧ nthC (plcL f g a 6) (k * 2 + 1) = pW f g a ((k : Int) + 1) := by
  unfold plcL
  constructor
  · rw [ofC_get (by omega), if_pos (by omega), if_pos (by omega), show k * 2 / 2 = k by omega]
  · rw [ofC_get (by omega), if_pos (by omega), if_neg (by omega), show (k * 2 + 1) / 2 = k by omega]
theorem plcs_under : Try.prog.underlying 70 = some (.array 6 61) := by kernel_rfl
theorem plcs_info : (Try.prog.info? 70).map (·.size) = some 12 := by kernel_rfl
theorem plcs_zero : (Try.prog.info? 70).map (·.zero) = some (some (.agg (numsA zeros12))) := by kernel_rfl
theorem plcs_index {b : List Int} (hb : b.length = 12) {k : Nat} (hk : k < 6) (W : World) : (Instr.index 70 (.agg (numsA b)) (.int .i64 (k : Int))).run Try.prog W = .ok (.agg #[.int .i64 (nthC b (k * 2)), .int .i64 (nthC b (k * 2 + 1))]) W := by
  have h2 : (sizeOf 61).run Try.prog W = .ok 2 W := by kernel_rfl
  have he : List.take 2 (List.drop (k * 2) (intV b)) = [.int .i64 (nthC b (k * 2)), .int .i64 (nthC b (k * 2 + 1))] := by
    apply List.ext_getElem (by simp [hb]; omega)
    intro i i1 i2
    have hi : i = 0 ∨ i = 1 := by simp at i2; omega
    rcases hi with rfl | rfl
    · simp [nthC, show k * 2 < b.length by omega]
    · simp [nthC, show k * 2 + 1 < b.length by omega]
  simp [Instr.index, asIntOf, Sem.run_bind, run_underlying plcs_under, hk, part, h2, he]

theorem exec_storeMid {P : Program} {w : World} {o : Oper} {ev : Operand → Value} (t : TypeId) (x y : Operand) (ho : o.op = .store t x y) (g off : Nat) (cells cur : List Value) (hx : ev x = .pointer (some ⟨g, off, none⟩)) (hy : ev y = .agg cells.toArray)
    (t' : TypeId) (hg : w.heap[g]? = some (.cells cur.toArray t' (0, 0))) (hi : (P.info? t).map (·.size) = some cells.length) (hfit : off + cells.length ≤ cur.length) (h1 : ∀ v ∈ cells, v.oneCell' = true) :
    (execOp ev o).run P w = .ok .skip (w.setRow g (splice cur off cells).toArray) := by
  have hst := run_storeCells_at P g off t' cells 0 cur.toArray w hg (by simpa using hfit) h1
  cases hq : P.info? t with
  | none => simp [hq] at hi
  | some i =>
    have hs : i.size = cells.length := by simpa [hq] using hi
    unfold execOp
    simp [ho, hx, hy, Instr.storeAt, Instr.sureAddr, storeVar, Sem.run_bind, sizeOf, typeInfo, hq, hs, Value.cells, hst, splice]
theorem wpList_storeMid {P : Program} {w : World} {ops : Array Oper} {rest : List Oper} {o : Oper} {a : Act} {Q : Exit → Act → World → Prop} (hgd : o.guard = none) (t : TypeId) (x y : Operand) (ho : o.op = .store t x y) (g off : Nat) (cells cur : List Value) (hx : a.eval x = .pointer (some ⟨g, off, none⟩)) (hy : a.eval y = .agg cells.toArray)
    (t' : TypeId) (hg : w.heap[g]? = some (.cells cur.toArray t' (0, 0))) (N : Nat) (hN : cells.length = N) (hi : (P.info? t).map (·.size) = some N) (hfit : off + N ≤ cur.length) (h1 : ∀ v ∈ cells, v.oneCell' = true)
    (h : wpList P ops Q rest (a.put o.dst undef) (w.setRow g (splice cur off cells).toArray)) : wpList P ops Q (o :: rest) a w :=
  wpList_skipZ hgd (exec_storeMid t x y ho g off cells cur hx hy t' hg (by rw [hN]; exact hi) (by rw [hN]; exact hfit) h1) h

set_option maxRecDepth 100000 in
set_option maxHeartbeats 2000000 in
theorem tplacesOf_any (f g a : Int) (w : World) :
    Calls Try.prog 46 #[.agg #[.int .i64 f, .int .i64 g, .int .i64 a]] w fun e w' => e = .returned (.agg (numsA (plcL f g a 6))) ∧ Below w.heap.size w w' := by
  obtain ⟨W1, hW1⟩ : ∃ W1, w.alloc (.cells #[.int .i64 f, .int .i64 g, .int .i64 a] 37 (0, 0)) = W1 := ⟨_, rfl⟩
  have hb1 : Below w.heap.size w W1 := by rw [← hW1]; exact (Below.refl _ w).alloc (Nat.le_refl _) _
  have hz1 : W1.heap.size = w.heap.size + 1 := by rw [← hW1]; simp
  have hx1 : SpotAt W1 w.heap.size f g a := ⟨_, by rw [← hW1]; exact World.alloc_heap_new w _⟩
  have hA2 := numsAt_new W1 70 zeros12
  have hb2 : Below W1.heap.size W1 (W1.alloc (.cells (numsA zeros12) 70)) := (Below.refl _ W1).alloc (Nat.le_refl _) _
  have hz2 : (W1.alloc (.cells (numsA zeros12) 70)).heap.size = w.heap.size + 2 := by simp; omega
  generalize hW2 : W1.alloc (.cells (numsA zeros12) 70) = W2 at *
  have hA3 := hA2.alloc (.cells (numsA zeros12) 70)
  have hB3 := numsAt_new W2 70 zeros12
  have hb3 : Below W2.heap.size W2 (W2.alloc (.cells (numsA zeros12) 70)) := (Below.refl _ W2).alloc (Nat.le_refl _) _
  have hz3 : (W2.alloc (.cells (numsA zeros12) 70)).heap.size = w.heap.size + 3 := by simp; omega
  generalize hW3 : W2.alloc (.cells (numsA zeros12) 70) = W3 at *
  rw [hz1] at hA3
  rw [hz2] at hB3
  rw [← plcL_zero f g a] at hB3
  have HX3 := Lib.hid ((hx1.later hb2).later hb3)
  have HB3 := Lib.hid (below_chain (below_chain hb1 (Nat.le_refl _) hb2) (Nat.le_refl _) hb3)
  have HA3 := Lib.hid hA3
  have HN3 := Lib.hid hB3
  have HSp := Lib.hid (fun b W => tplaceOf_any f g a b W)
  have HSt := Lib.hid (fun k hk => @plcL_step f g a k hk)
  have HLn := Lib.hid (plcL_length f g a)
  obtain ⟨PL, hPL⟩ : ∃ PL, PL = plcL f g a := ⟨_, rfl⟩
  rw [← hPL] at HN3 HSt HLn ⊢
  clear hb1 hx1 hA2 hb2 hA3 hB3 hb3 hPL
  go_enter Try.func46, Try.ntmps46
  go_wp2_with (with_reducible refine wpList_allocZ rfl 70 (numsA zeros12) rfl plcs_zero ?_)
  clear hW1 hW2 hW3 hz1 hz2 hz3
  go_loopw [5] (fun i wr => ∃ k : Nat, i = .int .i64 (k : Int) ∧ k ≤ 6 ∧ NumsAt wr (w.heap.size + 2) 70 (PL k) ∧ NumsAt wr (w.heap.size + 1) 70 zeros12 ∧ SpotAt wr w.heap.size f g a ∧ Below w.heap.size w wr) (fun i _ => 6 - (intOf i).toNat)
  case atStart => exact ⟨0, rfl, by omega, HN3.out, HA3.out, HX3.out, HB3.out⟩
  case round =>
    obtain ⟨k, rfl, hk, hn, ha, hx, hb⟩ := hrel
    have HN := Lib.hid hn
    have HA := Lib.hid ha
    have HX := Lib.hid hx
    have HB := Lib.hid hb
    clear hn ha hx hb HN3 HA3 HX3 HB3
    by_cases hk2 : k < 6
    · have z1 : (k : Int) < 6 := by omega
      have z0 : (0 : Int) ≤ k := by omega
      obtain ⟨d0, d1, d2⟩ := HX.out.cells
      have hpl := HSp.out ((k : Int) + 1) wr
      have hst := HSt.out k hk2
      generalize pA f g a ((k : Int) + 1) = P at *
      generalize pW f g a ((k : Int) + 1) = q at *
      generalize pE f g a ((k : Int) + 1) = pe at *
      have HPl := Lib.hid hpl
      have HStk := Lib.hid hst
      clear hpl hst
      go_wp2_with fail
      refine HPl.out.mono ?_
      rintro e w4 ⟨rfl, hb⟩
      have HN4 := Lib.hid (HN.out.below hb HN.out.lt)
      have HA4 := Lib.hid (HA.out.below hb HA.out.lt)
      have HX4 := Lib.hid (HX.out.later hb)
      have HB4 := Lib.hid (below_chain HB.out (Nat.le_refl _) hb)
      have c4 := HN4.out.cell (k := k * 2) (by rw [HLn.out]; omega)
      have f4 := HN4.out.frozen (k * 2)
      have HN5 := Lib.hid (HN4.out.set (k * 2) P)
      have c5 := HN5.out.cell (k := k * 2 + 1) (by rw [List.length_set, HLn.out]; omega)
      have f5 := HN5.out.frozen (k * 2 + 1)
      clear hb d0 d1 d2 HPl
      go_wp2_with fail
      exact ⟨⟨k + 1, by go_num, by omega, by rw [← HStk.out]; exact (HN4.out.set _ _).set _ _, (HA4.out.other (by simp) _).other (by simp) _, spotAt_set (spotAt_set HX4.out (by simp) _) (by simp) _, (HB4.out.setCell (by simp) _).setCell (by simp) _⟩, by simp [intOf]; omega⟩
    · obtain rfl : k = 6 := by omega
      have HLs : Hid ((intV (PL 6)).length = 12) := by show (intV (PL 6)).length = 12; rw [List.length_map]; exact HLn.out 6
      have HLz : Hid ((numsA (PL 6)).size = 12) := by show (numsA (PL 6)).size = 12; rw [List.size_toArray]; exact HLs.out
      have HZ : Hid ((numsA zeros12).size = 12) := rfl
      have HAh := Lib.hid (show wr.heap[w.heap.size + 1]? = some (.cells (numsA zeros12) 70 (0, 0)) from HA.out)
      go_wp2_with (first
        | (with_reducible refine wpList_loadZ rfl 70 _ rfl ⟨w.heap.size + 2, 0, none⟩ rfl (intV (PL 6)) HN.out.cells 6 61 plcs_under 12 HLs.out plcs_info ?_)
        | (with_reducible refine wpList_storeZ rfl 70 _ _ rfl (w.heap.size + 1) (numsA (PL 6)) rfl rfl 70 (numsA zeros12) HAh.out 12 HLz.out plcs_info HZ.out (numsA_one _) ?_))
      have hR5 : (wr.setRow (w.heap.size + 1) (numsA (PL 6))).heap[w.heap.size + 1]? = some (.cells (numsA (PL 6)) 70 (0, 0)) := setRow_heap wr _ _ _ _ _ HA.out
      exact bodyPost_ret (v := .agg (numsA (PL 6))) (results_cell_row rfl _ _ (w.heap.size + 1) 70 _ (0, 0) (.array 6 61) rfl hR5 plcs_under rfl (by rw [HLz.out]; exact plcs_info)) rfl ⟨rfl, below_setRowZ HB.out (by omega) _⟩

end Go.Proofs.Ytenplmmongphoaa
