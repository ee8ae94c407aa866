/- coeff's table: the codes of runs, and the func that hands each row to a range over it. coeff's table: what its func hands to a round. -/
import Derived.Test.YtbcfiafgolcbpaaGreatDoorERef
import Derived.Test.YtbcfiafgolcbpaaGreatDoorSeq
import Derived.Test.YtbcfiafgolcbpaaGreatDoorFld
import Derived.Deep.WholeRow
import Derived.OwnWalkIn
/- coeff's table: the codes of runs, and the func that hands each row to a range over it. -/
namespace Go.Proofs.YtbcfiafgolcbpaaGreatDoor
open Go.RowKit Go.Shelf
set_option linter.unusedVariables false
attribute [local go_sem] Oper.semAt_some

theorem stop_store8 {P : Program} {ops : Array Oper} {rest : List Oper} {o : Oper} {a : Act} {w : World} {Q : Exit → Act → World → Prop} (t : TypeId) (x y : Operand) (ho : o.op = .store t x y) (h : wpList P ops Q (o :: rest) a w) : wpList P ops Q (o :: rest) a w := h
def runs8 : Array Value := (strV rows8).toArray
theorem runs8_size : runs8.size = 27 := by decide +kernel
theorem runs8_info : (Tryz.prog.info? 167).map (·.size) = some runs8.size := by rw [runs8_size]; kernel_rfl
theorem runs8_one : runs8.all (·.oneCell') = true := by decide +kernel
set_option maxRecDepth 100000 in
set_option maxHeartbeats 1000000 in
theorem runs_any (w : World) :
    Calls Tryz.prog 132 #[] w fun e w' => e = .returned (.agg runs8) ∧ w' = w.alloc (.cells runs8 167 (0, 0)) := by
  go_enter Tryz.func132, Tryz.ntmps132
  go_wp2_with (with_reducible refine stop_store8 167 _ _ rfl ?_; refine Hid.out ?_)
  refine Lib.hid ?_
  refine wpList_store_rowTo rfl 167 _ _ rfl rfl w.heap.size runs8 rfl (by kernel_rfl) 167 _ (World.alloc_heap_new w _) runs8_info (by rw [runs8_size]; rfl) runs8_one ?_
  rw [World.setRow_alloc_new]
  generalize hT : runs8 = T at *
  have HT := Lib.hid hT
  clear hT
  go_wp2
  exact bodyPost_ret (v := .agg T) (results_cell_row rfl _ _ w.heap.size 167 T (0, 0) (.array 27 9) rfl (World.alloc_heap_new w _) (by kernel_rfl) rfl (by rw [← HT.out]; exact runs8_info)) rfl ⟨by rw [HT.out], by rw [HT.out]⟩

theorem runs_index0 (W : World) : (Instr.index 167 (.agg runs8) (.int .i64 ((0 : Nat) : Int))).run Tryz.prog W = .ok (.string (rowAt8 0)) W := by kernel_rfl
theorem runs_index1 (W : World) : (Instr.index 167 (.agg runs8) (.int .i64 ((1 : Nat) : Int))).run Tryz.prog W = .ok (.string (rowAt8 1)) W := by kernel_rfl
theorem runs_index2 (W : World) : (Instr.index 167 (.agg runs8) (.int .i64 ((2 : Nat) : Int))).run Tryz.prog W = .ok (.string (rowAt8 2)) W := by kernel_rfl
theorem runs_index3 (W : World) : (Instr.index 167 (.agg runs8) (.int .i64 ((3 : Nat) : Int))).run Tryz.prog W = .ok (.string (rowAt8 3)) W := by kernel_rfl
theorem runs_index4 (W : World) : (Instr.index 167 (.agg runs8) (.int .i64 ((4 : Nat) : Int))).run Tryz.prog W = .ok (.string (rowAt8 4)) W := by kernel_rfl
theorem runs_index5 (W : World) : (Instr.index 167 (.agg runs8) (.int .i64 ((5 : Nat) : Int))).run Tryz.prog W = .ok (.string (rowAt8 5)) W := by kernel_rfl
theorem runs_index6 (W : World) : (Instr.index 167 (.agg runs8) (.int .i64 ((6 : Nat) : Int))).run Tryz.prog W = .ok (.string (rowAt8 6)) W := by kernel_rfl
theorem runs_index7 (W : World) : (Instr.index 167 (.agg runs8) (.int .i64 ((7 : Nat) : Int))).run Tryz.prog W = .ok (.string (rowAt8 7)) W := by kernel_rfl
theorem runs_index8 (W : World) : (Instr.index 167 (.agg runs8) (.int .i64 ((8 : Nat) : Int))).run Tryz.prog W = .ok (.string (rowAt8 8)) W := by kernel_rfl
theorem runs_index9 (W : World) : (Instr.index 167 (.agg runs8) (.int .i64 ((9 : Nat) : Int))).run Tryz.prog W = .ok (.string (rowAt8 9)) W := by kernel_rfl
theorem runs_index10 (W : World) : (Instr.index 167 (.agg runs8) (.int .i64 ((10 : Nat) : Int))).run Tryz.prog W = .ok (.string (rowAt8 10)) W := by kernel_rfl
theorem runs_index11 (W : World) : (Instr.index 167 (.agg runs8) (.int .i64 ((11 : Nat) : Int))).run Tryz.prog W = .ok (.string (rowAt8 11)) W := by kernel_rfl
theorem runs_index12 (W : World) : (Instr.index 167 (.agg runs8) (.int .i64 ((12 : Nat) : Int))).run Tryz.prog W = .ok (.string (rowAt8 12)) W := by kernel_rfl
theorem runs_index13 (W : World) : (Instr.index 167 (.agg runs8) (.int .i64 ((13 : Nat) : Int))).run Tryz.prog W = .ok (.string (rowAt8 13)) W := by kernel_rfl
theorem runs_index14 (W : World) : (Instr.index 167 (.agg runs8) (.int .i64 ((14 : Nat) : Int))).run Tryz.prog W = .ok (.string (rowAt8 14)) W := by kernel_rfl
theorem runs_index15 (W : World) : (Instr.index 167 (.agg runs8) (.int .i64 ((15 : Nat) : Int))).run Tryz.prog W = .ok (.string (rowAt8 15)) W := by kernel_rfl
theorem runs_index16 (W : World) : (Instr.index 167 (.agg runs8) (.int .i64 ((16 : Nat) : Int))).run Tryz.prog W = .ok (.string (rowAt8 16)) W := by kernel_rfl
theorem runs_index17 (W : World) : (Instr.index 167 (.agg runs8) (.int .i64 ((17 : Nat) : Int))).run Tryz.prog W = .ok (.string (rowAt8 17)) W := by kernel_rfl
theorem runs_index18 (W : World) : (Instr.index 167 (.agg runs8) (.int .i64 ((18 : Nat) : Int))).run Tryz.prog W = .ok (.string (rowAt8 18)) W := by kernel_rfl
theorem runs_index19 (W : World) : (Instr.index 167 (.agg runs8) (.int .i64 ((19 : Nat) : Int))).run Tryz.prog W = .ok (.string (rowAt8 19)) W := by kernel_rfl
theorem runs_index20 (W : World) : (Instr.index 167 (.agg runs8) (.int .i64 ((20 : Nat) : Int))).run Tryz.prog W = .ok (.string (rowAt8 20)) W := by kernel_rfl
theorem runs_index21 (W : World) : (Instr.index 167 (.agg runs8) (.int .i64 ((21 : Nat) : Int))).run Tryz.prog W = .ok (.string (rowAt8 21)) W := by kernel_rfl
theorem runs_index22 (W : World) : (Instr.index 167 (.agg runs8) (.int .i64 ((22 : Nat) : Int))).run Tryz.prog W = .ok (.string (rowAt8 22)) W := by kernel_rfl
theorem runs_index23 (W : World) : (Instr.index 167 (.agg runs8) (.int .i64 ((23 : Nat) : Int))).run Tryz.prog W = .ok (.string (rowAt8 23)) W := by kernel_rfl
theorem runs_index24 (W : World) : (Instr.index 167 (.agg runs8) (.int .i64 ((24 : Nat) : Int))).run Tryz.prog W = .ok (.string (rowAt8 24)) W := by kernel_rfl
theorem runs_index25 (W : World) : (Instr.index 167 (.agg runs8) (.int .i64 ((25 : Nat) : Int))).run Tryz.prog W = .ok (.string (rowAt8 25)) W := by kernel_rfl
theorem runs_index26 (W : World) : (Instr.index 167 (.agg runs8) (.int .i64 ((26 : Nat) : Int))).run Tryz.prog W = .ok (.string (rowAt8 26)) W := by kernel_rfl
theorem runs_index {k : Nat} (hk : k < 27) (W : World) : (Instr.index 167 (.agg runs8) (.int .i64 k)).run Tryz.prog W = .ok (.string (rowAt8 k)) W := by
  have h : k = 0 ∨ k = 1 ∨ k = 2 ∨ k = 3 ∨ k = 4 ∨ k = 5 ∨ k = 6 ∨ k = 7 ∨ k = 8 ∨ k = 9 ∨ k = 10 ∨ k = 11 ∨ k = 12 ∨ k = 13 ∨ k = 14 ∨ k = 15 ∨ k = 16 ∨ k = 17 ∨ k = 18 ∨ k = 19 ∨ k = 20 ∨ k = 21 ∨ k = 22 ∨ k = 23 ∨ k = 24 ∨ k = 25 ∨ k = 26 := by omega
  rcases h with rfl | rfl | rfl | rfl | rfl | rfl | rfl | rfl | rfl | rfl | rfl | rfl | rfl | rfl | rfl | rfl | rfl | rfl | rfl | rfl | rfl | rfl | rfl | rfl | rfl | rfl | rfl
  · exact runs_index0 W
  · exact runs_index1 W
  · exact runs_index2 W
  · exact runs_index3 W
  · exact runs_index4 W
  · exact runs_index5 W
  · exact runs_index6 W
  · exact runs_index7 W
  · exact runs_index8 W
  · exact runs_index9 W
  · exact runs_index10 W
  · exact runs_index11 W
  · exact runs_index12 W
  · exact runs_index13 W
  · exact runs_index14 W
  · exact runs_index15 W
  · exact runs_index16 W
  · exact runs_index17 W
  · exact runs_index18 W
  · exact runs_index19 W
  · exact runs_index20 W
  · exact runs_index21 W
  · exact runs_index22 W
  · exact runs_index23 W
  · exact runs_index24 W
  · exact runs_index25 W
  · exact runs_index26 W

theorem etable_in (F : Fence) (n : Nat) (hf : F.fn 116) (hro : F.round = none) (first : Bool) (w : World) :
    CallsIn F n Tryz.prog 116 #[.bool first] w fun e w' => e = .returned (.func (.func 131) #[] #[.pointer (some ⟨w.heap.size, 0, none⟩)]) ∧ w' = w.alloc (.cells #[.bool first] 4) := by
  refine callsIn_of_wp Tryz.func116 rfl hf ?_ hro
  simp only [Tryz.ntmps116, List.size_toArray, List.length_cons, List.length_nil, Nat.reduceAdd, Nat.reduceSub, Array.replicate_succ, Array.replicate_zero, List.push_toArray, List.append_toArray, List.nil_append, List.cons_append]
  gi_wp2
  go_ret
  exact ⟨rfl, rfl⟩

/-! ### marks of loops over funcs that were left -/

end Go.Proofs.YtbcfiafgolcbpaaGreatDoor

/- coeff's table: what its func hands to a round. -/
namespace Go.Proofs.YtbcfiafgolcbpaaGreatDoor
open Go.RowKit Go.Shelf
set_option linter.unusedVariables false
attribute [local go_sem] Oper.semAt_some

def fieldR (r k : Nat) : ByteArray := codeAt (ends8 r + k)
def manyR (r : Nat) : Nat := ends8 (r + 1) - ends8 r
theorem scanF8 : ∀ r : Fin 27, scanL (fieldR r) (manyR r) (rowAt8 r) (rowAt8 r).data.toList 0 0 none = true := by decide +kernel
theorem pairR : ∀ r : Fin 27, ∀ k : Fin 15, k.val < manyR r → pairAt (ends8 r + k) = (r.val, k.val + 1) := by decide +kernel
theorem manyR_le : ∀ r : Fin 27, manyR r ≤ 15 ∧ ends8 r + manyR r = ends8 (r + 1) ∧ ends8 r + manyR r ≤ 63 := by decide +kernel
/-- what the table's func hands to a round -/
abbrev encE (first : Bool) (k : Nat) : Array Value := #[.string (codeF first k), .agg #[.int .i64 ((pairAt k).1 : Nat), .int .i64 ((pairAt k).2 : Nat)]]

theorem fields_T (n : Nat) (hn : 1 ≤ n) (m bb : Nat) (s : ByteArray) (F : Nat → ByteArray) (N : Nat) (hsc : scanL F N s s.data.toList 0 0 none = true) (hsz : s.size ≤ 1000000) (hgm : 1 < m) (w : World) (hm : m ≤ w.heap.size) (hbb : bb < w.heap.size) (hcb : w.cell? ⟨bb, 0, none⟩ = some (.string s)) (hS : Spc w) :
    SeqT Fence.wide n Tryz.prog 144 #[.pointer (some ⟨bb, 0, none⟩)] (encF F) (KpB m bb bb) N w := fun l J Jx W hW _ _ hY h0 =>
  (fields1_in n hn l m bb s F N hsc hsz hgm (fun c W1 => J c W1 ∧ W.heap.size ≤ W1.heap.size) Jx
    (fun x W1 hj hx => (hY x W1 hj.1 hj.2 hx).mono fun e W' ⟨hk, h⟩ => h.imp (fun ⟨h1, h2, h3⟩ => ⟨h1, ⟨h2, Nat.le_trans hj.2 hk.1⟩, h3⟩) id)
    W ((hW.cell (p := ⟨bb, 0, none⟩) hbb).trans hcb) (hS.below hW) ⟨h0, Nat.le_refl _⟩).mono fun e W' ⟨h1, h2⟩ => ⟨h1, h2.imp (fun h => h.1) id⟩

/-- between two fields of a row -/
structure FInv (W : World) (m bb l g r x : Nat) (ds : List Deferred) (J : Nat → World → Prop) (w : World) : Prop where
  j : J (ends8 r + x) w
  marks : Marks W.heap.size w g ds
  kp : KpB m bb bb W w
  box : ∃ t, w.heap[W.heap.size]? = some (.cells #[.func (.yield l) #[] #[]] t (0, 0))
  run : ∃ t, w.heap[g]? = some (.cells #[.int .i64 (r : Int)] t (0, 0))
  level : ∃ t, w.heap[g + 1]? = some (.cells #[.int .i64 (x : Int)] t (0, 0))
theorem FInv.later {W : World} {m bb l g r x B : Nat} {ds : List Deferred} {J : Nat → World → Prop} {w w' : World} (h : FInv W m bb l g r x ds J w) (hJ : ∀ s A B, J s A → Below W.heap.size A B → J s B) (hb : Below B w w') (hB : g + 2 ≤ B) (hg : W.heap.size < g) (hm : m ≤ W.heap.size) (hbb : bb < W.heap.size) : FInv W m bb l g r x ds J w' := by
  obtain ⟨h1, h2, h3, ⟨t4, h4⟩, ⟨t5, h5⟩, ⟨t6, h6⟩⟩ := h
  have hc := hb.cell (p := ⟨bb, 0, none⟩) (show bb < B by omega)
  exact ⟨hJ _ _ _ h1 (hb.mono (by omega)), h2.keep (fun D a b c => (hb.block D (by omega)).trans c), h3.t ⟨hb.mono (by omega), hc, hc⟩, ⟨t4, (hb.block _ (by omega)).trans h4⟩, ⟨t5, (hb.block _ (by omega)).trans h5⟩, ⟨t6, (hb.block _ (by omega)).trans h6⟩⟩

/-- between two rounds of the table's func -/
structure EInv (W : World) (m bb l : Nat) (w : World) : Prop where
  kp : KpB m bb bb W w
  box : ∃ t, w.heap[W.heap.size]? = some (.cells #[.func (.yield l) #[] #[]] t (0, 0))
  size : W.heap.size + 1 ≤ w.heap.size

set_option maxRecDepth 100000 in
set_option maxHeartbeats 8000000 in
theorem etable1_in (n : Nat) (hn : 9 ≤ n) (l m bb : Nat) (first : Bool) (J Jx : Nat → World → Prop) (W : World) (hm : m ≤ W.heap.size) (hbs : bb < W.heap.size) (hgm : 1 < m)
    (hJ : ∀ s A B, J s A → Below W.heap.size A B → J s B) (hJx : ∀ s A B, Jx s A → Below W.heap.size A B → Jx s B)
    (hY : ∀ x W1, J x W1 → W.heap.size ≤ W1.heap.size → x < 63 → YieldAt Fence.wide (n - 1) Tryz.prog l (encE first x) W1 fun e W' =>
      KeepsHi W.heap.size W1 W' ∧ ((e = .returned (.bool true) ∧ J (x + 1) W' ∧ KpB m bb bb W1 W') ∨ (e = .returned (.bool false) ∧ Jx x W')))
    (hbb : W.cell? ⟨bb, 0, none⟩ = some (.bool first)) (hS : Spc W) (h0 : J 0 W) :
    CallsIn Fence.wide n Tryz.prog 131 #[.func (.yield l) #[] #[], .pointer (some ⟨bb, 0, none⟩)] W fun e W' => (∃ v, e = .returned v) ∧
      (J 63 W' ∨ (∃ k, k < 63 ∧ Jx k W')) := by
  have hn1 : 1 ≤ n := by omega
  have hn2 : 1 ≤ n - 1 := by omega
  have hn3 : 1 ≤ n - 1 - 1 := by omega
  have hn4 : 1 ≤ n - 1 - 1 - 1 := by omega
  have HRu := Lib.hid (fun w => runs_any w)
  have HIx := Lib.hid (fun (k : Nat) (hk : k < 27) (W : World) => runs_index hk W)
  have HJ := Lib.hid hJ
  have HJx := Lib.hid hJx
  have HY := Lib.hid hY
  have HSp := Lib.hid (fun w' (hb : Below m W w') => (fun c hc => (hb.cell (p := ⟨1, c, none⟩) hgm).trans (hS c hc) : Spc w'))
  have HF := Lib.hid (fun s W => fieldsSeq_in Fence.wide (n - 1) trivial rfl s W)
  generalize runs8 = T at *
  clear hJ hJx hY hS
  refine callsIn_of_wp_marks Tryz.func131 rfl trivial ?_ rfl
  simp only [Tryz.ntmps131, List.size_toArray, List.length_cons, List.length_nil, Nat.reduceAdd, Nat.reduceSub, Array.replicate_succ, Array.replicate_zero, List.push_toArray, List.append_toArray, List.nil_append, List.cons_append]
  gi_wp2_with (refine ⟨trivial, ?_⟩; gi_at_call 132; refine (callsIn_wide.2 (HRu.out _)).mono ?_; rintro e w' ⟨rfl, rfl⟩)
  have HC2 : Hid ((((W.alloc (Obj.cells #[Value.func (Fn.yield l) #[] #[]] 166)).alloc (Obj.cells T 167))).cell? ⟨bb, 0, none⟩ = W.cell? ⟨bb, 0, none⟩) := by
    have h := ((Below.refl W.heap.size W).alloc (Nat.le_refl _) (Obj.cells #[Value.func (Fn.yield l) #[] #[]] 166)).alloc (by simp) (Obj.cells T 167)
    exact h.cell (p := ⟨bb, 0, none⟩) hbs
  refine wpIn_loop (fun a w => ∃ (r : Nat) (ds : List Deferred) (u3 u4 u5 u6 u9 u10 u11 u12 u13 u14 u15 u16 u17 u18 u19 u20 u21 u22 u23 u24 u25 u26 u27 u28 u29 u30 u31 u32 u33 : Value), a = { tmps := #[.func (.yield l) #[] #[], .pointer (some ⟨bb, 0, none⟩), .pointer (some ⟨W.heap.size, 0, none⟩), u3, u4, u5, u6, .agg T, .int .i64 (r : Int), u9, u10, u11, u12, u13, u14, u15, u16, u17, u18, u19, u20, u21, u22, u23, u24, u25, u26, u27, u28, u29, u30, u31, u32, u33], defers := ds } ∧ r ≤ 27 ∧ J (ends8 r) w ∧ Marks W.heap.size w w.heap.size ds ∧ EInv W m bb l w)
    (fun a w => 27 - (intOf (a.tmps.getD 8 undef)).toNat) ?start ?round
  case start =>
    refine ⟨0, [], undef, undef, undef, undef, undef, undef, undef, undef, undef, undef, undef, undef, undef, undef, undef, undef, undef, undef, undef, undef, undef, undef, undef, undef, undef, undef, undef, undef, undef, rfl, by omega, ?_, trivial, ?_⟩
    · exact HJ.out _ _ _ h0 (((Below.refl _ W).alloc (Nat.le_refl _) _).alloc (by simp) _)
    · exact ⟨⟨((Below.refl _ W).alloc hm _).alloc (by simp; omega) _, HC2.out, HC2.out⟩, ⟨_, heap_keep (heap_new _ rfl _) _⟩, by simp⟩
  case round =>
    rintro a w ⟨r, ds, u3, u4, u5, u6, u9, u10, u11, u12, u13, u14, u15, u16, u17, u18, u19, u20, u21, u22, u23, u24, u25, u26, u27, u28, u29, u30, u31, u32, u33, rfl, hr, hj, hmk, hE⟩
    by_cases hr2 : r < 27
    · have hri := HIx.out r hr2
      have hrr : (r : Int) < 27 := by omega
      obtain ⟨N1, N2, N3⟩ := manyR_le ⟨r, hr2⟩
      have hsc := scanF8 ⟨r, hr2⟩
      have hss := rows8_small ⟨r, hr2⟩
      have HPr := Lib.hid (fun (k : Nat) (hk : k < manyR r) => pairR ⟨r, hr2⟩ ⟨k, by simp only at N1; omega⟩ hk)
      simp only at N1 N2 N3 hsc hss HPr
      obtain ⟨hkp, ⟨tb, hbx⟩, hsz⟩ := hE
      gi_wp2_with (refine ⟨trivial, ?_⟩; gi_at_call 133; refine (HF.out _ _).mono ?_; rintro e w' ⟨rfl, rfl⟩)
      generalize hs : rowAt8 r = s at *
      have hw3 : (((w.alloc (Obj.cells #[Value.int IntKind.i64 ↑r] 3)).alloc (Obj.cells #[Value.int IntKind.i64 0] 3)).alloc (Obj.cells #[Value.string s] 9)).heap.size = w.heap.size + 3 := by simp
      have hb3 : Below w.heap.size w (((w.alloc (Obj.cells #[Value.int IntKind.i64 ↑r] 3)).alloc (Obj.cells #[Value.int IntKind.i64 0] 3)).alloc (Obj.cells #[Value.string s] 9)) :=
        (((Below.refl _ w).alloc (Nat.le_refl _) _).alloc (by simp) _).alloc (by simp; omega) _
      have hT3 := World.alloc_heap_new ((w.alloc (Obj.cells #[Value.int IntKind.i64 ↑r] 3)).alloc (Obj.cells #[Value.int IntKind.i64 0] 3)) (Obj.cells #[Value.string s] 9)
      have hL3 : (((w.alloc (Obj.cells #[Value.int IntKind.i64 ↑r] 3)).alloc (Obj.cells #[Value.int IntKind.i64 0] 3)).alloc (Obj.cells #[Value.string s] 9)).heap[w.heap.size + 1]? = some (Obj.cells #[Value.int IntKind.i64 0] 3) := heap_keep (heap_new _ (by simp) _) _
      have hR3 : (((w.alloc (Obj.cells #[Value.int IntKind.i64 ↑r] 3)).alloc (Obj.cells #[Value.int IntKind.i64 0] 3)).alloc (Obj.cells #[Value.string s] 9)).heap[w.heap.size]? = some (Obj.cells #[Value.int IntKind.i64 ↑r] 3) := heap_keep (heap_keep (heap_new _ rfl _) _) _
      have hTz : ((w.alloc (Obj.cells #[Value.int IntKind.i64 ↑r] 3)).alloc (Obj.cells #[Value.int IntKind.i64 0] 3)).heap.size = w.heap.size + 1 + 1 := by simp
      rw [hTz] at hT3
      generalize ((w.alloc (Obj.cells #[Value.int IntKind.i64 ↑r] 3)).alloc (Obj.cells #[Value.int IntKind.i64 0] 3)).alloc (Obj.cells #[Value.string s] 9) = w3 at *
      have hc3 := hb3.cell (p := ⟨bb, 0, none⟩) (show bb < w.heap.size by omega)
      have hk3 : KpB m bb bb W w3 := hkp.t ⟨hb3.mono (by omega), hc3, hc3⟩
      refine wpIn_range_T rfl hn1 (gf := 144) (lb := #[.pointer (some ⟨w.heap.size + 1 + 1, 0, none⟩)]) rfl trivial (enters_of Tryz.func144 (by kernel_rfl) rfl)
        (fields_T (n - 1) hn2 m (w.heap.size + 1 + 1) s (fieldR r) (manyR r) hsc (by omega) hgm w3 (by omega) (by omega) (one_cell hT3).1 (HSp.out _ hk3.1))
        KpB.t (fun W' r' o' h => KpB.b (w := w3) (by omega) (by omega) (by omega) W' _ _ o' (by omega) h rfl rfl) (Below.refl _ _) (fun _ => rfl)
        (fun x Wx => FInv W m bb l w.heap.size r x ds J Wx)
        (fun c x Wx => c = .ret ∧ Jx (ends8 r + x) Wx ∧ Marks W.heap.size Wx w.heap.size ds)
        ?hI ?hIx ?h0 ?hround ?hdone ?hstop
      case hI =>
        intro x A B h hb
        exact h.later HJ.out hb (by omega) (by omega) hm hbs
      case hIx =>
        rintro c x A B ⟨h1, h2, h3⟩ hb
        exact ⟨h1, HJx.out _ _ _ h2 (hb.mono (by omega)), h3.keep (fun D a b c => (hb.block D (by omega)).trans c)⟩
      case h0 =>
        exact ⟨HJ.out _ _ _ hj (hb3.mono (by omega)), hmk.keep (fun D a b c => (hb3.block D b).trans c), hk3, ⟨tb, (hb3.block _ (by omega)).trans hbx⟩, ⟨_, hR3⟩, ⟨_, hL3⟩⟩
      case hround =>
        intro x Wx hI hxz hxN
        have hI0 := hI
        obtain ⟨i1, i2, i3, ⟨t4, i4⟩, ⟨t5, i5⟩, ⟨t6, i6⟩⟩ := hI
        gi_wp2
        refine ⟨KeepsHi.refl _ _, KpB.rfl, fun W2 hb2 hz2 hot => ?_⟩
        have hF2 := hI0.later HJ.out hb2 (by omega) (by omega) hm hbs
        obtain ⟨j1, j2, j3, ⟨t4, j4⟩, ⟨t5, j5⟩, ⟨t6, j6⟩⟩ := hF2
        obtain ⟨c6, f6⟩ := one_cell j6
        obtain ⟨c5, f5⟩ := one_cell j5
        obtain ⟨c4, f4⟩ := one_cell j4
        have cb := j3.2.1.trans hbb
        have hT2 := (hb2.block _ (show w.heap.size + 1 + 1 < w3.heap.size by omega)).trans ((show Wx.heap[w.heap.size + 1 + 1]? = Wx.heap[w.heap.size + 1 + 1]? from rfl))
        have hset : Below m W2 (W2.setCell ⟨w.heap.size + 1, 0, none⟩ (.int .i64 ((x : Int) + 1))) := (Below.refl _ W2).setCell (p := ⟨w.heap.size + 1, 0, none⟩) (by simp; omega) _
        have hsetW : Below W.heap.size W2 (W2.setCell ⟨w.heap.size + 1, 0, none⟩ (.int .i64 ((x : Int) + 1))) := (Below.refl _ W2).setCell (p := ⟨w.heap.size + 1, 0, none⟩) (by simp; omega) _
        have hy := yield_depth (F := Fence.wide) rfl (n - 1 - 1 - 1) (HY.out (ends8 r + x) _ (HJ.out _ _ _ j1 hsetW) (by simp; omega) (by omega))
        obtain ⟨fn, tmps, assign, body, hy, hR⟩ := hy
        simp only [encE] at hy
        rw [HPr.out x hxN] at hy
        simp only [Int.natCast_add, Int.natCast_one] at hy
        have hx15 : x < 15 := by omega
        have hFr : fieldR r x = codeAt (ends8 r + x) := rfl
        have fin : ∀ W', KeepsHi W.heap.size (W2.setCell ⟨w.heap.size + 1, 0, none⟩ (.int .i64 ((x : Int) + 1))) W' → KeepsMid w3.heap.size Wx.heap.size W2 W' ∧ Marks W.heap.size W' w.heap.size ds ∧ (∃ t, W'.heap[W.heap.size]? = some (.cells #[.func (.yield l) #[] #[]] t (0, 0))) ∧ (∃ t, W'.heap[w.heap.size]? = some (.cells #[.int .i64 (r : Int)] t (0, 0))) ∧ (∃ t, W'.heap[w.heap.size + 1]? = some (.cells #[.int .i64 (((x + 1 : Nat)) : Int)] t (0, 0))) ∧ W'.heap[w.heap.size + 1 + 1]? = W2.heap[w.heap.size + 1 + 1]? := by
          intro W' hk
          have hz3 : (W2.setCell ⟨w.heap.size + 1, 0, none⟩ (.int .i64 ((x : Int) + 1))).heap.size = W2.heap.size := by simp
          have hk2 : ∀ k, W.heap.size ≤ k → k < W2.heap.size → k ≠ w.heap.size + 1 → W'.heap[k]? = W2.heap[k]? := fun k a b c => by
            rw [hk.2 k a (by omega)]
            exact heap_setCell_other W2 _ k _ (by simpa using c)
          refine ⟨⟨by have := hk.1; omega, fun k a b => hk2 k (by omega) (by omega) (by omega)⟩, j2.keep (fun D a b c => (hk2 D a (by omega) (by omega)).trans c), ⟨t4, (hk2 _ (by omega) (by omega) (by omega)).trans j4⟩, ⟨t5, (hk2 _ (by omega) (by omega) (by omega)).trans j5⟩, ⟨t6, ?_⟩, hk2 _ (by omega) (by omega) (by omega)⟩
          rw [hk.2 _ (by omega) (by omega)]
          exact heap_setCell_same W2 (w.heap.size + 1) 0 _ _ _ j6
        have HFin := Lib.hid fin
        have d6 := c_same (.int .i64 ((x : Int) + 1)) c6
        have d5 := c_other (b := w.heap.size + 1) (.int .i64 ((x : Int) + 1)) (by omega) c5
        have d4 := c_other (b := w.heap.size + 1) (.int .i64 ((x : Int) + 1)) (by omega) c4
        have db := c_other (b := w.heap.size + 1) (.int .i64 ((x : Int) + 1)) (by omega) cb
        have HSet := Lib.hid hset
        have HSetW := Lib.hid hsetW
        have HK2 := Lib.hid j3
        clear fin hset hsetW j2 j3 j4 j5 j6 hT2 hI0 i1 i2 i3 i4 i5 i6 hb2 hot
        have hends : r ≠ 0 → 15 ≤ ends8 r := fun h => (by decide +kernel : ∀ r : Fin 28, r.val ≠ 0 → 15 ≤ ends8 r.val) ⟨r, by omega⟩ h
        cases first with
        | false =>
          have hcF : codeF false (ends8 r + x) = codeAt (ends8 r + x) := rfl
          rw [hcF] at hy
          clear hends
          gi_wp2
          refine hR.mono ?_
          rintro e W' ⟨hk, ⟨rfl, hJ3, hk3⟩ | ⟨rfl, hJx3⟩⟩
          · obtain ⟨g1, g2, g3, g4, g5, g6⟩ := HFin.out W' hk
            have hcb := HSetW.out.cell (p := ⟨bb, 0, none⟩) hbs
            gi_wp2
            exact ⟨g1, ⟨HSet.out.trans hk3.1, World.cell?_of_block g6, World.cell?_of_block g6⟩, ⟨hJ3, g2, (HK2.out.t ⟨HSet.out, hcb, hcb⟩).t hk3, g3, g4, g5⟩⟩
          · obtain ⟨g1, g2, g3, g4, g5, g6⟩ := HFin.out W' hk
            gi_wp2
            exact ⟨g1, rfl, hJx3, g2⟩
        | true =>
          by_cases hr0 : r = 0
          · by_cases hx0 : x = 0
            · have hcF : codeF true (ends8 r + x) = ⟨#[49]⟩ := by rw [hr0, hx0]; decide +kernel
              rw [hcF] at hy
              have e1 : ((r : Int) == 0) = true := by rw [beq_iff_eq]; omega
              have e2 : ((x : Int) + 1 == 1) = true := by rw [beq_iff_eq]; omega
              clear hends hr0 hx0
              gi_wp2
              refine hR.mono ?_
              rintro e W' ⟨hk, ⟨rfl, hJ3, hk3⟩ | ⟨rfl, hJx3⟩⟩
              · obtain ⟨g1, g2, g3, g4, g5, g6⟩ := HFin.out W' hk
                have hcb := HSetW.out.cell (p := ⟨bb, 0, none⟩) hbs
                gi_wp2
                exact ⟨g1, ⟨HSet.out.trans hk3.1, World.cell?_of_block g6, World.cell?_of_block g6⟩, ⟨hJ3, g2, (HK2.out.t ⟨HSet.out, hcb, hcb⟩).t hk3, g3, g4, g5⟩⟩
              · obtain ⟨g1, g2, g3, g4, g5, g6⟩ := HFin.out W' hk
                gi_wp2
                exact ⟨g1, rfl, hJx3, g2⟩
            · have hcF : codeF true (ends8 r + x) = codeAt (ends8 r + x) := by unfold codeF; rw [if_neg (by simp; omega)]
              rw [hcF] at hy
              have e1 : ((r : Int) == 0) = true := by rw [beq_iff_eq]; omega
              have e2 : ((x : Int) + 1 == 1) = false := by rw [beq_eq_false_iff_ne]; omega
              clear hends hr0 hx0
              gi_wp2
              refine hR.mono ?_
              rintro e W' ⟨hk, ⟨rfl, hJ3, hk3⟩ | ⟨rfl, hJx3⟩⟩
              · obtain ⟨g1, g2, g3, g4, g5, g6⟩ := HFin.out W' hk
                have hcb := HSetW.out.cell (p := ⟨bb, 0, none⟩) hbs
                gi_wp2
                exact ⟨g1, ⟨HSet.out.trans hk3.1, World.cell?_of_block g6, World.cell?_of_block g6⟩, ⟨hJ3, g2, (HK2.out.t ⟨HSet.out, hcb, hcb⟩).t hk3, g3, g4, g5⟩⟩
              · obtain ⟨g1, g2, g3, g4, g5, g6⟩ := HFin.out W' hk
                gi_wp2
                exact ⟨g1, rfl, hJx3, g2⟩
          · have hcF : codeF true (ends8 r + x) = codeAt (ends8 r + x) := by
              have := hends hr0
              unfold codeF
              rw [if_neg (by simp; omega)]
            rw [hcF] at hy
            have e1 : ((r : Int) == 0) = false := by rw [beq_eq_false_iff_ne]; omega
            clear hends hr0
            gi_wp2
            refine hR.mono ?_
            rintro e W' ⟨hk, ⟨rfl, hJ3, hk3⟩ | ⟨rfl, hJx3⟩⟩
            · obtain ⟨g1, g2, g3, g4, g5, g6⟩ := HFin.out W' hk
              have hcb := HSetW.out.cell (p := ⟨bb, 0, none⟩) hbs
              gi_wp2
              exact ⟨g1, ⟨HSet.out.trans hk3.1, World.cell?_of_block g6, World.cell?_of_block g6⟩, ⟨hJ3, g2, (HK2.out.t ⟨HSet.out, hcb, hcb⟩).t hk3, g3, g4, g5⟩⟩
            · obtain ⟨g1, g2, g3, g4, g5, g6⟩ := HFin.out W' hk
              gi_wp2
              exact ⟨g1, rfl, hJx3, g2⟩
      case hdone =>
        rintro D W' rfl hI hD
        obtain ⟨i1, i2, i3, i4, i5, i6⟩ := hI
        rw [N2] at i1
        have hlt := (Array.getElem?_eq_some_iff.1 hD).1
        have hr28 : (r : Int) + 1 ≤ 27 := by omega
        gi_wp2
        refine ⟨⟨r + 1, { target := .collected w3.heap.size, args := #[] } :: ds, _, _, _, _, _, _, _, _, _, _, _, _, _, _, _, _, _, _, _, _, _, _, _, _, _, _, _, _, _, rfl, by omega, i1, ⟨w3.heap.size, rfl, by omega, hlt, hD, i2.up (by omega)⟩, ⟨i3, i4, by omega⟩⟩, ?_⟩
        show 27 - ((r : Int) + 1).toNat < 27 - (r : Int).toNat
        omega
      case hstop =>
        rintro D c x W' rfl hx ⟨rfl, hjx, hmk2⟩ hD
        gi_wp2
        exact leaves_marks (_ :: ds) (w3.heap.size + 1) W' ⟨w3.heap.size, rfl, by omega, by omega, hD, hmk2.up (by omega)⟩ (fun W'' hb => ⟨_, results_none rfl _ _ _, ⟨_, rfl⟩, .inr ⟨_, by omega, HJx.out _ _ _ hjx hb⟩⟩)
    · obtain rfl : r = 27 := by omega
      gi_wp2
      exact leaves_marks ds _ _ hmk (fun W' hb => ⟨_, results_none rfl _ _ _, ⟨_, rfl⟩, .inl (HJ.out _ _ _ hj hb)⟩)

end Go.Proofs.YtbcfiafgolcbpaaGreatDoor
