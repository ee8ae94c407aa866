/- motion: planes and their samples; Fetch: the record over the landed code. -/
import Derived.Test.YtenplmmongphoaaMFit
import Derived.Test.YtenplmmongphoaaQTail
namespace Go.Proofs.Ytenplmmongphoaa
open Go.RowKit Go.Shelf Go.Sort
set_option linter.unusedVariables false
attribute [local go_sem] Oper.semAt_some

/-- a plane by value -/
abbrev plnV (w h fst : Int) (bb o len cap : Nat) : Value := .agg #[.int .i64 w, .int .i64 h, .int .i64 fst, .slice (some ⟨bb, o, none⟩) len cap]
set_option maxRecDepth 100000 in
set_option maxHeartbeats 2000000 in
theorem msample_any (w h fst x y : Int) (bb o len cap k : Nat) (z : UInt8) (hw0 : 0 ≤ w) (hw : w ≤ 352) (hy0 : 0 ≤ y) (hy : y ≤ 288) (hx0 : 0 ≤ x) (hx : x ≤ 352) (hk : w * y + x = (k : Int)) (hl : k < len) (hlen : len ≤ 152064) (W : World) (hbb : bb < W.heap.size) (hc : W.cell? ⟨bb, o + k, none⟩ = some (.int .u8 z.toNat)) :
    Calls Try.prog 76 #[plnV w h fst bb o len cap, .int .i64 x, .int .i64 y] W fun e W' => e = .returned (.int .u8 z.toNat) ∧ Below W.heap.size W W' := by
  have hm : w * y ≤ 352 * 288 := Int.mul_le_mul hw hy hy0 (by omega)
  have hm0 : 0 ≤ w * y := Int.mul_nonneg hw0 hy0
  have HC := Lib.hid (fun o => (Below.cell (p := ⟨bb, 0 + k, none⟩) ((Below.refl W.heap.size W).alloc (Nat.le_refl _) o) hbb))
  go_enter Try.func76, Try.ntmps76
  go_wp2
  go_ret
  exact ⟨rfl, (Below.refl _ W).alloc (Nat.le_refl _) _⟩
set_option maxRecDepth 100000 in
set_option maxHeartbeats 2000000 in
theorem mspot_any (w h fst at_ c r : Int) (bb o len cap : Nat) (hw0 : 0 < w) (hw : w ≤ 352) (ha0 : 0 ≤ at_) (ha : at_ ≤ 152064) (hf0 : 0 ≤ fst) (hf : fst ≤ 152064) (hc : (at_ - fst).tmod w = c) (hr : (at_ - fst).tdiv w = r) (hc0 : 0 ≤ c) (hc1 : c ≤ 352) (hr0 : 0 ≤ r) (hr1 : r ≤ 152064) (W : World) :
    Calls Try.prog 56 #[plnV w h fst bb o len cap, .int .i64 at_] W fun e W' => e = .returned (.tuple #[.int .i64 c, .int .i64 r]) ∧ Below W.heap.size W W' := by
  go_enter Try.func56, Try.ntmps56
  go_wp2
  go_quiet (fail)
  go_wp2
  go_ret2
  exact ⟨rfl, ((Below.refl _ _).alloc (Nat.le_refl _) _).trans (below_drewN _ _ _)⟩
set_option maxRecDepth 100000 in
set_option maxHeartbeats 4000000 in
theorem mplanes_any (w h w2 h2 : Int) (n m q : Nat) (hq : n + m = q) (bb o len cap : Nat) (hw0 : 0 ≤ w) (hw : w ≤ 352) (hh0 : 0 ≤ h) (hh : h ≤ 288) (hn : w * h = (n : Int)) (hw2 : w.tdiv 2 = w2) (hh2 : h.tdiv 2 = h2) (hw3 : 0 ≤ w2) (hw4 : w2 ≤ 176) (hh3 : 0 ≤ h2) (hh4 : h2 ≤ 144) (hm : w2 * h2 = (m : Int))
    (hm0 : 0 < m) (hl : n + m + m = len) (hlc : len ≤ cap) (hlen : len ≤ 1000000) (W : World) :
    Calls Try.prog 54 #[.slice (some ⟨bb, o, none⟩) len cap, .int .i64 w, .int .i64 h] W fun e W' => e = .returned (.agg #[.int .i64 w, .int .i64 h, .int .i64 0, .slice (some ⟨bb, o, none⟩) n cap, .int .i64 w2, .int .i64 h2, .int .i64 n, .slice (some ⟨bb, o + n, none⟩) m (cap - n), .int .i64 w2, .int .i64 h2, .int .i64 (q : Int), .slice (some ⟨bb, o + q, none⟩) (len - q) (cap - q)]) ∧ Below W.heap.size W W' := by
  have HA := Lib.hid (fun W => mmany_any w h hw0 hw hh0 hh W)
  have HB := Lib.hid (fun W => mmany_any w2 h2 hw3 (by omega) hh3 (by omega) W)
  rw [hn] at HA
  rw [hm] at HB
  go_enter Try.func54, Try.ntmps54
  go_wp2
  obtain ⟨w3, hw5⟩ : ∃ w3, (((W.alloc (Obj.cells #[Value.int IntKind.i64 0, Value.int IntKind.i64 0, Value.int IntKind.i64 0, Value.slice none 0 0, Value.int IntKind.i64 0, Value.int IntKind.i64 0, Value.int IntKind.i64 0, Value.slice none 0 0, Value.int IntKind.i64 0, Value.int IntKind.i64 0, Value.int IntKind.i64 0, Value.slice none 0 0] 83)).alloc (Obj.cells #[Value.int IntKind.i64 w, Value.int IntKind.i64 h] 80)).alloc (Obj.cells #[Value.int IntKind.i64 w2, Value.int IntKind.i64 h2] 80)) = w3 := ⟨_, rfl⟩
  rw [hw5]
  have hz3 : w3.heap.size = W.heap.size + 3 := by rw [← hw5]; simp
  have hb3 : Below W.heap.size W w3 := by rw [← hw5]; exact (((Below.refl _ W).alloc (Nat.le_refl _) _).alloc (by simp) _).alloc (by simp; omega) _
  have q0 : w3.heap[W.heap.size]? = some (Obj.cells #[Value.int IntKind.i64 0, Value.int IntKind.i64 0, Value.int IntKind.i64 0, Value.slice none 0 0, Value.int IntKind.i64 0, Value.int IntKind.i64 0, Value.int IntKind.i64 0, Value.slice none 0 0, Value.int IntKind.i64 0, Value.int IntKind.i64 0, Value.int IntKind.i64 0, Value.slice none 0 0] 83 (0, 0)) := by rw [← hw5]; exact heap_keep (heap_keep (heap_new _ rfl _) _) _
  have q1 : w3.heap[W.heap.size + 1]? = some (Obj.cells #[Value.int IntKind.i64 w, Value.int IntKind.i64 h] 80 (0, 0)) := by rw [← hw5]; exact heap_keep (heap_new _ (by simp) _) _
  have q2 : w3.heap[W.heap.size + 1 + 1]? = some (Obj.cells #[Value.int IntKind.i64 w2, Value.int IntKind.i64 h2] 80 (0, 0)) := by rw [← hw5]; exact heap_new _ (by simp) _
  clear hw5
  have C1 : ∀ d os, Calls Try.prog 74 #[.agg #[.int .i64 w, .int .i64 h]] (Sort.grow (redrawn w3 d) os) fun e w'' => e = .returned (.int .i64 (n : Int)) ∧ ∃ p : Regrown, w'' = Sort.grow (redrawn w3 p.d) p.os := fun d os => Calls.regrown_of (HA.out _)
  have C2 : ∀ d os, Calls Try.prog 74 #[.agg #[.int .i64 w2, .int .i64 h2]] (Sort.grow (redrawn w3 d) os) fun e w'' => e = .returned (.int .i64 (m : Int)) ∧ ∃ p : Regrown, w'' = Sort.grow (redrawn w3 p.d) p.os := fun d os => Calls.regrown_of (HB.out _)
  have k0 : ∀ d os, (Sort.grow (redrawn w3 d) os).cell? ⟨W.heap.size + 1, 0, none⟩ = some (.int .i64 w) := fun d os => cell_regrown (by simp [World.cell?, q1]) d os
  have k1 : ∀ d os, (Sort.grow (redrawn w3 d) os).cell? ⟨W.heap.size + 1, 1, none⟩ = some (.int .i64 h) := fun d os => cell_regrown (by simp [World.cell?, q1]) d os
  have k2 : ∀ d os, (Sort.grow (redrawn w3 d) os).cell? ⟨W.heap.size + 1 + 1, 0, none⟩ = some (.int .i64 w2) := fun d os => cell_regrown (by simp [World.cell?, q2]) d os
  have k3 : ∀ d os, (Sort.grow (redrawn w3 d) os).cell? ⟨W.heap.size + 1 + 1, 1, none⟩ = some (.int .i64 h2) := fun d os => cell_regrown (by simp [World.cell?, q2]) d os
  refine wp_region_quiet_below (by kernel_rfl) (by kernel_rfl) ?_
  iterate 6 quiet_step ((go_at_call 74; first | exact C1 _ _ | exact C2 _ _))
  refine wpQuiet_nil ?_
  rintro _ ⟨⟨dq, osq⟩, rfl⟩
  have b4 := below_regrown w3 dq osq
  have r0 := (b4.block _ (by omega)).trans q0
  have r1 := (b4.block _ (by omega)).trans q1
  have r2 := (b4.block _ (by omega)).trans q2
  have hz4 := b4.size
  have hB4 := hb3.trans (b4.mono (by omega))
  generalize Sort.grow (redrawn w3 dq) osq = w4 at *
  have R0 := Lib.hid r0
  have HB4 := Lib.hid hB4
  clear C1 C2 k0 k1 k2 k3 q0 q1 q2 hb3 b4 r0 hB4 HA HB
  have j0 : ∀ n, (w4.drewN n).cell? ⟨W.heap.size + 1, 0, none⟩ = some (.int .i64 w) := fun n => by simp [World.cell?, World.drewN, r1]
  have j1 : ∀ n, (w4.drewN n).cell? ⟨W.heap.size + 1, 1, none⟩ = some (.int .i64 h) := fun n => by simp [World.cell?, World.drewN, r1]
  have j2 : ∀ n, (w4.drewN n).cell? ⟨W.heap.size + 1 + 1, 0, none⟩ = some (.int .i64 w2) := fun n => by simp [World.cell?, World.drewN, r2]
  have j3 : ∀ n, (w4.drewN n).cell? ⟨W.heap.size + 1 + 1, 1, none⟩ = some (.int .i64 h2) := fun n => by simp [World.cell?, World.drewN, r2]
  go_wp2_with fail
  refine wp_region_quiet_tail (C := fun w' => ∃ n, w' = w4.drewN n) 25 (by kernel_rfl) (by kernel_rfl) ⟨1, rfl⟩ ?_
  simp only [List.take_succ_cons, List.take_zero, List.drop_succ_cons, List.drop_zero]
  have s1 : n ≤ cap := by omega
  have s2 : n ≤ q := by omega
  have s3 : q ≤ cap := by omega
  have s4 : q ≤ len := by omega
  have s5 : ¬ cap = n := by omega
  have s6 : ¬ cap = q := by omega
  have s7 : q - n = m := by omega
  have e1 : IntKind.i64.wrap ((n : Int) + (m : Int)) = (q : Int) := by rw [IntKind.wrap_i64]; omega
  iterate 25 quiet_step (fail)
  refine wpQuiet_nil ?_
  rintro _ ⟨nq, rfl⟩
  have r3 : (w4.drewN nq).heap[W.heap.size]? = some (Obj.cells #[Value.int IntKind.i64 0, Value.int IntKind.i64 0, Value.int IntKind.i64 0, Value.slice none 0 0, Value.int IntKind.i64 0, Value.int IntKind.i64 0, Value.int IntKind.i64 0, Value.slice none 0 0, Value.int IntKind.i64 0, Value.int IntKind.i64 0, Value.int IntKind.i64 0, Value.slice none 0 0] 83 (0, 0)) := R0.out
  have b5 : Below W.heap.size W (w4.drewN nq) := HB4.out.trans (below_drewN _ _ _)
  have hcs : ∃ cs : Array Value, cs = #[.int .i64 w, .int .i64 h, .int .i64 0, .slice (some ⟨bb, o, none⟩) n cap, .int .i64 w2, .int .i64 h2, .int .i64 n, .slice (some ⟨bb, o + n, none⟩) m (cap - n), .int .i64 w2, .int .i64 h2, .int .i64 (q : Int), .slice (some ⟨bb, o + q, none⟩) (len - q) (cap - q)] ∧ cs.size = 12 ∧ cs.all (·.oneCell') = true := ⟨_, rfl, rfl, by simp [Value.oneCell']⟩
  obtain ⟨cs, ecs, hs12, h1c⟩ := hcs
  generalize w4.drewN nq = w5 at *
  have HS12 := Lib.hid hs12
  have H1c := Lib.hid h1c
  clear r1 r2 j0 j1 j2 j3 hs12 h1c
  refine wpList_storeZ rfl 83 _ _ rfl W.heap.size cs rfl (congrArg Value.agg ecs.symm) 83 _ r3 12 HS12.out (by kernel_rfl) rfl H1c.out ?_
  have HEcs := Lib.hid ecs
  clear ecs
  go_wp2_with fail
  have hR5 : (w5.setRow W.heap.size cs).heap[W.heap.size]? = some (.cells cs 83 (0, 0)) := setRow_heap w5 W.heap.size _ _ _ _ r3
  exact bodyPost_ret (v := .agg cs) (results_cell_row rfl _ _ W.heap.size 83 _ (0, 0) (.array 3 82) rfl hR5 (by kernel_rfl) rfl (by rw [HS12.out]; kernel_rfl)) rfl ⟨by rw [HEcs.out], below_setRowZ b5 (Nat.le_refl _) _⟩

/-- what the region of a round has told: one sample more -/
structure SmpC (B base : Nat) (v : Value) (k : Nat) (cs : List Value) (pl : Value) (x y : Int) (z : Value) (W0 : World) (L : Nat → Bool) (x14 x15 x16 x17 x18 x19 x20 : Value) (W : World) : Prop where
  bar : Bar (fun j => j = B ∨ v.ownBlock = some j) W0 W
  rl : W.heap[B]? = some (.cells #[if L 7 = true then x20 else v] 22 (0, 0))
  l0 : L 0 = true → x14 = v
  l1 : L 1 = true → x15 = pl
  l2 : L 2 = true → x16 = .int .i64 x
  l3 : L 3 = true → x17 = .int .i64 y
  l4 : L 4 = true → x18 = z
  l5 : L 5 = true → ∃ g, x19 = .slice (some ⟨g, 0, none⟩) 1 1 ∧ W0.heap.size ≤ g ∧ (L 6 = false → W.heap[g]? = some (.cells #[z] 5 (0, 0)))
  n6 : L 6 = false → W.ownsRow base 5 1 v k cs
  l6 : L 6 = true → W.ownsRow base 5 1 x20 (k + 1) (cs ++ [z])
def SmpI (fr : Value → Value → Value → Value → Value → Value → Value → Act) (B base : Nat) (v : Value) (k : Nat) (cs : List Value) (pl : Value) (x y : Int) (z : Value) (W0 : World) (L : Nat → Bool) (ac : Act) (W : World) : Prop :=
  ∃ x14 x15 x16 x17 x18 x19 x20, ac = fr x14 x15 x16 x17 x18 x19 x20 ∧ SmpC B base v k cs pl x y z W0 L x14 x15 x16 x17 x18 x19 x20 W

set_option maxRecDepth 100000 in
set_option maxHeartbeats 4000000 in
theorem msamples_any (w h fst x y : Int) (bb o len cap : Nat) (G : Nat → UInt8) (hw0 : 0 ≤ w) (hw : w ≤ 352) (hx0 : 0 ≤ x) (hx : x + 8 ≤ w) (hy0 : 0 ≤ y) (hy : y + 8 ≤ h) (hh : h ≤ 288) (hlen : len ≤ 152064) (W : World) (hbb : bb < W.heap.size)
    (hG : ∀ k, k < 64 → ∃ j : Nat, w * (y + ((k / 8 : Nat) : Int)) + (x + ((k % 8 : Nat) : Int)) = (j : Int) ∧ j < len ∧ W.cell? ⟨bb, o + j, none⟩ = some (.int .u8 (G k).toNat)) :
    Calls Try.prog 58 #[plnV w h fst bb o len cap, .agg #[.int .i64 x, .int .i64 y, .int .i64 8]] W fun e W' => ∃ v, e = .returned v ∧ W'.ownsRow W.heap.size 5 1 v 64 (u8s ((List.range 64).map G)) ∧ Below W.heap.size W W' := by
  have H : MPl w h x y 8 64 := by
    refine ⟨Nat.le_refl _, fun k hk => ?_, fun hk => by omega⟩
    unfold inP
    omega
  have HP := Lib.hid (fun W => mplaces_in Fence.wide (40 - 1) trivial rfl w h x y 8 W)
  have HD := Lib.hid (fun ba bq m w0 => mplaces_D H (by omega) (by omega) (by omega) (by omega) (by omega) (by omega) (40 - 1) (by omega) ba bq m w0)
  have HS : Hid (∀ k, k < 64 → ∀ Wr, Below W.heap.size W Wr → Calls Try.prog 76 #[plnV w h fst bb o len cap, .int .i64 (x + ((k % 8 : Nat) : Int)), .int .i64 (y + ((k / 8 : Nat) : Int))] Wr fun e W' => e = .returned (.int .u8 (G k).toNat) ∧ Below Wr.heap.size Wr W') := fun k hk Wr hb => by
    obtain ⟨j, e1, e2, e3⟩ := hG k hk
    exact msample_any w h fst (x + ((k % 8 : Nat) : Int)) (y + ((k / 8 : Nat) : Int)) bb o len cap j (G k) hw0 hw (by omega) (by omega) (by omega) (by omega) e1 e2 hlen Wr (Nat.lt_of_lt_of_le hbb hb.size) ((hb.cell (p := ⟨bb, o + j, none⟩) hbb).trans e3)
  clear hG H
  generalize hpl : plnV w h fst bb o len cap = pl at *
  have HPl := Lib.hid hpl
  refine (callsIn_wide (n := 40)).1 ?_
  refine callsIn_of_wp_marks Try.func58 rfl trivial ?_ rfl
  simp only [Try.ntmps58, List.size_toArray, List.length_cons, List.length_nil, Nat.reduceAdd, Nat.reduceSub, Array.replicate_succ, Array.replicate_zero, List.push_toArray, List.append_toArray, List.nil_append, List.cons_append]
  subst hpl
  gi_wp2_with (refine ⟨trivial, ?_⟩; gi_at_call 75; refine (HP.out _).mono ?_; rintro e w' ⟨rfl, rfl⟩)
  obtain ⟨w1, hw⟩ : ∃ w1, (((((W.alloc (Obj.cells #[Value.int IntKind.i64 w, Value.int IntKind.i64 h, Value.int IntKind.i64 fst, Value.slice (some { block := bb, off := o }) len cap] 82)).alloc (Obj.cells #[Value.int IntKind.i64 x, Value.int IntKind.i64 y, Value.int IntKind.i64 8] 89)).alloc (Obj.cells #[Value.slice none 0 0] 22)).alloc (Obj.cells #[Value.int IntKind.i64 w, Value.int IntKind.i64 h] 80)).alloc (Obj.cells #[Value.int IntKind.i64 x, Value.int IntKind.i64 y, Value.int IntKind.i64 8] 89)) = w1 := ⟨_, rfl⟩
  rw [hw]
  have hz1 : w1.heap.size = W.heap.size + 5 := by rw [← hw]; simp
  have hb1 : Below W.heap.size W w1 := by rw [← hw]; exact (((((Below.refl _ W).alloc (Nat.le_refl _) _).alloc (by simp) _).alloc (by simp; omega) _).alloc (by simp; omega) _).alloc (by simp; omega) _
  have q0 : w1.heap[W.heap.size]? = some (.cells #[.int .i64 w, .int .i64 h, .int .i64 fst, .slice (some ⟨bb, o, none⟩) len cap] 82 (0, 0)) := by rw [← hw]; exact heap_keep (heap_keep (heap_keep (heap_keep (heap_new _ rfl _) _) _) _) _
  have q2 : w1.heap[W.heap.size + 1 + 1]? = some (.cells #[.slice none 0 0] 22 (0, 0)) := by rw [← hw]; exact heap_keep (heap_keep (heap_new _ (by simp) _) _) _
  have q3 : ∃ t, w1.heap[W.heap.size + 1 + 1 + 1]? = some (.cells #[.int .i64 w, .int .i64 h] t (0, 0)) := by rw [← hw]; exact ⟨_, heap_keep (heap_new _ (by simp) _) _⟩
  have q4 : ∃ t, w1.heap[W.heap.size + 1 + 1 + 1 + 1]? = some (.cells #[.int .i64 x, .int .i64 y, .int .i64 ((8 : Nat) : Int)] t (0, 0)) := by rw [← hw]; exact ⟨_, heap_new _ (by simp) _⟩
  clear hw HP
  refine wpIn_range_D rfl (by omega) (gf := 84) (lb := #[.pointer (some ⟨W.heap.size + 1 + 1 + 1 + 1, 0, none⟩), .pointer (some ⟨W.heap.size + 1 + 1 + 1, 0, none⟩)]) rfl trivial (enters_of Try.func84 (by kernel_rfl) rfl)
    (HD.out (W.heap.size + 1 + 1 + 1) (W.heap.size + 1 + 1 + 1 + 1) (w1.heap.size + 2) w1 q3 q4) (by omega) (by omega) KpM.trans
    (fun W' o' h => ⟨by simp [World.putObj], fun k hk => World.putObj_heap_other (by omega)⟩) (Below.refl _ _) (fun _ => rfl)
    (fun k Wx => Below W.heap.size W Wx ∧ Wx.heap[W.heap.size]? = some (.cells #[.int .i64 w, .int .i64 h, .int .i64 fst, .slice (some ⟨bb, o, none⟩) len cap] 82 (0, 0)) ∧ ∃ v, Wx.heap[W.heap.size + 1 + 1]? = some (.cells #[v] 22 (0, 0)) ∧ Wx.ownsRow (W.heap.size + 11) 5 1 v k (u8s ((List.range k).map G)))
    ?hI ?h0 ?hround ?hdone
  case hI =>
    rintro k A B ⟨h1, h2, v, h3, h4⟩ hb
    have l2 := (Array.getElem?_eq_some_iff.1 h2).1
    have l3 := (Array.getElem?_eq_some_iff.1 h3).1
    exact ⟨h1.trans (hb.below h1.size (fun j hj e => by omega)), (hb.block _ l2 (by omega)).trans h2, v, (hb.block _ l3 (by omega)).trans h3, ownsRow_bar h4 hb (fun j e e2 => by have := (h4.lt j e).1; omega)⟩
  case h0 =>
    intro W' hb
    exact ⟨hb1.trans (hb.below (by omega) (fun _ _ e => e)), (hb.block _ (by omega) (fun e => e)).trans q0, .slice none 0 0, (hb.block _ (by omega) (fun e => e)).trans q2, World.ownsRow_nil _ _ _ _⟩
  case hround =>
    rintro k Wx ⟨h1, h2, v, h3, h4⟩ hxz hk
    gi_wp2
    refine ⟨Keep2.refl _ _, KpM.refl _ _ _ _, fun W2 hb2 hz2 hot => ?_⟩
    replace h1 := h1.trans (hb2.below h1.size (fun j hj e => by omega))
    replace h2 := (hot _ (by omega)).trans h2
    replace h3 := (hot _ (by omega)).trans h3
    replace h4 := ownsRow_bar h4 hb2 (fun j e e2 => by have := (h4.lt j e).1; omega)
    have HVl := Lib.hid h4.lt
    have HSm : Hid (∀ Wr, Bar (fun j => j = W.heap.size + 1 + 1 ∨ v.ownBlock = some j) W2 Wr → Calls Try.prog 76 #[plnV w h fst bb o len cap, .int .i64 (x + ((k % 8 : Nat) : Int)), .int .i64 (y + ((k / 8 : Nat) : Int))] Wr fun e W' => e = .returned (.int .u8 (G k).toNat) ∧ Below Wr.heap.size Wr W') := fun Wr hb =>
      HS.out k hk Wr (h1.trans (hb.below h1.size (fun j hj e => by
        rcases e with e | e
        · omega
        · have := (HVl.out _ e).1; omega)))
    have HPB : Hid (∀ Wr, Bar (fun j => j = W.heap.size + 1 + 1 ∨ v.ownBlock = some j) W2 Wr → Wr.cell? ⟨W.heap.size, 0, none⟩ = some (.int .i64 w) ∧ Wr.cell? ⟨W.heap.size, 1, none⟩ = some (.int .i64 h) ∧ Wr.cell? ⟨W.heap.size, 2, none⟩ = some (.int .i64 fst) ∧ Wr.cell? ⟨W.heap.size, 3, none⟩ = some (.slice (some ⟨bb, o, none⟩) len cap)) := fun Wr hb => by
      have e := (hb.block W.heap.size (by omega) (fun e => by
        rcases e with e | e
        · omega
        · have := (HVl.out _ e).1; omega)).trans h2
      simp [World.cell?, e]
    have hzW := h1.size
    have hz11 : W.heap.size + 11 ≤ W2.heap.size := by omega
    have H1 := Lib.hid h1
    have H2 := Lib.hid h2
    have H3 := Lib.hid h3
    have H4 := Lib.hid h4
    have hGs : u8s ((List.range (k + 1)).map G) = u8s ((List.range k).map G) ++ [.int .u8 (G k).toNat] := by rw [List.range_succ]; simp [u8s]
    have HGs := Lib.hid hGs
    clear h1 h2 h3 h4 hGs hb2 hot hxz q0 q2 q3 q4 hb1 HD HS
    generalize u8s ((List.range k).map G) = cs at *
    generalize G k = z at *
    gi_wp2
    refine wpIn_mono (Q := fun e aa W' => e = .normal ∧ Bar (fun j => j = W.heap.size + 1 + 1 ∨ v.ownBlock = some j) W2 W' ∧ ∃ v', W'.heap[W.heap.size + 1 + 1]? = some (.cells #[v'] 22 (0, 0)) ∧ W'.ownsRow (W.heap.size + 11) 5 1 v' (k + 1) (cs ++ [.int .u8 z.toNat])) ?reg ?rest
    case reg =>
      refine wpIn_region_inv (by kernel_rfl) (by kernel_rfl) (by kernel_rfl) (SmpI (fun x14 x15 x16 x17 x18 x19 x20 => { tmps := #[plnV w h fst bb o len cap, .agg #[.int .i64 x, .int .i64 y, .int .i64 8], .pointer (some ⟨W.heap.size, 0, none⟩), .pointer (some ⟨W.heap.size + 1, 0, none⟩), .slice none 0 0, .pointer (some ⟨W.heap.size + 1 + 1, 0, none⟩), .int .i64 (x + ((k % 8 : Nat) : Int)), .int .i64 (y + ((k / 8 : Nat) : Int)), .pointer (some ⟨W.heap.size, 0, none⟩), .agg #[.int .i64 w, .int .i64 h], .agg #[.int .i64 x, .int .i64 y, .int .i64 8], .func (.func 84) #[] #[.pointer (some ⟨W.heap.size + 1 + 1 + 1 + 1, 0, none⟩), .pointer (some ⟨W.heap.size + 1 + 1 + 1, 0, none⟩)], .int .i64 (x + ((k % 8 : Nat) : Int)), .int .i64 (y + ((k / 8 : Nat) : Int)), x14, x15, x16, x17, x18, x19, x20, undef], defers := [] }) (W.heap.size + 1 + 1) (W.heap.size + 11) v k cs (plnV w h fst bb o len cap) (x + ((k % 8 : Nat) : Int)) (y + ((k / 8 : Nat) : Int)) (.int .u8 z.toNat) W2) ?h0 ?st ?hd
      case h0 =>
        intro L hL
        have e : ∀ i, ¬ L i = true := fun i h => by rw [hL i] at h; cases h
        refine ⟨undef, undef, undef, undef, undef, undef, undef, rfl, ⟨(Bar.refl _ _).drew, ?_, fun h => (e _ h).elim, fun h => (e _ h).elim, fun h => (e _ h).elim, fun h => (e _ h).elim, fun h => (e _ h).elim, fun h => (e _ h).elim, fun _ => H4.out, fun h => (e _ h).elim⟩⟩
        rw [if_neg (e 7)]
        exact H3.out
      case st =>
        refine ⟨?o0, ?o1, ?o2, ?o3, ?o4, ?o5, ?o6, ?o7, trivial⟩
        case o0 =>
          rintro L a Wr hL hbe hcl ⟨x14, x15, x16, x17, x18, x19, x20, rfl, hC⟩
          have h7 : L 7 = false := by
            rw [Bool.eq_false_iff]; intro h
            have := hcl 7 _ rfl h { on := 0, ground := .phase } (by simp) rfl
            rw [hL] at this; cases this
          have hrl := hC.rl
          rw [if_neg (by simp [h7])] at hrl
          obtain ⟨c0, -⟩ := one_cell hrl
          have HC := Lib.hid hC
          clear hC hcl hbe
          clear h7 hrl
          go_simp
          exact ⟨_, x15, x16, x17, x18, x19, x20, rfl, ⟨HC.out.bar, HC.out.rl, fun _ => rfl, HC.out.l1, HC.out.l2, HC.out.l3, HC.out.l4, HC.out.l5, HC.out.n6, HC.out.l6⟩⟩
        case o1 =>
          rintro L a Wr hL hbe hcl ⟨x14, x15, x16, x17, x18, x19, x20, rfl, hC⟩
          obtain ⟨p0, p1, p2, p3⟩ := HPB.out Wr hC.bar
          have HC := Lib.hid hC
          clear hC hcl hbe
          go_simp
          exact ⟨x14, _, x16, x17, x18, x19, x20, rfl, ⟨HC.out.bar, HC.out.rl, HC.out.l0, fun _ => rfl, HC.out.l2, HC.out.l3, HC.out.l4, HC.out.l5, HC.out.n6, HC.out.l6⟩⟩
        case o2 =>
          rintro L a Wr hL hbe hcl ⟨x14, x15, x16, x17, x18, x19, x20, rfl, hC⟩
          have HC := Lib.hid hC
          clear hC hcl hbe
          go_simp
          exact ⟨x14, x15, _, x17, x18, x19, x20, rfl, ⟨HC.out.bar, HC.out.rl, HC.out.l0, HC.out.l1, fun _ => rfl, HC.out.l3, HC.out.l4, HC.out.l5, HC.out.n6, HC.out.l6⟩⟩
        case o3 =>
          rintro L a Wr hL hbe hcl ⟨x14, x15, x16, x17, x18, x19, x20, rfl, hC⟩
          have HC := Lib.hid hC
          clear hC hcl hbe
          go_simp
          exact ⟨x14, x15, x16, _, x18, x19, x20, rfl, ⟨HC.out.bar, HC.out.rl, HC.out.l0, HC.out.l1, HC.out.l2, fun _ => rfl, HC.out.l4, HC.out.l5, HC.out.n6, HC.out.l6⟩⟩
        case o4 =>
          rintro L a Wr hL hbe hcl ⟨x14, x15, x16, x17, x18, x19, x20, rfl, hC⟩
          obtain rfl := hC.l1 (hbe { on := 1, ground := .data } (by simp) rfl)
          obtain rfl := hC.l2 (hbe { on := 2, ground := .data } (by simp) rfl)
          obtain rfl := hC.l3 (hbe { on := 3, ground := .data } (by simp) rfl)
          have HC := Lib.hid hC
          clear hC hcl hbe
          go_simp
          refine ⟨trivial, CallsIn.mono (F := Fence.wide.inRound _) (callsIn_wide.2 (HSm.out Wr HC.out.bar)) ?_⟩
          rintro e W6 ⟨rfl, hbw⟩
          exact ⟨x14, _, _, _, _, x19, x20, rfl, ⟨HC.out.bar.trans (bar_of_below (S := fun _ => False) hbw) (fun _ _ e => e.elim), (hbw.block _ (Array.getElem?_eq_some_iff.1 HC.out.rl).1).trans HC.out.rl, HC.out.l0, HC.out.l1, HC.out.l2, HC.out.l3, fun _ => rfl, fun h => by obtain ⟨g, e1, e2, e3⟩ := HC.out.l5 h; exact ⟨g, e1, e2, fun h6 => (hbw.block _ (Array.getElem?_eq_some_iff.1 (e3 h6)).1).trans (e3 h6)⟩, fun h => ownsRow_bar (HC.out.n6 h) (bar_of_below (S := fun _ => False) hbw) (fun _ _ e => e), fun h => ownsRow_bar (HC.out.l6 h) (bar_of_below (S := fun _ => False) hbw) (fun _ _ e => e)⟩⟩
        case o5 =>
          rintro L a Wr hL hbe hcl ⟨x14, x15, x16, x17, x18, x19, x20, rfl, hC⟩
          obtain rfl := hC.l4 (hbe { on := 4, ground := .data } (by simp) rfl)
          have HC := Lib.hid hC
          clear hC hcl hbe
          go_simp
          exact ⟨x14, x15, x16, x17, _, _, x20, rfl, ⟨HC.out.bar.alloc _, heap_keep HC.out.rl _, HC.out.l0, HC.out.l1, HC.out.l2, HC.out.l3, fun _ => rfl, fun _ => ⟨Wr.heap.size, rfl, HC.out.bar.size, fun _ => World.alloc_heap_new _ _⟩, fun h => (HC.out.n6 h).alloc _, fun h => (HC.out.l6 h).alloc _⟩⟩
        case o6 =>
          rintro L a Wr hL hbe hcl ⟨x14, x15, x16, x17, x18, x19, x20, rfl, hC⟩
          have h0 : L 0 = true := hbe { on := 0, ground := .data } (by simp) rfl
          have h5 : L 5 = true := hbe { on := 5, ground := .data } (by simp) rfl
          have h7 : L 7 = false := by
            rw [Bool.eq_false_iff]; intro h
            have := hcl 7 _ rfl h { on := 6, ground := .chain } (by simp) rfl
            rw [hL] at this; cases this
          obtain rfl := hC.l0 h0
          obtain ⟨g, rfl, hg1, hg2⟩ := hC.l5 h5
          have hgh := hg2 hL
          obtain ⟨i0, hi0, hz0, hz1, hz2⟩ := info_parts Try.info5
          have hown := hC.n6 hL
          have hsz := hC.bar.size
          have hrl := hC.rl
          rw [if_neg (by simp [h7])] at hrl
          have hlB := (Array.getElem?_eq_some_iff.1 hrl).1
          refine operIn_append_v (.tmp 14) (.tmp 19) 22 5 i0 (.int .u8 0) 1 rfl Try.underlying22 hi0 hz0 hz1 hz2 rfl (W.heap.size + 11) _ k cs rfl hown (some ⟨g, 0, none⟩) 1 1 [.int .u8 z.toNat] rfl (src_at hgh) (fun e => by cases e) (by simp [Value.oneCell']) (by omega) (by omega) (by omega) (fun v' w2 hap => ?_)
          obtain ⟨ha1, ha2, ha3⟩ := hap
          refine ⟨_, x15, x16, x17, x18, _, v', rfl, ⟨hC.bar.trans (bar_of_grown (S := fun j => j = W.heap.size + 1 + 1 ∨ Value.ownBlock _ = some j) ha2 (fun k e => .inr e)) (fun j _ e => e), ?_, fun _ => rfl, hC.l1, hC.l2, hC.l3, hC.l4, fun _ => ⟨g, rfl, hg1, fun h => by cases h⟩, fun h => by (cases h), fun _ => ha1⟩⟩
          show w2.heap[W.heap.size + 1 + 1]? = some (.cells #[if L 7 = true then v' else _] 22 (0, 0))
          rw [if_neg (by simp [h7])]
          exact (ha2.block _ hlB (fun e => by have := (HVl.out _ e.symm).1; omega)).trans hrl
        case o7 =>
          rintro L a Wr hL hbe hcl ⟨x14, x15, x16, x17, x18, x19, x20, rfl, hC⟩
          have h6 : L 6 = true := hbe { on := 6, ground := .data } (by simp) rfl
          have hrl := hC.rl
          rw [if_neg (by simp [hL])] at hrl
          obtain ⟨c0, f0⟩ := one_cell hrl
          have hl6 := hC.l6 h6
          obtain ⟨av, cv, rfl⟩ := row_form hl6
          have HC := Lib.hid hC
          clear hC hcl hbe
          have HRl := Lib.hid hrl
          have HL6 := Lib.hid hl6
          clear hrl hl6
          go_simp
          exact ⟨x14, x15, x16, x17, x18, x19, _, rfl, ⟨HC.out.bar.setCell (p := ⟨W.heap.size + 1 + 1, 0, none⟩) (fun _ => .inl rfl) _, heap_setCell_same _ (W.heap.size + 1 + 1) 0 _ _ _ HRl.out, HC.out.l0, HC.out.l1, HC.out.l2, HC.out.l3, HC.out.l4, fun h => by obtain ⟨g, e1, e2, -⟩ := HC.out.l5 h; exact ⟨g, e1, e2, fun h => by (rw [show setB L 7 6 = L 6 from rfl, h6] at h; cases h)⟩, fun h => by (rw [show setB L 7 6 = L 6 from rfl, h6] at h; cases h), fun _ => ownsRow_setCell_other HL6.out (a := ⟨W.heap.size + 1 + 1, 0, none⟩) (fun e => by have e := (HL6.out.lt _ e).1; have e : W.heap.size + 11 ≤ W.heap.size + 1 + 1 := e; omega) _⟩⟩
      case hd =>
        rintro L a Wr hL ⟨x14, x15, x16, x17, x18, x19, x20, rfl, hC⟩
        have hrl := hC.rl
        rw [if_pos (hL 7 (by decide))] at hrl
        exact ⟨rfl, hC.bar, _, hrl, hC.l6 (hL 6 (by decide))⟩
    case rest =>
      rintro e aa W' ⟨rfl, hbar, v', hv', hr'⟩
      have hno : ∀ j, j < W.heap.size + 11 → j ≠ W.heap.size + 1 + 1 → W'.heap[j]? = W2.heap[j]? := fun j hj hne => hbar.block _ (by omega) (fun e => by
        rcases e with e | e
        · omega
        · have := (HVl.out _ e).1; omega)
      gi_wp2
      refine ⟨⟨hbar.size, hno _ (by omega) (by omega), hno _ (by omega) (by omega)⟩, ⟨hbar.size, fun j hj => hno _ (by omega) (by omega)⟩, H1.out.trans (hbar.below H1.out.size (fun j hj e => ?_)), (hno _ (by omega) (by omega)).trans H2.out, v', hv', by rw [HGs.out]; exact hr'⟩
      rcases e with e | e
      · omega
      · have := (HVl.out _ e).1; omega
  case hdone =>
    rintro D W' rfl ⟨h1, h2, v, h3, h4⟩ hD
    obtain ⟨c0, -⟩ := one_cell h3
    obtain ⟨av, cv, rfl⟩ := row_form h4
    gi_wp2
    have h5 := h4.lt
    refine leaves_one hD (fun W3 hb => ⟨.slice av 64 cv, by simp [results, Try.f58, go_sem], _, rfl, ownsRow_base (ownsRow_bar h4 hb (fun j e e2 => by have := (h5 j e).1; omega)) (by omega), h1.trans (hb.below h1.size (fun j hj e => by omega))⟩)

/-- a block's plane: how wide and high, where it begins -/
def pnW (f b : Int) : Int := if b ≤ 4 then sW f else sW f / 2
def pnH (f b : Int) : Int := if b ≤ 4 then sH f else sH f / 2
def pnF (f b : Int) : Int := if b ≤ 4 then 0 else if b = 5 then sW f * sH f else sW f * sH f + sW f * sH f / 4

set_option maxHeartbeats 2000000 in
theorem mpl_facts {f g a b x y : Int} (hp : pE f g a b = 0) (hf : fE f g a x y = 0) : ∃ c r : Int, (pA f g a b - pnF f b).tmod (pnW f b) = c ∧ (pA f g a b - pnF f b).tdiv (pnW f b) = r ∧ pA f g a b = pnF f b + pnW f b * r + c ∧ pW f g a b = pnW f b ∧
    (0 ≤ c ∧ c ≤ 352 ∧ 0 ≤ r ∧ r ≤ 288) ∧ 0 ≤ c + mX b x ∧ c + mX b x + 8 ≤ pnW f b ∧ 0 ≤ r + mX b y ∧ r + mX b y + 8 ≤ pnH f b := by
  obtain ⟨hc, hx, hy, hi⟩ := fE_zero hf
  obtain ⟨-, hb1, hb6⟩ := pE_zero hp
  obtain ⟨p, q, ep, eq⟩ := cXY_16 hc
  have hF := cE_F hc
  unfold inB at hi
  rw [ep, eq] at hi
  simp at hi
  obtain ⟨⟨⟨i1, i2⟩, i3⟩, i4⟩ := hi
  unfold prt at hx hy
  simp at hx hy
  have e1 : pA f g a b = atP (sW f) (sH f) (16 * (p : Int)) (16 * (q : Int)) b := by unfold pA; rw [if_pos hp, ep, eq]
  have e2 : pW f g a b = if b ≤ 4 then sW f else sW f / 2 := by unfold pW; rw [if_pos hp]
  rw [e1, e2]
  clear e1 e2 hp hf hc ep eq
  unfold atP mX pnW pnH pnF
  have hb : b = 1 ∨ b = 2 ∨ b = 3 ∨ b = 4 ∨ b = 5 ∨ b = 6 := by omega
  have hhx : hv x = if 0 ≤ x then x / 2 else -(-x / 2) := rfl
  have hhy : hv y = if 0 ≤ y then y / 2 else -(-y / 2) := rfl
  generalize hv x = X at *
  generalize hv y = Y at *
  have key : ∀ (d w c r : Int) (P : Prop), 0 < w → d = w * r + c → 0 ≤ c → c < w → 0 ≤ r → P → (d.tmod w = c ∧ d.tdiv w = r ∧ P) := fun d w c r P hw hd h0 h1 h2 hP => by
    have hd0 : 0 ≤ d := by rw [hd]; have := Int.mul_nonneg (show 0 ≤ w by omega) h2; omega
    rw [Int.tmod_eq_emod_of_nonneg hd0, Int.tdiv_eq_ediv_of_nonneg hd0, hd, Int.add_comm]
    exact ⟨by rw [Int.add_mul_emod_self_left, Int.emod_eq_of_lt h0 h1], by rw [Int.add_mul_ediv_left _ _ (by omega), Int.ediv_eq_zero_of_lt h0 h1, Int.zero_add], hP⟩
  rcases hF with rfl | rfl
  · rw [show sW 0 = 176 from rfl, show sH 0 = 144 from rfl] at *
    rcases hb with rfl | rfl | rfl | rfl | rfl | rfl
    · refine ⟨16 * (p : Int) + 0, 16 * (q : Int) + 0, key _ _ _ _ _ ?_ ?_ ?_ ?_ ?_ ?_⟩
      all_goals (first | omega | (simp at hhx hhy ⊢; omega))
    · refine ⟨16 * (p : Int) + 8, 16 * (q : Int) + 0, key _ _ _ _ _ ?_ ?_ ?_ ?_ ?_ ?_⟩
      all_goals (first | omega | (simp at hhx hhy ⊢; omega))
    · refine ⟨16 * (p : Int) + 0, 16 * (q : Int) + 8, key _ _ _ _ _ ?_ ?_ ?_ ?_ ?_ ?_⟩
      all_goals (first | omega | (simp at hhx hhy ⊢; omega))
    · refine ⟨16 * (p : Int) + 8, 16 * (q : Int) + 8, key _ _ _ _ _ ?_ ?_ ?_ ?_ ?_ ?_⟩
      all_goals (first | omega | (simp at hhx hhy ⊢; omega))
    · refine ⟨8 * (p : Int), 8 * (q : Int), key _ _ _ _ _ ?_ ?_ ?_ ?_ ?_ ?_⟩
      all_goals (first | omega | (simp at hhx hhy ⊢; omega))
    · refine ⟨8 * (p : Int), 8 * (q : Int), key _ _ _ _ _ ?_ ?_ ?_ ?_ ?_ ?_⟩
      all_goals (first | omega | (simp at hhx hhy ⊢; omega))
  · rw [show sW 1 = 352 from rfl, show sH 1 = 288 from rfl] at *
    rcases hb with rfl | rfl | rfl | rfl | rfl | rfl
    · refine ⟨16 * (p : Int) + 0, 16 * (q : Int) + 0, key _ _ _ _ _ ?_ ?_ ?_ ?_ ?_ ?_⟩
      all_goals (first | omega | (simp at hhx hhy ⊢; omega))
    · refine ⟨16 * (p : Int) + 8, 16 * (q : Int) + 0, key _ _ _ _ _ ?_ ?_ ?_ ?_ ?_ ?_⟩
      all_goals (first | omega | (simp at hhx hhy ⊢; omega))
    · refine ⟨16 * (p : Int) + 0, 16 * (q : Int) + 8, key _ _ _ _ _ ?_ ?_ ?_ ?_ ?_ ?_⟩
      all_goals (first | omega | (simp at hhx hhy ⊢; omega))
    · refine ⟨16 * (p : Int) + 8, 16 * (q : Int) + 8, key _ _ _ _ _ ?_ ?_ ?_ ?_ ?_ ?_⟩
      all_goals (first | omega | (simp at hhx hhy ⊢; omega))
    · refine ⟨8 * (p : Int), 8 * (q : Int), key _ _ _ _ _ ?_ ?_ ?_ ?_ ?_ ?_⟩
      all_goals (first | omega | (simp at hhx hhy ⊢; omega))
    · refine ⟨8 * (p : Int), 8 * (q : Int), key _ _ _ _ _ ?_ ?_ ?_ ?_ ?_ ?_⟩
      all_goals (first | omega | (simp at hhx hhy ⊢; omega))

theorem planes_under : Try.prog.underlying 83 = some (.array 3 82) := by kernel_rfl
theorem planes_index (a0 a1 a2 a3 b0 b1 b2 b3 c0 c1 c2 c3 : Value) (W : World) :
    (Instr.index 83 (.agg #[a0, a1, a2, a3, b0, b1, b2, b3, c0, c1, c2, c3]) (.int .i64 0)).run Try.prog W = .ok (.agg #[a0, a1, a2, a3]) W ∧
    (Instr.index 83 (.agg #[a0, a1, a2, a3, b0, b1, b2, b3, c0, c1, c2, c3]) (.int .i64 1)).run Try.prog W = .ok (.agg #[b0, b1, b2, b3]) W ∧
    (Instr.index 83 (.agg #[a0, a1, a2, a3, b0, b1, b2, b3, c0, c1, c2, c3]) (.int .i64 2)).run Try.prog W = .ok (.agg #[c0, c1, c2, c3]) W := by
  refine ⟨?_, ?_, ?_⟩
  all_goals simp [Instr.index, asIntOf, Sem.run_bind, run_underlying planes_under, part]

set_option maxHeartbeats 2000000 in
theorem mpick_any {f g a b x y : Int} (hp : pE f g a b = 0) (hf : fE f g a x y = 0) {bb off len cap : Nat} {zs : List UInt8} (hzl : zs.length = len) (hlen : (len : Int) = sN f) (hlc : len ≤ cap) {W : World} (hbb : bb < W.heap.size)
    (hcell : ∀ j, j < len → W.cell? ⟨bb, off + j, none⟩ = some (.int .u8 (zs[j]?.getD 0).toNat)) :
    ∃ (cs : Array Value) (w h fst c r : Int) (o' len' cap' : Nat),
      (∀ W', Calls Try.prog 54 #[.slice (some ⟨bb, off, none⟩) len cap, .int .i64 (sW f), .int .i64 (sH f)] W' fun e W'' => e = .returned (.agg cs) ∧ Below W'.heap.size W' W'') ∧
      (∀ W', (Instr.index 83 (.agg cs) (.int .i64 (max 0 (b - 4)))).run Try.prog W' = .ok (plnV w h fst bb o' len' cap') W') ∧
      (∀ W', Calls Try.prog 56 #[plnV w h fst bb o' len' cap', .int .i64 (pA f g a b)] W' fun e W'' => e = .returned (.tuple #[.int .i64 c, .int .i64 r]) ∧ Below W'.heap.size W' W'') ∧
      (0 ≤ c ∧ c ≤ 352 ∧ 0 ≤ r ∧ r ≤ 288) ∧
      (∀ Wr, Below W.heap.size W Wr → Calls Try.prog 58 #[plnV w h fst bb o' len' cap', .agg #[.int .i64 (c + mX b x), .int .i64 (r + mX b y), .int .i64 8]] Wr fun e W' => ∃ v, e = .returned v ∧ W'.ownsRow Wr.heap.size 5 1 v 64 (u8s ((List.range 64).map fun k => zs[(mN f g a b x y k).toNat]?.getD 0)) ∧ Below Wr.heap.size Wr W') := by
  obtain ⟨c, r, hc, hr, hpa, hpw, hcr, hx0, hx1, hy0, hy1⟩ := mpl_facts hp hf
  obtain ⟨hc0, hb1, hb6⟩ := pE_zero hp
  have hmn := fun k hk => mN_in hp hf (k := k) hk
  have hpi := pA_in hp
  have hnum : ∃ n m q : Nat, n + m = q ∧ 0 < m ∧ n + m + m = len ∧ sW f * sH f = (n : Int) ∧ sW f * sH f / 4 = (m : Int) ∧ (sW f).tdiv 2 = sW f / 2 ∧ (sH f).tdiv 2 = sH f / 2 ∧ sW f / 2 * (sH f / 2) = (m : Int) ∧ (0 < sW f / 2 ∧ sW f ≤ 352 ∧ 0 < sH f / 2 ∧ sH f ≤ 288) := by
    rcases cE_F hc0 with rfl | rfl
    · rw [show sN 0 = 38016 from rfl] at hlen
      exact ⟨25344, 6336, 31680, rfl, by omega, by omega, by decide, by decide, by decide, by decide, by decide, by decide⟩
    · rw [show sN 1 = 152064 from rfl] at hlen
      exact ⟨101376, 25344, 126720, rfl, by omega, by omega, by decide, by decide, by decide, by decide, by decide, by decide⟩
  obtain ⟨n, m, q, hq, hm0, hl, hn, hn4, hw2, hh2, hm, hs1, hs2, hs3, hs4⟩ := hnum
  have hP := fun W => mplanes_any (sW f) (sH f) (sW f / 2) (sH f / 2) n m q hq bb off len cap (by omega) hs2 (by omega) hs4 hn hw2 hh2 (by omega) (by omega) (by omega) (by omega) hm hm0 hl hlc (by omega) W
  have hw : 0 < pnW f b ∧ pnW f b ≤ 352 ∧ pnH f b ≤ 288 := by unfold pnW pnH; split <;> omega
  have REST : ∀ (F len' cap' : Nat), pnF f b = (F : Int) → F + len' ≤ len → (∀ k, k < 64 → (F : Int) ≤ mN f g a b x y k ∧ mN f g a b x y k < (F : Int) + (len' : Int)) →
      (∀ W', Calls Try.prog 56 #[plnV (pnW f b) (pnH f b) (pnF f b) bb (off + F) len' cap', .int .i64 (pA f g a b)] W' fun e W'' => e = .returned (.tuple #[.int .i64 c, .int .i64 r]) ∧ Below W'.heap.size W' W'') ∧
      (0 ≤ c ∧ c ≤ 352 ∧ 0 ≤ r ∧ r ≤ 288) ∧
      (∀ Wr, Below W.heap.size W Wr → Calls Try.prog 58 #[plnV (pnW f b) (pnH f b) (pnF f b) bb (off + F) len' cap', .agg #[.int .i64 (c + mX b x), .int .i64 (r + mX b y), .int .i64 8]] Wr fun e W' => ∃ v, e = .returned v ∧ W'.ownsRow Wr.heap.size 5 1 v 64 (u8s ((List.range 64).map fun k => zs[(mN f g a b x y k).toNat]?.getD 0)) ∧ Below Wr.heap.size Wr W') := by
    intro F len' cap' hF hFl hin
    refine ⟨fun W' => mspot_any (pnW f b) (pnH f b) (pnF f b) (pA f g a b) c r bb (off + F) len' cap' hw.1 hw.2.1 (by omega) (by omega) (by omega) (by omega) hc hr hcr.1 hcr.2.1 hcr.2.2.1 (by omega) W', hcr, fun Wr hb => ?_⟩
    refine msamples_any (pnW f b) (pnH f b) (pnF f b) (c + mX b x) (r + mX b y) bb (off + F) len' cap' _ (by omega) hw.2.1 hx0 hx1 hy0 hy1 hw.2.2 (by omega) Wr (Nat.lt_of_lt_of_le hbb hb.size) (fun k hk => ?_)
    obtain ⟨i1, i2⟩ := hin k hk
    refine ⟨(mN f g a b x y k - F).toNat, ?_, by omega, ?_⟩
    · rw [Int.toNat_of_nonneg (by omega)]
      unfold mN
      rw [hpa, hpw, hF]
      have e1 := Int.mul_add (pnW f b) (r + mX b y) ((k / 8 : Nat) : Int)
      have e2 := Int.mul_add (pnW f b) r (mX b y)
      have e3 := Int.add_mul ((k / 8 : Nat) : Int) (mX b y) (pnW f b)
      rw [Int.mul_comm ((k / 8 : Nat) : Int), Int.mul_comm (mX b y)] at e3
      omega
    · rw [show off + F + (mN f g a b x y k - F).toNat = off + (mN f g a b x y k).toNat by omega]
      refine (hb.cell (p := ⟨bb, off + (mN f g a b x y k).toNat, none⟩) hbb).trans (hcell _ (by omega))
  have hb : b ≤ 4 ∨ b = 5 ∨ b = 6 := by omega
  rcases hb with h4 | rfl | rfl
  · have e1 : pnW f b = sW f := if_pos h4
    have e2 : pnH f b = sH f := if_pos h4
    have e3 : pnF f b = 0 := if_pos h4
    have := REST 0 n cap e3 (by omega) (fun k hk => by have := (hmn k hk).2.2.1 h4; have := (hmn k hk).1; omega)
    rw [e1, e2, e3, Nat.add_zero] at this
    refine ⟨_, _, _, _, c, r, off, n, cap, hP, fun W' => ?_, this⟩
    rw [show max 0 (b - 4) = 0 by omega]
    exact (planes_index _ _ _ _ _ _ _ _ _ _ _ _ W').1
  · have e1 : pnW f 5 = sW f / 2 := rfl
    have e2 : pnH f 5 = sH f / 2 := rfl
    have e3 : pnF f 5 = (n : Int) := hn
    have := REST n m (cap - n) e3 (by omega) (fun k hk => by have := (hmn k hk).2.2.2.1 rfl; omega)
    rw [e1, e2, e3] at this
    exact ⟨_, _, _, _, c, r, off + n, m, cap - n, hP, fun W' => (planes_index _ _ _ _ _ _ _ _ _ _ _ _ W').2.1, this⟩
  · have e1 : pnW f 6 = sW f / 2 := rfl
    have e2 : pnH f 6 = sH f / 2 := rfl
    have e3 : pnF f 6 = (q : Int) := by show sW f * sH f + sW f * sH f / 4 = _; omega
    have := REST q (len - q) (cap - q) e3 (by omega) (fun k hk => by have := (hmn k hk).2.2.2.2 rfl; have := (hmn k hk).2.1; omega)
    rw [e1, e2, e3] at this
    exact ⟨_, _, _, _, c, r, off + q, len - q, cap - q, hP, fun W' => (planes_index _ _ _ _ _ _ _ _ _ _ _ _ W').2.2, this⟩

set_option maxRecDepth 100000 in
set_option maxHeartbeats 4000000 in
theorem mfetch_any {n₀ : Nat} {W : World} {sv : Value} {zs : List UInt8} (f g a b x y : Int) (hB : Byt n₀ W sv zs) (hn₀ : n₀ ≤ W.heap.size) (hk : Capped sv) (hf : I64 f) (hg : I64 g) (ha : I64 a) (hb : I64 b) (hx : I64 x) (hy : I64 y) :
    Calls Try.prog 35 #[sv, spotV f g a, .int .i64 b, .int .i64 x, .int .i64 y] W fun e W' => ∃ v, e = .returned (.tuple #[v, .int .i64 (mE f g a b x y zs.length)]) ∧ W'.ownsRow W.heap.size 5 1 v (mL f g a b x y zs).length (u8s (mL f g a b x y zs)) ∧ Below W.heap.size W W' := by
  obtain ⟨A, cap, rfl, hlen, hcell⟩ := hB
  have hcap : zs.length ≤ cap := by obtain ⟨_, _, _, e, h⟩ := hk; cases e; exact h
  obtain ⟨W1, hW1⟩ : ∃ W1, W.alloc (.cells #[.int .i64 f, .int .i64 g, .int .i64 a] 37 (0, 0)) = W1 := ⟨_, rfl⟩
  have hb1 : Below W.heap.size W W1 := by rw [← hW1]; exact (Below.refl _ W).alloc (Nat.le_refl _) _
  have B1 := Lib.hid hb1
  have hz1 : W1.heap.size = W.heap.size + 1 := by rw [← hW1]; simp
  have hbx : SpotAt W1 W.heap.size f g a := ⟨_, by rw [← hW1]; exact World.alloc_heap_new W _⟩
  obtain ⟨c0, c1, c2⟩ := hbx.cells
  have HBx := Lib.hid hbx
  have HC := Lib.hid (corner13_ans f g a W1)
  have HS := Lib.hid (size13_ans f)
  have HP := Lib.hid (fun W => place13_ans f g a b W)
  have HF := Lib.hid (fun W => mfits_any f g a x y W hf hg ha hx hy)
  have none_of : ∀ z, z ≠ 0 → mE f g a b x y zs.length = z → mL f g a b x y zs = [] := fun z hz h => by unfold mL; rw [if_neg (by omega)]
  have NO := Lib.hid none_of
  clear hg ha hb1 hbx none_of hk
  by_cases hc : cE f g a = 0
  · rw [hc] at HC
    by_cases hl : (zs.length : Int) = sN f
    · have t1 : ((zs.length : Int) != sN f) = false := by simpa using hl
      by_cases hp : pE f g a b = 0
      · by_cases hff : fE f g a x y = 0
        · have hm : mE f g a b x y zs.length = 0 := by unfold mE; rw [if_pos hc, if_pos hl, if_pos hp, hff]
          obtain ⟨-, hx1, hy1, -⟩ := fE_zero hff
          have hx2 : -15 ≤ x ∧ x ≤ 15 := by unfold prt at hx1; simpa using hx1
          have hy2 : -15 ≤ y ∧ y ≤ 15 := by unfold prt at hy1; simpa using hy1
          have HHx := Lib.hid (fun W => mhalf_any x W hx)
          have HHy := Lib.hid (fun W => mhalf_any y W hy)
          have HPo := Lib.hid (fun W => mplaneOf_any b (pE_zero hp).2.1 (pE_zero hp).2.2 W)
          have hbb2 := (pE_zero hp).2
          have hL : mL f g a b x y zs = (List.range 64).map (fun k => zs[(mN f g a b x y k).toNat]?.getD 0) := by unfold mL; rw [if_pos hm]
          have hpos : 0 < sN f := by rcases cE_F hc with rfl | rfl <;> decide
          have hne : zs ≠ [] := by intro e; rw [e] at hl; simp at hl; omega
          rcases hcell with e | ⟨bb, off, rfl, hbb, hcell⟩
          · exact absurd e hne
          obtain ⟨cs, w, h, fst, c, r, o', len', cap', K1, K2, K3, K4, K5⟩ := mpick_any (b := b) hp hff (bb := bb) (off := off) rfl hl hcap (W := W) (by omega) hcell
          have KP := Lib.hid K1
          have KI := Lib.hid K2
          have KS := Lib.hid K3
          have KM := Lib.hid K5
          rw [hp] at HP
          rw [hff] at HF
          rw [hm, hL, List.length_map, List.length_range]
          have HXX : mX b x = if 4 < b then hv x else x := rfl
          have HYY : mX b y = if 4 < b then hv y else y := rfl
          have hXb : -15 ≤ mX b x ∧ mX b x ≤ 15 := by rw [HXX]; unfold hv; split <;> (try split) <;> omega
          have hYb : -15 ≤ mX b y ∧ mX b y ≤ 15 := by rw [HYY]; unfold hv; split <;> (try split) <;> omega
          clear K1 K2 K3 K5 hcell hL hm hx1 hy1 hff hp hc NO hne hf hx hy hpos
          generalize (List.range 64).map (fun k => zs[(mN f g a b x y k).toNat]?.getD 0) = L at *
          generalize hlen' : zs.length = len at *
          generalize hX : mX b x = X at *
          generalize hY : mX b y = Y at *
          generalize pA f g a b = P at *
          generalize pW f g a b = q at *
          generalize cX f g a = xx at *
          generalize cY f g a = yy at *
          generalize sW f = sw at *
          generalize sH f = sh at *
          generalize sN f = sn at *
          generalize sE f = se at *
          clear hX hY hl hlen'
          by_cases h4 : 4 < b
          · rw [if_pos h4] at HXX HYY
            rw [← HXX] at HHx
            rw [← HYY] at HHy
            clear HXX HYY
            go_enter Try.func35, Try.ntmps35
            go_wp2_with fail
            refine HC.out.mono ?_
            rintro e W2 ⟨rfl, hb⟩
            have B2 := Lib.hid (below_chain B1.out (Nat.le_refl _) hb)
            have HBx := Lib.hid (HBx.out.later hb)
            obtain ⟨d0, d1, d2⟩ := HBx.out.cells
            clear hb c0 c1 c2
            go_wp2_with (go_at_call 48; refine (HS.out _).mono ?_; rintro e w' ⟨rfl, rfl⟩)
            refine (HP.out _).mono ?_
            rintro e W3 ⟨rfl, hb⟩
            have B3 := Lib.hid (below_chain B2.out (Nat.le_refl _) hb)
            have HBx := Lib.hid (HBx.out.later hb)
            obtain ⟨e0, e1, e2⟩ := HBx.out.cells
            clear hb d0 d1 d2
            go_wp2_with fail
            refine (HF.out _).mono ?_
            rintro e W4 ⟨rfl, hb⟩
            have B4 := Lib.hid (below_chain B3.out (Nat.le_refl _) hb)
            clear hb e0 e1 e2
            go_wp2_with fail
            refine (KP.out _).mono ?_
            rintro e W5 ⟨rfl, hb⟩
            have B5 := Lib.hid (below_chain B4.out (Nat.le_refl _) hb)
            have ix := KI.out
            clear hb
            go_wp2_with (go_at_call 55; refine (HPo.out _).mono ?_; rintro e w' ⟨rfl, rfl⟩)
            clear ix
            have B6 := Lib.hid (B5.out.alloc B5.out.size (Obj.cells #[.int .i64 w, .int .i64 h, .int .i64 fst, .slice (some ⟨bb, o', none⟩) len' cap'] 82))
            have hbx6 := World.alloc_heap_new W5 (Obj.cells #[.int .i64 w, .int .i64 h, .int .i64 fst, .slice (some ⟨bb, o', none⟩) len' cap'] 82)
            have hz6 : (W5.alloc (Obj.cells #[.int .i64 w, .int .i64 h, .int .i64 fst, .slice (some ⟨bb, o', none⟩) len' cap'] 82)).heap.size = W5.heap.size + 1 := by simp
            generalize W5.alloc (Obj.cells #[.int .i64 w, .int .i64 h, .int .i64 fst, .slice (some ⟨bb, o', none⟩) len' cap'] 82) = W6 at *
            refine (KS.out _).mono ?_
            rintro e W7 ⟨rfl, hb⟩
            have B7 := Lib.hid (below_chain B6.out (Nat.le_refl _) hb)
            have hbx7 := (hb.block _ (by omega)).trans hbx6
            have p0 : W7.cell? ⟨W5.heap.size, 0, none⟩ = some (.int .i64 w) := by simp [World.cell?, hbx7]
            have p1 : W7.cell? ⟨W5.heap.size, 1, none⟩ = some (.int .i64 h) := by simp [World.cell?, hbx7]
            have p2 : W7.cell? ⟨W5.heap.size, 2, none⟩ = some (.int .i64 fst) := by simp [World.cell?, hbx7]
            have p3 : W7.cell? ⟨W5.heap.size, 3, none⟩ = some (.slice (some ⟨bb, o', none⟩) len' cap') := by simp [World.cell?, hbx7]
            clear hb hbx6 hbx7 hz6
            go_wp2_with (go_at_call 57; first | (refine (HHx.out _).mono ?_; rintro e w' ⟨rfl, rfl⟩) | (refine (HHy.out _).mono ?_; rintro e w' ⟨rfl, rfl⟩))
            refine (KM.out _ B7.out).mono ?_
            rintro e W8 ⟨v, rfl, ho, hb⟩
            have B8 := Lib.hid (below_chain B7.out (Nat.le_refl _) hb)
            have HO := Lib.hid (ownsRow_base ho B7.out.size)
            clear hb ho p0 p1 p2 p3
            go_wp2_with fail
            exact bodyPost_ret (v := .tuple #[v, .int .i64 0]) (by simp [results, Try.f35, go_sem]) rfl ⟨v, rfl, HO.out, B8.out⟩
          · rw [if_neg h4] at HXX HYY
            subst HXX HYY
            go_enter Try.func35, Try.ntmps35
            go_wp2_with fail
            refine HC.out.mono ?_
            rintro e W2 ⟨rfl, hb⟩
            have B2 := Lib.hid (below_chain B1.out (Nat.le_refl _) hb)
            have HBx := Lib.hid (HBx.out.later hb)
            obtain ⟨d0, d1, d2⟩ := HBx.out.cells
            clear hb c0 c1 c2
            go_wp2_with (go_at_call 48; refine (HS.out _).mono ?_; rintro e w' ⟨rfl, rfl⟩)
            refine (HP.out _).mono ?_
            rintro e W3 ⟨rfl, hb⟩
            have B3 := Lib.hid (below_chain B2.out (Nat.le_refl _) hb)
            have HBx := Lib.hid (HBx.out.later hb)
            obtain ⟨e0, e1, e2⟩ := HBx.out.cells
            clear hb d0 d1 d2
            go_wp2_with fail
            refine (HF.out _).mono ?_
            rintro e W4 ⟨rfl, hb⟩
            have B4 := Lib.hid (below_chain B3.out (Nat.le_refl _) hb)
            clear hb e0 e1 e2
            go_wp2_with fail
            refine (KP.out _).mono ?_
            rintro e W5 ⟨rfl, hb⟩
            have B5 := Lib.hid (below_chain B4.out (Nat.le_refl _) hb)
            have ix := KI.out
            clear hb
            go_wp2_with (go_at_call 55; refine (HPo.out _).mono ?_; rintro e w' ⟨rfl, rfl⟩)
            clear ix
            have B6 := Lib.hid (B5.out.alloc B5.out.size (Obj.cells #[.int .i64 w, .int .i64 h, .int .i64 fst, .slice (some ⟨bb, o', none⟩) len' cap'] 82))
            have hbx6 := World.alloc_heap_new W5 (Obj.cells #[.int .i64 w, .int .i64 h, .int .i64 fst, .slice (some ⟨bb, o', none⟩) len' cap'] 82)
            have hz6 : (W5.alloc (Obj.cells #[.int .i64 w, .int .i64 h, .int .i64 fst, .slice (some ⟨bb, o', none⟩) len' cap'] 82)).heap.size = W5.heap.size + 1 := by simp
            generalize W5.alloc (Obj.cells #[.int .i64 w, .int .i64 h, .int .i64 fst, .slice (some ⟨bb, o', none⟩) len' cap'] 82) = W6 at *
            refine (KS.out _).mono ?_
            rintro e W7 ⟨rfl, hb⟩
            have B7 := Lib.hid (below_chain B6.out (Nat.le_refl _) hb)
            have hbx7 := (hb.block _ (by omega)).trans hbx6
            have p0 : W7.cell? ⟨W5.heap.size, 0, none⟩ = some (.int .i64 w) := by simp [World.cell?, hbx7]
            have p1 : W7.cell? ⟨W5.heap.size, 1, none⟩ = some (.int .i64 h) := by simp [World.cell?, hbx7]
            have p2 : W7.cell? ⟨W5.heap.size, 2, none⟩ = some (.int .i64 fst) := by simp [World.cell?, hbx7]
            have p3 : W7.cell? ⟨W5.heap.size, 3, none⟩ = some (.slice (some ⟨bb, o', none⟩) len' cap') := by simp [World.cell?, hbx7]
            clear hb hbx6 hbx7 hz6
            go_wp2_with fail
            refine (KM.out _ B7.out).mono ?_
            rintro e W8 ⟨v, rfl, ho, hb⟩
            have B8 := Lib.hid (below_chain B7.out (Nat.le_refl _) hb)
            have HO := Lib.hid (ownsRow_base ho B7.out.size)
            clear hb ho p0 p1 p2 p3
            go_wp2_with fail
            exact bodyPost_ret (v := .tuple #[v, .int .i64 0]) (by simp [results, Try.f35, go_sem]) rfl ⟨v, rfl, HO.out, B8.out⟩
        · have hm : mE f g a b x y zs.length = fE f g a x y := by unfold mE; rw [if_pos hc, if_pos hl, if_pos hp]
          rw [NO.out _ hff hm, hm]
          rw [hp] at HP
          have t2 : (fE f g a x y != 0) = true := by simpa using hff
          clear hm hff hp hc NO hcell
          generalize fE f g a x y = ee at *
          generalize pA f g a b = P at *
          generalize pW f g a b = q at *
          generalize cX f g a = xx at *
          generalize cY f g a = yy at *
          generalize sW f = sw at *
          generalize sH f = sh at *
          generalize sN f = sn at *
          generalize sE f = se at *
          go_enter Try.func35, Try.ntmps35
          go_wp2_with fail
          refine HC.out.mono ?_
          rintro e W2 ⟨rfl, hb⟩
          have B2 := Lib.hid (below_chain B1.out (Nat.le_refl _) hb)
          have HBx := Lib.hid (HBx.out.later hb)
          obtain ⟨d0, d1, d2⟩ := HBx.out.cells
          clear hb c0 c1 c2
          go_wp2_with (go_at_call 48; refine (HS.out _).mono ?_; rintro e w' ⟨rfl, rfl⟩)
          refine (HP.out _).mono ?_
          rintro e W3 ⟨rfl, hb⟩
          have B3 := Lib.hid (below_chain B2.out (Nat.le_refl _) hb)
          have HBx := Lib.hid (HBx.out.later hb)
          obtain ⟨e0, e1, e2⟩ := HBx.out.cells
          clear hb d0 d1 d2
          go_wp2_with fail
          refine (HF.out _).mono ?_
          rintro e W4 ⟨rfl, hb⟩
          have B4 := Lib.hid (below_chain B3.out (Nat.le_refl _) hb)
          clear hb e0 e1 e2
          go_wp2_with fail
          exact bodyPost_ret (v := .tuple #[.slice none 0 0, .int .i64 ee]) (by simp [results, Try.f35, go_sem]) rfl ⟨.slice none 0 0, rfl, World.ownsRow_nil _ _ _ _, B4.out⟩
      · have hm : mE f g a b x y zs.length = pE f g a b := by unfold mE; rw [if_pos hc, if_pos hl, if_neg hp]
        rw [NO.out _ hp hm, hm]
        have t2 : (pE f g a b != 0) = true := by simpa using hp
        clear hm hp hc NO hcell
        generalize pE f g a b = ee at *
        generalize pA f g a b = P at *
        generalize pW f g a b = q at *
        generalize cX f g a = xx at *
        generalize cY f g a = yy at *
        generalize sW f = sw at *
        generalize sH f = sh at *
        generalize sN f = sn at *
        generalize sE f = se at *
        go_enter Try.func35, Try.ntmps35
        go_wp2_with fail
        refine HC.out.mono ?_
        rintro e W2 ⟨rfl, hb⟩
        have B2 := Lib.hid (below_chain B1.out (Nat.le_refl _) hb)
        have HBx := Lib.hid (HBx.out.later hb)
        obtain ⟨d0, d1, d2⟩ := HBx.out.cells
        clear hb c0 c1 c2
        go_wp2_with (go_at_call 48; refine (HS.out _).mono ?_; rintro e w' ⟨rfl, rfl⟩)
        refine (HP.out _).mono ?_
        rintro e W3 ⟨rfl, hb⟩
        have B3 := Lib.hid (below_chain B2.out (Nat.le_refl _) hb)
        clear hb d0 d1 d2
        go_wp2_with fail
        exact bodyPost_ret (v := .tuple #[.slice none 0 0, .int .i64 ee]) (by simp [results, Try.f35, go_sem]) rfl ⟨.slice none 0 0, rfl, World.ownsRow_nil _ _ _ _, B3.out⟩
    · have hm : mE f g a b x y zs.length = 2 := by unfold mE; rw [if_pos hc, if_neg hl]
      rw [NO.out _ (by decide) hm, hm]
      have t1 : ((zs.length : Int) != sN f) = true := by simpa using hl
      clear hm hc NO hcell
      generalize cX f g a = xx at *
      generalize cY f g a = yy at *
      generalize sW f = sw at *
      generalize sH f = sh at *
      generalize sN f = sn at *
      generalize sE f = se at *
      go_enter Try.func35, Try.ntmps35
      go_wp2_with fail
      refine HC.out.mono ?_
      rintro e W2 ⟨rfl, hb⟩
      have B2 := Lib.hid (below_chain B1.out (Nat.le_refl _) hb)
      have HBx := Lib.hid (HBx.out.later hb)
      obtain ⟨d0, d1, d2⟩ := HBx.out.cells
      clear hb c0 c1 c2
      go_wp2_with (go_at_call 48; refine (HS.out _).mono ?_; rintro e w' ⟨rfl, rfl⟩)
      exact bodyPost_ret (v := .tuple #[.slice none 0 0, .int .i64 2]) (by simp [results, Try.f35, go_sem]) rfl ⟨.slice none 0 0, rfl, World.ownsRow_nil _ _ _ _, B2.out⟩
  · have hm : mE f g a b x y zs.length = cE f g a := by unfold mE; rw [if_neg hc]
    rw [NO.out _ hc hm, hm]
    have t2 : (cE f g a != 0) = true := by simpa using hc
    clear hm hc NO hcell
    generalize cE f g a = ee at *
    generalize cX f g a = xx at *
    generalize cY f g a = yy at *
    go_enter Try.func35, Try.ntmps35
    go_wp2_with fail
    refine HC.out.mono ?_
    rintro e W2 ⟨rfl, hb⟩
    have B2 := Lib.hid (below_chain B1.out (Nat.le_refl _) hb)
    clear hb c0 c1 c2
    go_wp2_with fail
    exact bodyPost_ret (v := .tuple #[.slice none 0 0, .int .i64 ee]) (by simp [results, Try.f35, go_sem]) rfl ⟨.slice none 0 0, rfl, World.ownsRow_nil _ _ _ _, B2.out⟩

/-- the record over the landed code -/
theorem motionI : MotionI := ⟨fun n W h => (mhalf_any n W h).mono fun e W' ⟨h1, h2⟩ => ⟨h1, h2 ▸ Below.refl _ _⟩, mfits_any, fun f g a b x y hB hn hk hf hg ha hb hx hy => mfetch_any f g a b x y hB hn hk hf hg ha hb hx hy⟩

end Go.Proofs.Ytenplmmongphoaa
