/- loop: views of a block; Soften, Filter: loopI (praxinoscope/loop). -/
import Derived.Test.YtdpnmddjhlkbjaaLLaw
namespace Go.Proofs.Ytdpnmddjhlkbjaa
open Go.RowKit Go.Shelf Go.Sort
set_option linter.unusedVariables false
attribute [local go_sem] Oper.semAt_some

theorem num15_under : Try.prog.underlying 50 = some (.array 64 3) := by kernel_rfl
theorem num15_zero : (Try.prog.info? 50).map (·.zero) = some (some (.agg (numsA zeros64))) := by kernel_rfl

/-- from one place of a line to the next -/
def stL (d : Bool) : Nat := if d then 8 else 1
theorem plL_eq (d : Bool) (f i : Nat) : plC d f 0 + stL d * i = plC d f i := by unfold plC stL; cases d <;> simp <;> omega

/-- a view's number at a place -/
theorem lat_any {W : World} {g : Nat} {t : TypeId} {B : List Int} (hN : NumsAt W g t B) (hB : B.length = 64) (d : Bool) {f k : Nat} (hf : f < 8) (hk : k < 8) :
    Calls Try.prog 37 #[.agg #[.pointer (some ⟨g, 0, none⟩), .int .i64 (plC d f 0 : Nat), .int .i64 (stL d : Nat)], .int .i64 k] W fun e W' => e = .returned (.int .i64 (nthC B (plC d f k))) ∧ Below W.heap.size W W' := by
  have hp := plL_eq d f k
  have hp64 := pl_lt d hf hk
  have c1 : ∀ n o, ((W.alloc o).drewN n).cell? ⟨g, plC d f k, none⟩ = some (.int .i64 (nthC B (plC d f k))) := fun n o => ((hN.alloc o).cell (by omega) : (W.alloc o).cell? _ = _)
  have hs : stL d ≤ 8 := by unfold stL; cases d <;> simp
  have hp0 := pl_lt d hf (show 0 < 8 by omega)
  generalize plC d f 0 = o at *
  generalize plC d f k = p at *
  generalize stL d = s at *
  obtain ⟨m, hm⟩ : ∃ m, m = s * k := ⟨_, rfl⟩
  have hm2 : (s : Int) * (k : Int) = (m : Int) := by rw [hm]; push_cast; rfl
  rw [← hm] at hp
  have e1 : IntKind.i64.wrap (m : Int) = (m : Int) := by rw [IntKind.wrap_i64]; omega
  have e2 : IntKind.i64.wrap ((o : Int) + m) = (p : Int) := by rw [IntKind.wrap_i64]; omega
  have e3 : (p : Int) < 64 := by omega
  clear hm hN hB hp
  go_enter Try.func37, Try.ntmps37
  go_wp2
  go_quiet (fail)
  go_wp2
  go_ret
  exact ⟨rfl, ((Below.refl _ _).alloc (Nat.le_refl _) _).trans (below_drewN _ _ _)⟩

/-- a number put at a view's place -/
theorem lput_any {W : World} {g : Nat} {t : TypeId} {B : List Int} (hN : NumsAt W g t B) (hB : B.length = 64) (d : Bool) {f k : Nat} (hf : f < 8) (hk : k < 8) (x : Int) :
    Calls Try.prog 35 #[.agg #[.pointer (some ⟨g, 0, none⟩), .int .i64 (plC d f 0 : Nat), .int .i64 (stL d : Nat)], .int .i64 k, .int .i64 x] W fun e W' => e = .returned (.tuple #[]) ∧ NumsAt W' g t (B.set (plC d f k) x) ∧ Bar (fun q => q = g) W W' := by
  have hp := plL_eq d f k
  have hp64 := pl_lt d hf hk
  have hs : stL d ≤ 8 := by unfold stL; cases d <;> simp
  have hp0 := pl_lt d hf (show 0 < 8 by omega)
  have HN := Lib.hid (hN.alloc (.cells #[.pointer (some ⟨g, 0, none⟩), .int .i64 (plC d f 0 : Nat), .int .i64 (stL d : Nat)] 52))
  have HB0 : Hid (Bar (fun q => q = g) W (W.alloc (.cells #[.pointer (some ⟨g, 0, none⟩), .int .i64 (plC d f 0 : Nat), .int .i64 (stL d : Nat)] 52))) := (Bar.refl _ W).alloc _
  have hsz : (W.alloc (.cells #[.pointer (some ⟨g, 0, none⟩), .int .i64 (plC d f 0 : Nat), .int .i64 (stL d : Nat)] 52)).heap[W.heap.size]? = some (.cells #[.pointer (some ⟨g, 0, none⟩), .int .i64 (plC d f 0 : Nat), .int .i64 (stL d : Nat)] 52 (0, 0)) := World.alloc_heap_new _ _
  have c1 := HN.out.cell (k := plC d f k) (by omega)
  have f1 := HN.out.frozen (plC d f k)
  generalize plC d f 0 = o at *
  generalize plC d f k = p at *
  generalize stL d = s at *
  obtain ⟨m, hm⟩ : ∃ m, m = s * k := ⟨_, rfl⟩
  have hm2 : (s : Int) * (k : Int) = (m : Int) := by rw [hm]; push_cast; rfl
  rw [← hm] at hp
  have e1 : IntKind.i64.wrap (m : Int) = (m : Int) := by rw [IntKind.wrap_i64]; omega
  have e2 : IntKind.i64.wrap ((o : Int) + m) = (p : Int) := by rw [IntKind.wrap_i64]; omega
  have e3 : (p : Int) < 64 := by omega
  clear hm hN hB hp
  go_enter Try.func35, Try.ntmps35
  go_wp2
  generalize (W.alloc (.cells #[.pointer (some ⟨g, 0, none⟩), .int .i64 (o : Nat), .int .i64 (s : Nat)] 52)) = w1 at *
  refine wp_region_quiet_tail (C := fun w' => ∃ n, w' = w1.drewN n) 12 (by kernel_rfl) (by kernel_rfl) ⟨1, rfl⟩ ?_
  simp only [List.take_succ_cons, List.take_zero, List.drop_succ_cons, List.drop_zero]
  have y0 : ∀ n, (w1.drewN n).cell? ⟨W.heap.size, 0, none⟩ = some (.pointer (some ⟨g, 0, none⟩)) := fun n => by simp [World.cell?, World.drewN, hsz]
  have y1 : ∀ n, (w1.drewN n).cell? ⟨W.heap.size, 1, none⟩ = some (.int .i64 o) := fun n => by simp [World.cell?, World.drewN, hsz]
  have y2 : ∀ n, (w1.drewN n).cell? ⟨W.heap.size, 2, none⟩ = some (.int .i64 s) := fun n => by simp [World.cell?, World.drewN, hsz]
  iterate 12 quiet_step (fail)
  refine wpQuiet_nil ?_
  rintro _ ⟨nq, rfl⟩
  have HN2 : Hid (NumsAt (w1.drewN nq) g t B) := HN.out
  have HB2 : Hid (Bar (fun q => q = g) W (w1.drewN nq)) := ⟨HB0.out.os, HB0.out.tape, HB0.out.output, HB0.out.size, HB0.out.block⟩
  have c2 : (w1.drewN nq).cell? ⟨g, p, none⟩ = _ := c1
  have f2 : (w1.drewN nq).frozen? ⟨g, p, none⟩ = false := f1
  clear c1 f1 y0 y1 y2 hsz HN HB0
  go_wp2_with fail
  exact bodyPost_end (results_none rfl _ _ _) rfl ⟨rfl, HN2.out.set _ _, HB2.out.setCell (fun _ => rfl) _⟩

theorem lnL_at (d : Bool) (b : Nat → Int) {f k : Nat} (hf : f < 8) (hk : k < 8) : lnL d b (plC d f k) = sof (fun t => b (plC d f t)) k := by unfold lnL; rw [co_pl d hf hk, ix_pl d hf hk]
set_option maxRecDepth 100000 in
set_option maxHeartbeats 2000000 in
/-- what becomes of a view's number -/
theorem lsoft_any {W : World} {g : Nat} {t : TypeId} {B : List Int} (hN : NumsAt W g t B) (hB : B.length = 64) (hin : ∀ j, -1099511627776 ≤ nthC B j ∧ nthC B j ≤ 1099511627776) (d : Bool) {f k : Nat} (hf : f < 8) (hk : k < 8) :
    Calls Try.prog 36 #[.agg #[.pointer (some ⟨g, 0, none⟩), .int .i64 (plC d f 0 : Nat), .int .i64 (stL d : Nat)], .int .i64 k] W fun e W' => e = .returned (.int .i64 (sof (fun t => nthC B (plC d f t)) k)) ∧ Below W.heap.size W W' := by
  have HA : Hid (∀ j : Nat, j < 8 → ∀ W', Below W.heap.size W W' → Calls Try.prog 37 #[.agg #[.pointer (some ⟨g, 0, none⟩), .int .i64 (plC d f 0 : Nat), .int .i64 (stL d : Nat)], .int .i64 (j : Int)] W' fun e W'' => e = .returned (.int .i64 (nthC B (plC d f j))) ∧ Below W'.heap.size W' W'') := fun j hj W' hb => lat_any (hN.below hb hN.lt) hB d hf hj
  have HIn := Lib.hid hin
  obtain ⟨vw, hvw⟩ : ∃ vw, vw = Value.agg #[.pointer (some ⟨g, 0, none⟩), .int .i64 (plC d f 0 : Nat), .int .i64 (stL d : Nat)] := ⟨_, rfl⟩
  have hb0 : ∀ o, Below W.heap.size W (W.alloc o) := fun o => (Below.refl _ W).alloc (Nat.le_refl _) o
  have hsz : ∀ o, (W.alloc o).heap[W.heap.size]? = some o := fun o => World.alloc_heap_new _ _
  have HB0 := Lib.hid hb0
  clear hN hB hin
  by_cases k0 : k = 0
  · subst k0
    rw [show sof (fun t => nthC B (plC d f t)) 0 = 4 * nthC B (plC d f 0) from rfl]
    have H0 := Lib.hid (HA.out 0 (by omega))
    obtain ⟨i1, i2⟩ := HIn.out (plC d f 0)
    generalize nthC B (plC d f 0) = y at *
    clear HA
    go_enter Try.func36, Try.ntmps36
    go_wp2_with fail
    refine (H0.out _ (HB0.out _)).mono ?_
    rintro e w2 ⟨rfl, hb2⟩
    go_wp2_with fail
    go_ret
    exact ⟨rfl, (HB0.out _).trans (hb2.mono (by simp))⟩
  · by_cases k7 : k = 7
    · subst k7
      rw [show sof (fun t => nthC B (plC d f t)) 7 = 4 * nthC B (plC d f 7) from rfl]
      have H0 := Lib.hid (HA.out 7 (by omega))
      obtain ⟨i1, i2⟩ := HIn.out (plC d f 7)
      generalize nthC B (plC d f 7) = y at *
      clear HA
      go_enter Try.func36, Try.ntmps36
      go_wp2_with fail
      refine (H0.out _ (HB0.out _)).mono ?_
      rintro e w2 ⟨rfl, hb2⟩
      go_wp2_with fail
      go_ret
      exact ⟨rfl, (HB0.out _).trans (hb2.mono (by simp))⟩
    · obtain ⟨q0, q2, hq0, hq2⟩ : ∃ q0 q2 : Nat, k = q0 + 1 ∧ q2 = k + 1 := ⟨k - 1, k + 1, by omega, rfl⟩
      have hst : sof (fun t => nthC B (plC d f t)) k = nthC B (plC d f q0) + 2 * nthC B (plC d f k) + nthC B (plC d f q2) := by
        unfold sof
        rw [if_neg k0, if_neg k7, show k - 1 = q0 by omega, ← hq2]
      rw [hst]
      have H0 := Lib.hid (HA.out q0 (by omega))
      have H1 := Lib.hid (HA.out k (by omega))
      have H2 := Lib.hid (HA.out q2 (by omega))
      obtain ⟨i1, i2⟩ := HIn.out (plC d f q0)
      obtain ⟨i3, i4⟩ := HIn.out (plC d f k)
      obtain ⟨i5, i6⟩ := HIn.out (plC d f q2)
      have z0 : ((k : Int) == 0) = false := by simp; omega
      have z7 : ((k : Int) == 7) = false := by simp; omega
      have s1 : IntKind.i64.wrap ((k : Int) - 1) = (q0 : Int) := by rw [IntKind.wrap_i64]; omega
      have s2 : IntKind.i64.wrap ((k : Int) + 1) = (q2 : Int) := by rw [IntKind.wrap_i64]; omega
      generalize nthC B (plC d f q0) = y0 at *
      generalize nthC B (plC d f k) = y1 at *
      generalize nthC B (plC d f q2) = y2 at *
      clear HA hst hq0 hq2 k0 k7
      have e1 : IntKind.i64.wrap (2 * y1) = 2 * y1 := by rw [IntKind.wrap_i64]; omega
      have e2 : IntKind.i64.wrap (y0 + 2 * y1) = y0 + 2 * y1 := by rw [IntKind.wrap_i64]; omega
      have e3 : IntKind.i64.wrap (y0 + 2 * y1 + y2) = y0 + 2 * y1 + y2 := by rw [IntKind.wrap_i64]; omega
      go_enter Try.func36, Try.ntmps36
      go_wp2_with fail
      obtain ⟨w1, hw1⟩ : ∃ w1, W.alloc (.cells #[.pointer (some ⟨g, 0, none⟩), .int .i64 (plC d f 0 : Nat), .int .i64 (stL d : Nat)] 52) = w1 := ⟨_, rfl⟩
      have hb1 : Below W.heap.size W w1 := by rw [← hw1]; exact HB0.out _
      have hx1 : w1.heap[W.heap.size]? = some (.cells #[.pointer (some ⟨g, 0, none⟩), .int .i64 (plC d f 0 : Nat), .int .i64 (stL d : Nat)] 52 (0, 0)) := by rw [← hw1]; exact hsz _
      rw [hw1]
      clear hw1 hsz hb0 HB0
      have C0 : ∀ d' os, Calls Try.prog 37 #[.agg #[.pointer (some ⟨g, 0, none⟩), .int .i64 (plC d f 0 : Nat), .int .i64 (stL d : Nat)], .int .i64 (q0 : Int)] (Sort.grow (redrawn w1 d') os) fun e w'' => e = .returned (.int .i64 y0) ∧ ∃ p : Regrown, w'' = Sort.grow (redrawn w1 p.d) p.os := fun d' os => Calls.regrown_of (H0.out _ (hb1.trans ((below_regrown w1 d' os).mono hb1.size)))
      have C1 : ∀ d' os, Calls Try.prog 37 #[.agg #[.pointer (some ⟨g, 0, none⟩), .int .i64 (plC d f 0 : Nat), .int .i64 (stL d : Nat)], .int .i64 (k : Int)] (Sort.grow (redrawn w1 d') os) fun e w'' => e = .returned (.int .i64 y1) ∧ ∃ p : Regrown, w'' = Sort.grow (redrawn w1 p.d) p.os := fun d' os => Calls.regrown_of (H1.out _ (hb1.trans ((below_regrown w1 d' os).mono hb1.size)))
      have C2 : ∀ d' os, Calls Try.prog 37 #[.agg #[.pointer (some ⟨g, 0, none⟩), .int .i64 (plC d f 0 : Nat), .int .i64 (stL d : Nat)], .int .i64 (q2 : Int)] (Sort.grow (redrawn w1 d') os) fun e w'' => e = .returned (.int .i64 y2) ∧ ∃ p : Regrown, w'' = Sort.grow (redrawn w1 p.d) p.os := fun d' os => Calls.regrown_of (H2.out _ (hb1.trans ((below_regrown w1 d' os).mono hb1.size)))
      have y0' : ∀ d' os, (Sort.grow (redrawn w1 d') os).cell? ⟨W.heap.size, 0, none⟩ = some (.pointer (some ⟨g, 0, none⟩)) := fun d' os => cell_regrown (by simp [World.cell?, hx1]) d' os
      have y1' : ∀ d' os, (Sort.grow (redrawn w1 d') os).cell? ⟨W.heap.size, 1, none⟩ = some (.int .i64 (plC d f 0 : Nat)) := fun d' os => cell_regrown (by simp [World.cell?, hx1]) d' os
      have y2' : ∀ d' os, (Sort.grow (redrawn w1 d') os).cell? ⟨W.heap.size, 2, none⟩ = some (.int .i64 (stL d : Nat)) := fun d' os => cell_regrown (by simp [World.cell?, hx1]) d' os
      refine wp_region_quiet_below (by kernel_rfl) (by kernel_rfl) ?_
      iterate 15 quiet_step ((go_at_call 37; first | with_reducible exact C0 _ _ | with_reducible exact C1 _ _ | with_reducible exact C2 _ _))
      refine wpQuiet_nil ?_
      rintro _ ⟨⟨dq, osq⟩, rfl⟩
      have b4 := below_regrown w1 dq osq
      have hB4 := hb1.trans (b4.mono hb1.size)
      go_wp2_with fail
      go_ret
      exact ⟨rfl, hB4⟩

theorem view_under : ∃ fs, Try.prog.underlying 52 = some (.struct fs) := ⟨_, rfl⟩
theorem view_info : (Try.prog.info? 52).map (·.size) = some 3 := by kernel_rfl
theorem lrow_any (W : World) (g y : Nat) (hy : y < 8) : Calls Try.prog 31 #[.pointer (some ⟨g, 0, none⟩), .int .i64 y] W fun e W' => e = .returned (.agg #[.pointer (some ⟨g, 0, none⟩), .int .i64 (plC false y 0 : Nat), .int .i64 (stL false : Nat)]) ∧ Below W.heap.size W W' := by
  rw [show ((plC false y 0 : Nat) : Int) = 8 * (y : Int) by unfold plC; simp, show stL false = 1 from rfl]
  obtain ⟨fs, hu⟩ := view_under
  go_enter Try.func31, Try.ntmps31
  go_wp2
  exact bodyPost_ret (results_cell_row rfl _ _ W.heap.size 52 _ (0, 0) (.struct fs) rfl (World.alloc_heap_new _ _) hu rfl view_info) rfl ⟨rfl, (Below.refl _ _).alloc (Nat.le_refl _) _⟩
theorem lcol_any (W : World) (g x : Nat) (hx : x < 8) : Calls Try.prog 34 #[.pointer (some ⟨g, 0, none⟩), .int .i64 x] W fun e W' => e = .returned (.agg #[.pointer (some ⟨g, 0, none⟩), .int .i64 (plC true x 0 : Nat), .int .i64 (stL true : Nat)]) ∧ Below W.heap.size W W' := by
  rw [show plC true x 0 = x by unfold plC; simp, show stL true = 8 from rfl]
  obtain ⟨fs, hu⟩ := view_under
  go_enter Try.func34, Try.ntmps34
  go_wp2
  exact bodyPost_ret (results_cell_row rfl _ _ W.heap.size 52 _ (0, 0) (.struct fs) rfl (World.alloc_heap_new _ _) hu rfl view_info) rfl ⟨rfl, (Below.refl _ _).alloc (Nat.le_refl _) _⟩

set_option maxRecDepth 100000 in
set_option maxHeartbeats 2000000 in
/-- a view, softened into another one -/
theorem lsoften_any {W : World} {g g2 : Nat} {t t2 : TypeId} {B : List Int} (hN : NumsAt W g t B) (hB : B.length = 64) (hin : ∀ j, -1099511627776 ≤ nthC B j ∧ nthC B j ≤ 1099511627776) (d : Bool) {f : Nat} (hf : f < 8) (hg : g ≠ g2)
    (hM : NumsAt W g2 t2 (fillG d (lnL d (nthC B)) f 0)) :
    Calls Try.prog 32 #[.agg #[.pointer (some ⟨g, 0, none⟩), .int .i64 (plC d f 0 : Nat), .int .i64 (stL d : Nat)], .agg #[.pointer (some ⟨g2, 0, none⟩), .int .i64 (plC d f 0 : Nat), .int .i64 (stL d : Nat)]] W fun e W' => e = .returned (.tuple #[]) ∧ NumsAt W' g2 t2 (fillG d (lnL d (nthC B)) f 8) ∧ Bar (fun q => q = g2) W W' := by
  have HS : Hid (∀ k : Nat, k < 8 → ∀ W', NumsAt W' g t B → Calls Try.prog 36 #[.agg #[.pointer (some ⟨g, 0, none⟩), .int .i64 (plC d f 0 : Nat), .int .i64 (stL d : Nat)], .int .i64 (k : Int)] W' fun e W'' => e = .returned (.int .i64 (lnL d (nthC B) (plC d f k))) ∧ Below W'.heap.size W' W'') := fun k hk W' h => by
    rw [lnL_at d _ hf hk]
    exact lsoft_any h hB hin d hf hk
  have HP : Hid (∀ (C : List Int) (k : Nat) (x : Int), k < 8 → C.length = 64 → ∀ W', NumsAt W' g2 t2 C → Calls Try.prog 35 #[.agg #[.pointer (some ⟨g2, 0, none⟩), .int .i64 (plC d f 0 : Nat), .int .i64 (stL d : Nat)], .int .i64 (k : Int), .int .i64 x] W' fun e W'' => e = .returned (.tuple #[]) ∧ NumsAt W'' g2 t2 (C.set (plC d f k) x) ∧ Bar (fun q => q = g2) W' W'') := fun C k x hk hC W' h => lput_any h hC d hf hk x
  have HSt := Lib.hid (fun k hk => @fillG_step d (lnL d (nthC B)) f k hf hk)
  have hFl : ∀ k, (fillG d (lnL d (nthC B)) f k).length = 64 := fun k => fillG_length _ _ _ _
  have HFl := Lib.hid hFl
  have hb0 : Bar (fun q => q = g2) W ((W.alloc (.cells #[.pointer (some ⟨g, 0, none⟩), .int .i64 (plC d f 0 : Nat), .int .i64 (stL d : Nat)] 52)).alloc (.cells #[.pointer (some ⟨g2, 0, none⟩), .int .i64 (plC d f 0 : Nat), .int .i64 (stL d : Nat)] 52)) := ((Bar.refl _ W).alloc _).alloc _
  have hg1 := hN.lt
  have hg2 := hM.lt
  have hN1 : NumsAt ((W.alloc (.cells #[.pointer (some ⟨g, 0, none⟩), .int .i64 (plC d f 0 : Nat), .int .i64 (stL d : Nat)] 52)).alloc (.cells #[.pointer (some ⟨g2, 0, none⟩), .int .i64 (plC d f 0 : Nat), .int .i64 (stL d : Nat)] 52)) g t B := (hN.alloc _).alloc _
  have hM1 : NumsAt ((W.alloc (.cells #[.pointer (some ⟨g, 0, none⟩), .int .i64 (plC d f 0 : Nat), .int .i64 (stL d : Nat)] 52)).alloc (.cells #[.pointer (some ⟨g2, 0, none⟩), .int .i64 (plC d f 0 : Nat), .int .i64 (stL d : Nat)] 52)) g2 t2 (fillG d (lnL d (nthC B)) f 0) := (hM.alloc _).alloc _
  have hx1 : ((W.alloc (.cells #[.pointer (some ⟨g, 0, none⟩), .int .i64 (plC d f 0 : Nat), .int .i64 (stL d : Nat)] 52)).alloc (.cells #[.pointer (some ⟨g2, 0, none⟩), .int .i64 (plC d f 0 : Nat), .int .i64 (stL d : Nat)] 52)).heap[W.heap.size]? = some (.cells #[.pointer (some ⟨g, 0, none⟩), .int .i64 (plC d f 0 : Nat), .int .i64 (stL d : Nat)] 52 (0, 0)) := heap_keep (heap_new _ rfl _) _
  have hx2 : ((W.alloc (.cells #[.pointer (some ⟨g, 0, none⟩), .int .i64 (plC d f 0 : Nat), .int .i64 (stL d : Nat)] 52)).alloc (.cells #[.pointer (some ⟨g2, 0, none⟩), .int .i64 (plC d f 0 : Nat), .int .i64 (stL d : Nat)] 52)).heap[W.heap.size + 1]? = some (.cells #[.pointer (some ⟨g2, 0, none⟩), .int .i64 (plC d f 0 : Nat), .int .i64 (stL d : Nat)] 52 (0, 0)) := heap_new _ (by simp) _
  have hz1 : ((W.alloc (.cells #[.pointer (some ⟨g, 0, none⟩), .int .i64 (plC d f 0 : Nat), .int .i64 (stL d : Nat)] 52)).alloc (.cells #[.pointer (some ⟨g2, 0, none⟩), .int .i64 (plC d f 0 : Nat), .int .i64 (stL d : Nat)] 52)).heap.size = W.heap.size + 2 := by simp
  have HN1 := Lib.hid hN1
  have HM1 := Lib.hid hM1
  have HX1 := Lib.hid hx1
  have HX2 := Lib.hid hx2
  have HB0 := Lib.hid hb0
  have HZ1 := Lib.hid hz1
  clear hN hM hb0 hN1 hM1 hx1 hx2 hz1 hFl hin
  go_enter Try.func32, Try.ntmps32
  go_wp2_with fail
  generalize (W.alloc (.cells #[.pointer (some ⟨g, 0, none⟩), .int .i64 (plC d f 0 : Nat), .int .i64 (stL d : Nat)] 52)).alloc (.cells #[.pointer (some ⟨g2, 0, none⟩), .int .i64 (plC d f 0 : Nat), .int .i64 (stL d : Nat)] 52) = w1 at *
  go_loopw [5] (fun i wr => ∃ k : Nat, i = .int .i64 (k : Int) ∧ k ≤ 8 ∧ NumsAt wr g2 t2 (fillG d (lnL d (nthC B)) f k) ∧ Bar (fun q => q = g2) w1 wr) (fun i _ => 8 - (intOf i).toNat)
  case atStart => exact ⟨0, rfl, by omega, HM1.out, Bar.refl _ _⟩
  case round =>
    obtain ⟨k, rfl, hk, hMk, hBk⟩ := hrel
    by_cases hk2 : k < 8
    · have z1 : (k : Int) < 8 := by omega
      have hz := HZ1.out
      have hNk : NumsAt wr g t B := (hBk.block _ (by omega) hg).trans HN1.out
      have x1 := (hBk.block _ (by omega) (by omega)).trans HX1.out
      have x2 := (hBk.block _ (by omega) (by omega)).trans HX2.out
      have HMk := Lib.hid hMk
      have HBk := Lib.hid hBk
      have HSk := Lib.hid (HS.out k hk2)
      have HPk := Lib.hid (fun C => HP.out C k (lnL d (nthC B) (plC d f k)) hk2)
      have HSk2 := Lib.hid (HSt.out k hk2)
      have HNk := Lib.hid hNk
      have C1 : ∀ d' os, Calls Try.prog 36 #[.agg #[.pointer (some ⟨g, 0, none⟩), .int .i64 (plC d f 0 : Nat), .int .i64 (stL d : Nat)], .int .i64 (k : Int)] (Sort.grow (redrawn wr d') os) fun e w'' => e = .returned (.int .i64 (lnL d (nthC B) (plC d f k))) ∧ ∃ p : Regrown, w'' = Sort.grow (redrawn wr p.d) p.os := fun d' os => Calls.regrown_of (HSk.out _ (hNk.below (below_regrown wr d' os) hNk.lt))
      have y0 : ∀ d' os, (Sort.grow (redrawn wr d') os).cell? ⟨W.heap.size, 0, none⟩ = some (.pointer (some ⟨g, 0, none⟩)) := fun d' os => cell_regrown (by simp [World.cell?, x1]) d' os
      have y1 : ∀ d' os, (Sort.grow (redrawn wr d') os).cell? ⟨W.heap.size, 1, none⟩ = some (.int .i64 (plC d f 0 : Nat)) := fun d' os => cell_regrown (by simp [World.cell?, x1]) d' os
      have y2 : ∀ d' os, (Sort.grow (redrawn wr d') os).cell? ⟨W.heap.size, 2, none⟩ = some (.int .i64 (stL d : Nat)) := fun d' os => cell_regrown (by simp [World.cell?, x1]) d' os
      have y3 : ∀ d' os, (Sort.grow (redrawn wr d') os).cell? ⟨W.heap.size + 1, 0, none⟩ = some (.pointer (some ⟨g2, 0, none⟩)) := fun d' os => cell_regrown (by simp [World.cell?, x2]) d' os
      have y4 : ∀ d' os, (Sort.grow (redrawn wr d') os).cell? ⟨W.heap.size + 1, 1, none⟩ = some (.int .i64 (plC d f 0 : Nat)) := fun d' os => cell_regrown (by simp [World.cell?, x2]) d' os
      have y5 : ∀ d' os, (Sort.grow (redrawn wr d') os).cell? ⟨W.heap.size + 1, 2, none⟩ = some (.int .i64 (stL d : Nat)) := fun d' os => cell_regrown (by simp [World.cell?, x2]) d' os
      clear hMk hBk hNk x1 x2
      generalize hsv : lnL d (nthC B) (plC d f k) = sv at *
      go_wp2_with fail
      refine wp_region_below_tail 5 (by kernel_rfl) (by kernel_rfl) ?_
      simp only [List.take_succ_cons, List.take_zero, List.drop_succ_cons, List.drop_zero]
      iterate 5 quiet_step ((go_at_call 36; exact C1 _ _))
      refine wpQuiet_nil ?_
      rintro _ ⟨⟨dq, osq⟩, rfl⟩
      have b4 := below_regrown wr dq osq
      have HM4 := Lib.hid (HMk.out.below b4 HMk.out.lt)
      have HB4 := Lib.hid (HBk.out.trans (bar_of_below b4) (fun j hj e => e))
      generalize Sort.grow (redrawn wr dq) osq = w4 at *
      clear C1 y0 y1 y2 y3 y4 y5 b4
      go_wp2_with fail
      refine (HPk.out _ (HFl.out k) _ HM4.out).mono ?_
      rintro e w5 ⟨rfl, hm5, hb5⟩
      have HM5 := Lib.hid hm5
      have HB5 := Lib.hid (HB4.out.trans hb5 (fun j hj e => e))
      clear hm5 hb5
      go_wp2_with fail
      go_roundw
      case rel => exact ⟨k + 1, by go_num, by omega, by rw [← HSk2.out]; exact HM5.out, HB5.out⟩
      case measure => simp [intOf]; omega
    · obtain rfl : k = 8 := by omega
      have HBf := Lib.hid (HB0.out.trans hBk (fun j hj e => e))
      have HMf := Lib.hid hMk
      go_wp2_with fail
      exact bodyPost_end (results_none rfl _ _ _) rfl ⟨rfl, HMf.out, HBf.out⟩

/-- numbers, so many of them told -/
def upI (F : Nat → Int) (n k : Nat) : List Int := ofC n fun j => if j < k then F j else 0
theorem upI_length (F : Nat → Int) (n k : Nat) : (upI F n k).length = n := ofC_length _ _
theorem upI_zero (F : Nat → Int) (n : Nat) : upI F n 0 = List.replicate n 0 := listC_ext (upI_length _ _ _) (by simp) (fun j hj => by
  unfold upI
  rw [ofC_get hj, if_neg (by omega)]
  unfold nthC
  rw [List.getElem?_replicate, if_pos hj]
  rfl)
theorem upI_step (F : Nat → Int) {n k : Nat} (hk : k < n) : (upI F n k).set k (F k) = upI F n (k + 1) := by
  unfold upI
  rw [ofC_set hk]
  apply ofC_congr
  intro j hj
  by_cases h : j = k
  · rw [if_pos h, if_pos (by omega), h]
  · rw [if_neg h]
    by_cases h2 : j < k
    · rw [if_pos h2, if_pos (by omega)]
    · rw [if_neg h2, if_neg (by omega)]
theorem upI_all (F : Nat → Int) (n : Nat) : upI F n n = ofC n F := ofC_congr (fun j hj => if_pos hj)
def zeroL8 : List Int := List.replicate 8 0
theorem made8 (w : World) : (Instr.makeSlice 23 (.int .i64 8) (.int .i64 8)).run Try.prog w = .ok (.slice (some ⟨w.heap.size, 0, none⟩) 8 8) (w.alloc (.cells (numsA zeroL8) 3 (0, 0))) := by kernel_rfl
theorem NumsAt.ownN {w : World} {g n : Nat} {t : TypeId} {b : List Int} (h : NumsAt w g t b) (hb : b.length = n) (hn : n ≤ 64) {base : Nat} (hg : base ≤ g) : w.ownsRow base t 1 (.slice (some ⟨g, 0, none⟩) n n) n (intV b) :=
  ⟨by simp [hb], .inr ⟨g, n, numsA b, rfl, hg, h, Nat.le_refl _, by unfold maxLen; omega, by simp [hb], List.take_of_length_le (by simp [hb])⟩⟩

set_option maxRecDepth 100000 in
set_option maxHeartbeats 2000000 in
/-- the numbers of a row -/
theorem llist_any {W : World} {g : Nat} {t : TypeId} {B : List Int} (hN : NumsAt W g t B) (hB : B.length = 64) {f : Nat} (hf : f < 8) :
    Calls Try.prog 33 #[.agg #[.pointer (some ⟨g, 0, none⟩), .int .i64 (plC false f 0 : Nat), .int .i64 (stL false : Nat)]] W fun e W' => ∃ v, e = .returned v ∧ W'.ownsRow W.heap.size 3 1 v 8 (intV (ofC 8 fun i => nthC B (plC false f i))) ∧ Below W.heap.size W W' := by
  have HA : Hid (∀ j : Nat, j < 8 → ∀ W', NumsAt W' g t B → Calls Try.prog 37 #[.agg #[.pointer (some ⟨g, 0, none⟩), .int .i64 (plC false f 0 : Nat), .int .i64 (stL false : Nat)], .int .i64 (j : Int)] W' fun e W'' => e = .returned (.int .i64 (nthC B (plC false f j))) ∧ Below W'.heap.size W' W'') := fun j hj W' h => lat_any h hB false hf hj
  generalize hF : (fun i => nthC B (plC false f i)) = F at *
  have hFi : ∀ i, nthC B (plC false f i) = F i := fun i => by rw [← hF]
  simp only [hFi] at HA
  have HN := Lib.hid (hN.alloc (.cells #[.pointer (some ⟨g, 0, none⟩), .int .i64 (plC false f 0 : Nat), .int .i64 (stL false : Nat)] 52))
  have HX := Lib.hid (World.alloc_heap_new W (.cells #[.pointer (some ⟨g, 0, none⟩), .int .i64 (plC false f 0 : Nat), .int .i64 (stL false : Nat)] 52))
  have HB := Lib.hid ((Below.refl _ W).alloc (Nat.le_refl _) (.cells #[.pointer (some ⟨g, 0, none⟩), .int .i64 (plC false f 0 : Nat), .int .i64 (stL false : Nat)] 52))
  have hz : (W.alloc (.cells #[.pointer (some ⟨g, 0, none⟩), .int .i64 (plC false f 0 : Nat), .int .i64 (stL false : Nat)] 52)).heap.size = W.heap.size + 1 := by simp
  have hgl := hN.lt
  clear hN
  go_enter Try.func33, Try.ntmps33
  have hmk := made8 (W.alloc (.cells #[.pointer (some ⟨g, 0, none⟩), .int .i64 (plC false f 0 : Nat), .int .i64 (stL false : Nat)] 52))
  go_wp2_with fail
  generalize W.alloc (.cells #[.pointer (some ⟨g, 0, none⟩), .int .i64 (plC false f 0 : Nat), .int .i64 (stL false : Nat)] 52) = w1 at *
  have HN2 := Lib.hid (HN.out.alloc (.cells (numsA zeroL8) 3 (0, 0)))
  have HX2 := Lib.hid ((heap_keep HX.out (.cells (numsA zeroL8) 3 (0, 0))))
  have HB2 := Lib.hid (HB.out.alloc (by omega) (.cells (numsA zeroL8) 3 (0, 0)))
  have HR := Lib.hid (numsAt_new w1 3 zeroL8)
  clear hmk HN HX HB
  rw [hz] at *
  generalize w1.alloc (.cells (numsA zeroL8) 3 (0, 0)) = w2 at *
  go_loopw [8] (fun i wr => ∃ k : Nat, i = .int .i64 (k : Int) ∧ k ≤ 8 ∧ NumsAt wr (W.heap.size + 1) 3 (upI F 8 k) ∧ Bar (fun q => q = W.heap.size + 1) w2 wr) (fun i _ => 8 - (intOf i).toNat)
  case atStart => exact ⟨0, rfl, by omega, by rw [upI_zero]; exact HR.out, Bar.refl _ _⟩
  case round =>
    obtain ⟨k, rfl, hk, hMk, hBk⟩ := hrel
    by_cases hk2 : k < 8
    · have z1 : (k : Int) < 8 := by omega
      have hNk : NumsAt wr g t B := (hBk.block _ HN2.out.lt (by omega)).trans HN2.out
      have hx := (hBk.block _ (by have := HN2.out.lt; have := HB2.out.size; have := (Array.getElem?_eq_some_iff.1 HX2.out).1; omega) (by omega)).trans HX2.out
      have HNk := Lib.hid hNk
      have HMk := Lib.hid hMk
      have HBk := Lib.hid hBk
      have HAk := Lib.hid (HA.out k hk2 _ HNk.out)
      have HSt := Lib.hid (upI_step F hk2)
      have y0 : wr.cell? ⟨W.heap.size, 0, none⟩ = some (.pointer (some ⟨g, 0, none⟩)) := by simp [World.cell?, hx]
      have y1 : wr.cell? ⟨W.heap.size, 1, none⟩ = some (.int .i64 (plC false f 0 : Nat)) := by simp [World.cell?, hx]
      have y2 : wr.cell? ⟨W.heap.size, 2, none⟩ = some (.int .i64 (stL false : Nat)) := by simp [World.cell?, hx]
      clear hMk hBk hNk hx
      generalize F k = q at *
      go_wp2_with fail
      refine HAk.out.mono ?_
      rintro e w3 ⟨rfl, hb3⟩
      have HM3 := Lib.hid (HMk.out.below hb3 HMk.out.lt)
      have HB3 := Lib.hid (HBk.out.trans (bar_of_below hb3) (fun j hj e => e))
      have c3 := HM3.out.cell (k := k) (by rw [upI_length]; omega)
      have f3 := HM3.out.frozen k
      clear hb3 y0 y1 y2
      go_wp2_with fail
      go_roundw
      case rel => exact ⟨k + 1, by go_num, by omega, by rw [← HSt.out]; exact HM3.out.set _ _, HB3.out.setCell (p := ⟨W.heap.size + 1, k, none⟩) (fun _ => rfl) _⟩
      case measure => simp [intOf]; omega
    · obtain rfl : k = 8 := by omega
      have HM3 := Lib.hid hMk
      have HB3 := Lib.hid (HB2.out.trans (hBk.below (B := W.heap.size) HB2.out.size (fun j hj e => by omega)))
      rw [upI_all] at HM3
      go_wp2_with fail
      go_ret
      exact ⟨_, rfl, HM3.out.ownN (by simp [ofC_length]) (by omega) (by omega), HB3.out⟩

set_option maxRecDepth 100000 in
set_option maxHeartbeats 2000000 in
theorem lisRow_any {n₀ : Nat} {w : World} {av : Option Addr} {len cap : Nat} {xs : List Int} (hR : RowV n₀ w av len cap (intV xs)) (hlen : len ≤ 1000000) :
    Calls Try.prog 30 #[.slice av len cap] w fun e w' => e = .returned (.bool (decide (sfE xs = 0))) ∧ w = w' := by
  have hl : xs.length = len := by have := hR.1; simpa using this
  rcases sfE_cases xs with ⟨h8, he⟩ | ⟨h8, hall, he⟩ | ⟨h8, hall, he⟩
  · rw [he]
    have t1 : ((len : Int) != 8) = true := by rw [hl] at h8; simp; omega
    go_enter Try.func30, Try.ntmps30
    go_wp2
    go_ret
    exact ⟨rfl, rfl⟩
  · rw [he]
    obtain rfl : len = 8 := by omega
    obtain ⟨b, off, rfl, hbl, hc⟩ := hR.cells (by omega)
    have HX := Lib.hid (fun j (hj : j < 8) => (hc j (.int .i64 (nthC xs j)) (by simp [nthC, show j < xs.length by omega])))
    have HNo : Hid (¬ ∀ j, j < 8 → -1099511627776 ≤ nthC xs j ∧ nthC xs j ≤ 1099511627776) := fun h => by
      rw [(allC_iff xs _ _).2 (fun j hj => (okNC_iff _ _ _).2 (h j (by omega)))] at hall
      cases hall
    clear hR hc hall he
    go_enter Try.func30, Try.ntmps30
    go_wp2
    go_loopw [10] (fun i wr => ∃ k : Nat, i = .int .i64 k ∧ k ≤ 8 ∧ w = wr ∧ ∀ j, j < k → -1099511627776 ≤ nthC xs j ∧ nthC xs j ≤ 1099511627776) (fun i _ => 8 - (intOf i).toNat)
    case atStart => exact ⟨0, rfl, by omega, rfl, fun j hj => by omega⟩
    case round =>
      obtain ⟨i, rfl, hi, rfl, hok⟩ := hrel
      by_cases hi2 : i < 8
      · have z1 : (i : Int) < 8 := by omega
        have z0 : (0 : Int) ≤ i := by omega
        have x1 := HX.out i hi2
        have HOk : Hid ((-1099511627776 ≤ nthC xs i ∧ nthC xs i ≤ 1099511627776) → ∀ j, j < i + 1 → -1099511627776 ≤ nthC xs j ∧ nthC xs j ≤ 1099511627776) := fun h j hj => by
          by_cases e : j = i
          · rw [e]; exact h
          · exact hok j (by omega)
        clear hok
        generalize nthC xs i = y at *
        by_cases b1 : y < -1099511627776
        · clear HOk
          go_wp2_with fail
          go_ret
          exact ⟨rfl, rfl⟩
        · by_cases b2 : 1099511627776 < y
          · clear HOk
            go_wp2_with fail
            go_ret
            exact ⟨rfl, rfl⟩
          · have HOk2 := Lib.hid (HOk.out ⟨by omega, by omega⟩)
            clear HOk
            go_wp2_with fail
            go_roundw
            case rel => exact ⟨i + 1, by go_num, by omega, trivial, HOk2.out⟩
            case measure => simp [intOf]; omega
      · obtain rfl : i = 8 := by omega
        exact absurd hok HNo.out
  · rw [he]
    have hbd : ∀ j, j < 8 → -1099511627776 ≤ nthC xs j ∧ nthC xs j ≤ 1099511627776 := fun j hj => (okNC_iff _ _ _).1 ((allC_iff _ _ _).1 hall j (by omega))
    obtain rfl : len = 8 := by omega
    obtain ⟨b, off, rfl, hbl, hc⟩ := hR.cells (by omega)
    have HX := Lib.hid (fun j (hj : j < 8) => (hc j (.int .i64 (nthC xs j)) (by simp [nthC, show j < xs.length by omega])))
    have HBd := Lib.hid hbd
    clear hR hc hall hbd he
    go_enter Try.func30, Try.ntmps30
    go_wp2
    go_loopw [10] (fun i wr => ∃ k : Nat, i = .int .i64 k ∧ k ≤ 8 ∧ w = wr) (fun i _ => 8 - (intOf i).toNat)
    case atStart => exact ⟨0, rfl, by omega, rfl⟩
    case round =>
      obtain ⟨i, rfl, hi, rfl⟩ := hrel
      by_cases hi2 : i < 8
      · have z1 : (i : Int) < 8 := by omega
        have z0 : (0 : Int) ≤ i := by omega
        have x1 := HX.out i hi2
        obtain ⟨b1', b2'⟩ := HBd.out i hi2
        generalize nthC xs i = y at *
        have b1 : ¬ y < -1099511627776 := by omega
        have b2 : ¬ 1099511627776 < y := by omega
        go_wp2_with fail
        go_roundw
        case rel => exact ⟨i + 1, by go_num, by omega, trivial⟩
        case measure => simp [intOf]; omega
      · obtain rfl : i = 8 := by omega
        go_wp2_with fail
        go_ret
        exact ⟨rfl, rfl⟩

set_option maxRecDepth 100000 in
set_option maxHeartbeats 2000000 in
/-- a block's samples, as numbers -/
theorem lnumbersOf_any {n₀ : Nat} {w : World} {sv : Value} {zs : List UInt8} (hB : Byt n₀ w sv zs) (hn : n₀ ≤ w.heap.size) (h64 : zs.length = 64) :
    Calls Try.prog 26 #[sv] w fun e w' => e = .returned (.pointer (some ⟨w.heap.size, 0, none⟩)) ∧ NumsAt w' w.heap.size 50 (ofC 64 (bN zs)) ∧ Below w.heap.size w w' := by
  obtain ⟨av, cap, rfl, hlen, hcell⟩ := hB
  rcases hcell with e | ⟨b, off, rfl, hbl, hc⟩
  · rw [e] at h64; cases h64
  have HX := Lib.hid (fun W' (h : Below w.heap.size w W') j (hj : j < 64) => (h.cell (p := ⟨b, off + j, none⟩) (by simp; omega)).trans (hc j (by omega)))
  rw [h64]
  clear hc hlen
  go_enter Try.func26, Try.ntmps26
  go_wp2_with (with_reducible refine wpList_allocZ rfl 50 (numsA zeros64) rfl num15_zero ?_)
  have HM0 := Lib.hid (numsAt_new w 50 zeros64)
  have HB0 := Lib.hid (ints64_new w 50 zeros64)
  generalize w.alloc (.cells (numsA zeros64) 50) = w1 at *
  go_loopw [8] (fun i wr => ∃ k : Nat, i = .int .i64 (k : Int) ∧ k ≤ 64 ∧ NumsAt wr w.heap.size 50 (upI (bN zs) 64 k) ∧ Below w.heap.size w wr) (fun i _ => 64 - (intOf i).toNat)
  case atStart => exact ⟨0, rfl, by omega, by rw [upI_zero]; exact HM0.out, HB0.out⟩
  case round =>
    obtain ⟨k, rfl, hk, hMk, hBk⟩ := hrel
    by_cases hk2 : k < 64
    · have z1 : (k : Int) < 64 := by omega
      have z0 : (0 : Int) ≤ k := by omega
      have x1 := HX.out wr hBk k hk2
      have c3 := hMk.cell (k := k) (by rw [upI_length]; omega)
      have f3 := hMk.frozen k
      have HMk := Lib.hid hMk
      have HBk := Lib.hid hBk
      have HSt := Lib.hid (upI_step (bN zs) hk2)
      rw [show bN zs k = ((zs[k]?.getD 0).toNat : Int) from rfl] at HSt
      generalize zs[k]?.getD 0 = z at *
      have hz8 := z.toNat_lt
      clear hMk hBk
      go_wp2_with fail
      go_roundw
      case rel => exact ⟨k + 1, by go_num, by omega, by rw [← HSt.out]; exact HMk.out.set _ _, HBk.out.setCell (p := ⟨w.heap.size, k, none⟩) (Nat.le_refl _) _⟩
      case measure => simp [intOf]; omega
    · obtain rfl : k = 64 := by omega
      rw [upI_all] at hMk
      go_wp2_with fail
      go_ret
      exact ⟨rfl, hMk, hBk⟩

set_option maxRecDepth 100000 in
set_option maxHeartbeats 2000000 in
theorem lsoftRows_any {W : World} {g : Nat} {t : TypeId} {B : List Int} (hN : NumsAt W g t B) (hB : B.length = 64) (hin : ∀ j, -1099511627776 ≤ nthC B j ∧ nthC B j ≤ 1099511627776) :
    Calls Try.prog 27 #[.pointer (some ⟨g, 0, none⟩)] W fun e W' => e = .returned (.pointer (some ⟨W.heap.size, 0, none⟩)) ∧ NumsAt W' W.heap.size 50 (ofC 64 (lnL false (nthC B))) ∧ Below W.heap.size W W' := by
  have hgl := hN.lt
  have HS : Hid (∀ f W', f < 8 → NumsAt W' g t B → NumsAt W' W.heap.size 50 (fillG false (lnL false (nthC B)) f 0) → Calls Try.prog 32 #[.agg #[.pointer (some ⟨g, 0, none⟩), .int .i64 (plC false f 0 : Nat), .int .i64 (stL false : Nat)], .agg #[.pointer (some ⟨W.heap.size, 0, none⟩), .int .i64 (plC false f 0 : Nat), .int .i64 (stL false : Nat)]] W' fun e W'' => e = .returned (.tuple #[]) ∧ NumsAt W'' W.heap.size 50 (fillG false (lnL false (nthC B)) f 8) ∧ Bar (fun q => q = W.heap.size) W' W'') := fun f W' hf h1 h2 => lsoften_any h1 hB hin false hf (by omega) h2
  have HNx := Lib.hid (fun f => fillG_next false (lnL false (nthC B)) f)
  have HN := Lib.hid hN
  have HM0 := Lib.hid (numsAt_new W 50 zeros64)
  have HB0 := Lib.hid (ints64_new W 50 zeros64)
  clear hN
  go_enter Try.func27, Try.ntmps27
  go_wp2_with (with_reducible refine wpList_allocZ rfl 50 (numsA zeros64) rfl num15_zero ?_)
  generalize W.alloc (.cells (numsA zeros64) 50) = w1 at *
  go_loopw [5] (fun i wr => ∃ y : Nat, i = .int .i64 (y : Int) ∧ y ≤ 8 ∧ NumsAt wr W.heap.size 50 (fillG false (lnL false (nthC B)) y 0) ∧ Below W.heap.size W wr) (fun i _ => 8 - (intOf i).toNat)
  case atStart => exact ⟨0, rfl, by omega, by rw [fillG_zero]; exact HM0.out, HB0.out⟩
  case round =>
    obtain ⟨y, rfl, hy, hM, hB2⟩ := hrel
    have HM := Lib.hid hM
    have HB := Lib.hid hB2
    clear hM hB2
    by_cases hy2 : y < 8
    · have z1 : (y : Int) < 8 := by omega
      have HR := Lib.hid (fun W' g => lrow_any W' g y hy2)
      have HSy := Lib.hid (fun W' => HS.out y W' hy2)
      have HNy := Lib.hid (HNx.out y)
      go_wp2_with fail
      refine (HR.out _ _).mono ?_
      rintro e w2 ⟨rfl, hb2⟩
      have HM2 := Lib.hid (HM.out.below hb2 HM.out.lt)
      have HB2 := Lib.hid (HB.out.trans (hb2.mono HB.out.size))
      clear hb2
      go_wp2_with fail
      refine (HR.out _ _).mono ?_
      rintro e w3 ⟨rfl, hb3⟩
      have HM3 := Lib.hid (HM2.out.below hb3 HM2.out.lt)
      have HB3 := Lib.hid (HB2.out.trans (hb3.mono HB2.out.size))
      clear hb3
      go_wp2_with fail
      refine (HSy.out _ (HN.out.below HB3.out hgl) HM3.out).mono ?_
      rintro e w4 ⟨rfl, hm4, hb4⟩
      have HM4 := Lib.hid hm4
      have HB4 := Lib.hid (HB3.out.trans (hb4.below (B := W.heap.size) HB3.out.size (fun j hj e => by omega)))
      clear hm4 hb4
      go_wp2_with fail
      go_roundw
      case rel => exact ⟨y + 1, by go_num, by omega, by rw [← HNy.out]; exact HM4.out, HB4.out⟩
      case measure => simp [intOf]; omega
    · obtain rfl : y = 8 := by omega
      rw [fillG_all] at HM
      go_wp2_with fail
      go_ret
      exact ⟨rfl, HM.out, HB.out⟩
set_option maxRecDepth 100000 in
set_option maxHeartbeats 2000000 in
theorem lsoftCols_any {W : World} {g : Nat} {t : TypeId} {B : List Int} (hN : NumsAt W g t B) (hB : B.length = 64) (hin : ∀ j, -1099511627776 ≤ nthC B j ∧ nthC B j ≤ 1099511627776) :
    Calls Try.prog 28 #[.pointer (some ⟨g, 0, none⟩)] W fun e W' => e = .returned (.pointer (some ⟨W.heap.size, 0, none⟩)) ∧ NumsAt W' W.heap.size 50 (ofC 64 (lnL true (nthC B))) ∧ Below W.heap.size W W' := by
  have hgl := hN.lt
  have HS : Hid (∀ f W', f < 8 → NumsAt W' g t B → NumsAt W' W.heap.size 50 (fillG true (lnL true (nthC B)) f 0) → Calls Try.prog 32 #[.agg #[.pointer (some ⟨g, 0, none⟩), .int .i64 (plC true f 0 : Nat), .int .i64 (stL true : Nat)], .agg #[.pointer (some ⟨W.heap.size, 0, none⟩), .int .i64 (plC true f 0 : Nat), .int .i64 (stL true : Nat)]] W' fun e W'' => e = .returned (.tuple #[]) ∧ NumsAt W'' W.heap.size 50 (fillG true (lnL true (nthC B)) f 8) ∧ Bar (fun q => q = W.heap.size) W' W'') := fun f W' hf h1 h2 => lsoften_any h1 hB hin true hf (by omega) h2
  have HNx := Lib.hid (fun f => fillG_next true (lnL true (nthC B)) f)
  have HN := Lib.hid hN
  have HM0 := Lib.hid (numsAt_new W 50 zeros64)
  have HB0 := Lib.hid (ints64_new W 50 zeros64)
  clear hN
  go_enter Try.func28, Try.ntmps28
  go_wp2_with (with_reducible refine wpList_allocZ rfl 50 (numsA zeros64) rfl num15_zero ?_)
  generalize W.alloc (.cells (numsA zeros64) 50) = w1 at *
  go_loopw [5] (fun i wr => ∃ y : Nat, i = .int .i64 (y : Int) ∧ y ≤ 8 ∧ NumsAt wr W.heap.size 50 (fillG true (lnL true (nthC B)) y 0) ∧ Below W.heap.size W wr) (fun i _ => 8 - (intOf i).toNat)
  case atStart => exact ⟨0, rfl, by omega, by rw [fillG_zero]; exact HM0.out, HB0.out⟩
  case round =>
    obtain ⟨y, rfl, hy, hM, hB2⟩ := hrel
    have HM := Lib.hid hM
    have HB := Lib.hid hB2
    clear hM hB2
    by_cases hy2 : y < 8
    · have z1 : (y : Int) < 8 := by omega
      have HR := Lib.hid (fun W' g => lcol_any W' g y hy2)
      have HSy := Lib.hid (fun W' => HS.out y W' hy2)
      have HNy := Lib.hid (HNx.out y)
      go_wp2_with fail
      refine (HR.out _ _).mono ?_
      rintro e w2 ⟨rfl, hb2⟩
      have HM2 := Lib.hid (HM.out.below hb2 HM.out.lt)
      have HB2 := Lib.hid (HB.out.trans (hb2.mono HB.out.size))
      clear hb2
      go_wp2_with fail
      refine (HR.out _ _).mono ?_
      rintro e w3 ⟨rfl, hb3⟩
      have HM3 := Lib.hid (HM2.out.below hb3 HM2.out.lt)
      have HB3 := Lib.hid (HB2.out.trans (hb3.mono HB2.out.size))
      clear hb3
      go_wp2_with fail
      refine (HSy.out _ (HN.out.below HB3.out hgl) HM3.out).mono ?_
      rintro e w4 ⟨rfl, hm4, hb4⟩
      have HM4 := Lib.hid hm4
      have HB4 := Lib.hid (HB3.out.trans (hb4.below (B := W.heap.size) HB3.out.size (fun j hj e => by omega)))
      clear hm4 hb4
      go_wp2_with fail
      go_roundw
      case rel => exact ⟨y + 1, by go_num, by omega, by rw [← HNy.out]; exact HM4.out, HB4.out⟩
      case measure => simp [intOf]; omega
    · obtain rfl : y = 8 := by omega
      rw [fillG_all] at HM
      go_wp2_with fail
      go_ret
      exact ⟨rfl, HM.out, HB.out⟩

set_option maxRecDepth 100000 in
set_option maxHeartbeats 2000000 in
/-- the samples of a block that was softened both ways -/
theorem lsamples_any {W : World} {g : Nat} {t : TypeId} {B : List Int} (hN : NumsAt W g t B) (hB : B.length = 64) (FB : Nat → UInt8) (hF : ∀ j, j < 64 → ((FB j).toNat : Int) = (nthC B j + 8) / 16) (hin : ∀ j, j < 64 → 0 ≤ nthC B j ∧ nthC B j ≤ 4080) :
    Calls Try.prog 29 #[.pointer (some ⟨g, 0, none⟩)] W fun e W' => ∃ v, e = .returned v ∧ W'.ownsRow W.heap.size 5 1 v 64 (u8s ((List.range 64).map FB)) ∧ Below W.heap.size W W' := by
  have hgl := hN.lt
  have HIn := Lib.hid hin
  have HF := Lib.hid hF
  have HN := Lib.hid hN
  have hmk := made64b W
  have HO0 := Lib.hid (bytR_new W zeroB64)
  have HB0 := Lib.hid ((Below.refl _ W).alloc (Nat.le_refl _) (.cells (u8s zeroB64).toArray 5 (0, 0)))
  generalize W.alloc (.cells (u8s zeroB64).toArray 5 (0, 0)) = w1 at *
  clear hN hin hF
  go_enter Try.func29, Try.ntmps29
  go_wp2_with fail
  clear hmk
  go_loopw [8] (fun i wr => ∃ k : Nat, i = .int .i64 (k : Int) ∧ k ≤ 64 ∧ BytR wr W.heap.size (upU FB k) ∧ Below W.heap.size W wr) (fun i _ => 64 - (intOf i).toNat)
  case atStart => exact ⟨0, rfl, by omega, by rw [upU_zero]; exact HO0.out, HB0.out⟩
  case round =>
    obtain ⟨k, rfl, hk, hMk, hBk⟩ := hrel
    have HMk := Lib.hid hMk
    have HBk := Lib.hid hBk
    clear hMk hBk
    by_cases hk2 : k < 64
    · have z1 : (k : Int) < 64 := by omega
      have z0 : (0 : Int) ≤ k := by omega
      have x1 : ∀ n, (wr.drewN n).cell? ⟨g, k, none⟩ = some (.int .i64 (nthC B k)) := fun n => (HN.out.below HBk.out hgl).cell (by omega)
      have c3 : ∀ n, (wr.drewN n).cell? ⟨W.heap.size, k, none⟩ = _ := fun n => HMk.out.cell (k := k) (by rw [upU_length]; omega)
      have f3 : ∀ n, (wr.drewN n).frozen? ⟨W.heap.size, k, none⟩ = false := fun n => HMk.out.frozen k
      have HSt := Lib.hid (upU_step FB hk2)
      have hF := HF.out k hk2
      obtain ⟨i1, i2⟩ := HIn.out k hk2
      generalize nthC B k = q at *
      generalize FB k = z at *
      have e1 : IntKind.i64.wrap (q + 8) = q + 8 := by rw [IntKind.wrap_i64]; omega
      have e2 : Int.tdiv (q + 8) 16 = ((z.toNat : Nat) : Int) := by rw [Int.tdiv_eq_ediv_of_nonneg (by omega)]; omega
      have hz8 := z.toNat_lt
      have e3 : IntKind.u8.wrap ((z.toNat : Nat) : Int) = ((z.toNat : Nat) : Int) := by rw [IntKind.wrap_u8]; omega
      clear hF
      go_wp2_with fail
      go_quiet (fail)
      go_wp2_with fail
      go_roundw
      case rel => exact ⟨k + 1, by go_num, by omega, by rw [← HSt.out]; exact (show BytR (wr.drewN _) _ _ from HMk.out).set _ _, (HBk.out.trans (below_drewN _ _ _)).setCell (p := ⟨W.heap.size, k, none⟩) (Nat.le_refl _) _⟩
      case measure => simp [intOf]; omega
    · obtain rfl : k = 64 := by omega
      rw [show upU FB 64 = (List.range 64).map FB from listB_ext (upU_length _ _) (by simp) (fun j hj => by rw [upU_get _ _ hj, if_pos hj]; simp [hj])] at HMk
      go_wp2_with fail
      go_ret
      exact ⟨_, rfl, HMk.out.own (by simp) (by omega) (by omega), HBk.out⟩

/-- a row, and noughts behind it -/
def wasL (xs : List Int) : List Int := xs ++ List.replicate 56 0
theorem was_at {xs : List Int} (h : xs.length = 8) {k : Nat} (hk : k < 8) : nthC (wasL xs) (plC false 0 k) = nthC xs k := by
  rw [show plC false 0 k = k by unfold plC; simp]
  unfold wasL nthC
  rw [List.getElem?_append_left (by omega)]
theorem was_in {xs : List Int} (h : xs.length = 8) (hb : ∀ j, j < 8 → -1099511627776 ≤ nthC xs j ∧ nthC xs j ≤ 1099511627776) (j : Nat) : -1099511627776 ≤ nthC (wasL xs) j ∧ nthC (wasL xs) j ≤ 1099511627776 := by
  by_cases hj : j < 8
  · have := was_at h hj
    rw [show plC false 0 j = j by unfold plC; simp] at this
    rw [this]
    exact hb j hj
  · have : nthC (wasL xs) j = 0 := by
      unfold wasL nthC
      rw [List.getElem?_append_right (by omega), List.getElem?_replicate]
      split <;> rfl
    omega
theorem was_soft {xs : List Int} (h : xs.length = 8) : (ofC 8 fun i => nthC (fillG false (lnL false (nthC (wasL xs))) 0 8) (plC false 0 i)) = ofC 8 (sof (nthC xs)) := by
  apply ofC_congr
  intro j hj
  unfold fillG
  rw [ofC_get (pl_lt false (by omega) hj), co_pl false (by omega) hj, ix_pl false (by omega) hj, if_pos (.inr ⟨rfl, hj⟩), lnL_at false _ (by omega) hj]
  exact sof_congr hj (fun t ht => was_at h ht)

set_option maxRecDepth 100000 in
set_option maxHeartbeats 4000000 in
theorem lSoften_any {n₀ : Nat} {w : World} {av : Option Addr} {len cap : Nat} {xs : List Int} (hR : RowV n₀ w av len cap (intV xs)) (hn : n₀ ≤ w.heap.size) (hlen : len ≤ 1000000) :
    Calls Try.prog 13 #[.slice av len cap] w fun e w' => ∃ v, e = .returned (.tuple #[v, .int .i64 (sfE xs)]) ∧ w'.ownsRow w.heap.size 3 1 v (sfL xs).length (intV (sfL xs)) ∧ Below w.heap.size w w' := by
  have hl : xs.length = len := by have := hR.1; simpa using this
  have HC := Lib.hid (lisRow_any hR hlen)
  by_cases h0 : sfE xs = 0
  · rw [h0] at HC ⊢
    have hL : sfL xs = ofC 8 (sof (nthC xs)) := if_pos h0
    have h8 : xs.length = 8 := by
      rcases sfE_cases xs with ⟨h8, he⟩ | ⟨h8, hall, he⟩ | ⟨h8, hall, he⟩
      · omega
      · exact h8
      · exact h8
    have hbd : ∀ j, j < 8 → -1099511627776 ≤ nthC xs j ∧ nthC xs j ≤ 1099511627776 := by
      rcases sfE_cases xs with ⟨h8, he⟩ | ⟨h8, hall, he⟩ | ⟨h8, hall, he⟩
      · omega
      · omega
      · exact fun j hj => (okNC_iff _ _ _).1 ((allC_iff _ _ _).1 hall j (by omega))
    rw [hL, ofC_length]
    obtain rfl : len = 8 := by omega
    obtain ⟨b, off, rfl, hbl, hc⟩ := hR.cells (by omega)
    have HLs := Lib.hid (fun W g t (h : NumsAt W g t (fillG false (lnL false (nthC (wasL xs))) 0 8)) => llist_any h (fillG_length _ _ _ _) (f := 0) (by omega))
    rw [was_soft h8] at HLs
    have HSo := Lib.hid (fun W g g2 t t2 (h : NumsAt W g t (wasL xs)) (hg : g ≠ g2) => lsoften_any (t2 := t2) h (by unfold wasL; simp [h8]) (was_in h8 hbd) false (f := 0) (by omega) hg)
    have HRw := Lib.hid (fun W g => lrow_any W g 0 (by omega))
    have ha1 := ints64_new w 50 zeros64
    have hA1 := numsAt_new w 50 zeros64
    have hz1 : (w.alloc (.cells (numsA zeros64) 50)).heap.size = w.heap.size + 1 := by simp
    generalize hw1 : w.alloc (.cells (numsA zeros64) 50) = w1 at *
    have ha2 := ha1.alloc (by omega) (.cells (numsA zeros64) 50)
    have hA2 := hA1.alloc (.cells (numsA zeros64) 50)
    have hB2 := numsAt_new w1 50 zeros64
    rw [hz1] at hB2
    generalize hw2 : w1.alloc (.cells (numsA zeros64) 50) = w2 at *
    have hcs : ∀ j u, (intV xs)[j]? = some u → w2.cell? ((⟨b, off, none⟩ : Addr).add j) = some u := RowV.addCells (n₀ := 0) (len := 8) (cap := 8) (fun j u hu => (ha2.cell (p := ⟨b, off + j, none⟩) (by simp; omega)).trans (hc j u hu))
    have hx8 : (intV xs).length = 8 := by simp [h8]
    obtain ⟨w3, hrun, hcp⟩ := run_copy_bar (P := Try.prog) (w := w2) 23 23 3 3 Try.underlying23y (by kernel_rfl) (some ⟨w.heap.size, 0, none⟩) (some ⟨b, off, none⟩) 64 64 8 cap w.heap.size 0 (intV zeros64) 50 hA2 (intV xs) (by rw [hx8]; rfl) (fun hp => ⟨rfl, _, rfl, hcs⟩) (by rw [hx8]; decide) (fun v hv => by simp only [intV, List.mem_map] at hv; obtain ⟨x, -, rfl⟩ := hv; rfl)
    have hsp : splice (intV zeros64) 0 (intV xs) = intV (wasL xs) := by
      unfold splice wasL
      rw [hx8, show intV zeros64 = List.replicate 64 (Value.int .i64 0) from rfl]
      simp [intV, List.drop_replicate, -List.reduceReplicate]
    rw [hsp] at hcp
    have HA3 : Hid (NumsAt w3 w.heap.size 50 (wasL xs)) := hcp.1
    have HB3 : Hid (NumsAt w3 (w.heap.size + 1) 50 zeros64) := (hcp.2.block _ hB2.lt (by omega)).trans hB2
    have HW3 := Lib.hid (ha2.trans (hcp.2.below ha2.size (fun j hj e => by omega)))
    have HF0 := Lib.hid (fillG_zero false (lnL false (nthC (wasL xs))))
    have hz3 := HW3.out.size
    clear hcp hsp hcs hB2 hA1 hA2 ha1 ha2 hR hc hbd hL h0 hbl
    rw [hx8] at hrun
    go_enter Try.func13, Try.ntmps13
    go_wp2_with fail
    refine HC.out.mono ?_
    rintro e w0 ⟨rfl, rfl⟩
    go_wp2_with (with_reducible refine wpList_allocZ rfl 50 (numsA zeros64) rfl num15_zero ?_)
    refine (HRw.out _ _).mono ?_
    rintro e w4 ⟨rfl, hb4⟩
    have HA4 := Lib.hid (HA3.out.below hb4 HA3.out.lt)
    have HB4 := Lib.hid (HB3.out.below hb4 HB3.out.lt)
    have HW4 := Lib.hid (HW3.out.trans (hb4.mono hz3))
    clear hb4
    go_wp2_with fail
    refine (HRw.out _ _).mono ?_
    rintro e w5 ⟨rfl, hb5⟩
    have HA5 := Lib.hid (HA4.out.below hb5 HA4.out.lt)
    have HB5 := Lib.hid (HB4.out.below hb5 HB4.out.lt)
    have HW5 := Lib.hid (HW4.out.trans (hb5.mono HW4.out.size))
    clear hb5
    go_wp2_with fail
    refine (HSo.out _ _ (w.heap.size + 1) _ 50 HA5.out (by omega) (by rw [HF0.out]; exact HB5.out)).mono ?_
    rintro e w6 ⟨rfl, hm6, hb6⟩
    have HB6 := Lib.hid hm6
    have HW6 := Lib.hid (HW5.out.trans (hb6.below HW5.out.size (fun j hj e => by omega)))
    clear hm6 hb6
    go_wp2_with fail
    refine (HRw.out _ _).mono ?_
    rintro e w7 ⟨rfl, hb7⟩
    have HB7 := Lib.hid (HB6.out.below hb7 HB6.out.lt)
    have HW7 := Lib.hid (HW6.out.trans (hb7.mono HW6.out.size))
    clear hb7
    go_wp2_with fail
    refine (HLs.out _ _ _ HB7.out).mono ?_
    rintro e w8 ⟨v8, rfl, ho8, hb8⟩
    have HO8 := Lib.hid (ownsRow_baseN ho8 HW7.out.size)
    have HW8 := Lib.hid (HW7.out.trans (hb8.mono HW7.out.size))
    clear ho8 hb8
    go_wp2_with fail
    go_ret2
    exact ⟨_, rfl, HO8.out, HW8.out⟩
  · have he : sfE xs = 2 := by
      rcases sfE_cases xs with ⟨h8, he⟩ | ⟨h8, hall, he⟩ | ⟨h8, hall, he⟩
      · exact he
      · exact he
      · exact absurd he h0
    rw [sf_none he, he]
    rw [he] at HC
    clear h0 he hR
    go_enter Try.func13, Try.ntmps13
    go_wp2_with fail
    refine HC.out.mono ?_
    rintro e w0 ⟨rfl, rfl⟩
    go_wp2_with fail
    go_ret2
    exact ⟨_, rfl, World.ownsRow_nil _ _ _ _, Below.refl _ _⟩

set_option maxRecDepth 100000 in
set_option maxHeartbeats 2000000 in
theorem lFilter_any {n₀ : Nat} {w : World} {sv : Value} {zs : List UInt8} (hB : Byt n₀ w sv zs) (hn : n₀ ≤ w.heap.size) (hcap : Capped sv) :
    Calls Try.prog 11 #[sv] w fun e w' => ∃ v, e = .returned (.tuple #[v, .int .i64 (fbE zs.length)]) ∧ w'.ownsRow w.heap.size 5 1 v (fbL zs).length (u8s (fbL zs)) ∧ Below w.heap.size w w' := by
  by_cases h64 : zs.length = 64
  · have HN := Lib.hid (lnumbersOf_any hB hn h64)
    have hE : fbE zs.length = 0 := if_pos h64
    have hL : fbL zs = (List.range 64).map (fbB zs) := if_pos h64
    rw [hE, hL, List.length_map, List.length_range]
    have h0 : ∀ j, 0 ≤ nthC (ofC 64 (bN zs)) j ∧ nthC (ofC 64 (bN zs)) j ≤ 255 := fun j => by
      by_cases hj : j < 64
      · rw [ofC_get hj]; exact bN_in zs j
      · rw [ofC_out (by omega)]; omega
    have h1 : ∀ j, 0 ≤ nthC (ofC 64 (lnL false (nthC (ofC 64 (bN zs))))) j ∧ nthC (ofC 64 (lnL false (nthC (ofC 64 (bN zs))))) j ≤ 1020 := fun j => by
      by_cases hj : j < 64
      · rw [ofC_get hj]
        have := lnL_in (d := false) (b := nthC (ofC 64 (bN zs))) (lo := 0) (hi := 255) h0 hj
        omega
      · rw [ofC_out (by omega)]; omega
    have h2 : ∀ j, j < 64 → 0 ≤ nthC (ofC 64 (lnL true (nthC (ofC 64 (lnL false (nthC (ofC 64 (bN zs)))))))) j ∧ nthC (ofC 64 (lnL true (nthC (ofC 64 (lnL false (nthC (ofC 64 (bN zs)))))))) j ≤ 4080 := fun j hj => by
      rw [ofC_get hj]
      have := lnL_in (d := true) (b := nthC (ofC 64 (lnL false (nthC (ofC 64 (bN zs)))))) (lo := 0) (hi := 1020) h1 hj
      omega
    have h3 : ∀ j, j < 64 → ((fbB zs j).toNat : Int) = (nthC (ofC 64 (lnL true (nthC (ofC 64 (lnL false (nthC (ofC 64 (bN zs)))))))) j + 8) / 16 := fun j hj => by
      rw [fbB_val hj, ofC_get hj, ln_twice _ hj]
      have : sf2 (nthC (ofC 64 (bN zs))) j = sf2 (bN zs) j := by
        unfold sf2
        refine sof_congr (by omega) (fun v hv => sof_congr (by omega) (fun u hu => ?_))
        exact ofC_get (by omega)
      rw [this]
    have HR := Lib.hid (fun W g t (h : NumsAt W g t (ofC 64 (bN zs))) => lsoftRows_any h (ofC_length _ _) (fun j => by have := h0 j; omega))
    have HC := Lib.hid (fun W g t (h : NumsAt W g t (ofC 64 (lnL false (nthC (ofC 64 (bN zs)))))) => lsoftCols_any h (ofC_length _ _) (fun j => by have := h1 j; omega))
    have HS := Lib.hid (fun W g t (h : NumsAt W g t (ofC 64 (lnL true (nthC (ofC 64 (lnL false (nthC (ofC 64 (bN zs))))))))) => lsamples_any h (ofC_length _ _) (fbB zs) h3 h2)
    obtain ⟨av, cap, rfl, hlen, hcell⟩ := hB
    rw [h64] at *
    clear h0 h1 h2 h3 hcell hcap hE hL
    go_enter Try.func11, Try.ntmps11
    go_wp2_with fail
    refine HN.out.mono ?_
    rintro e w1 ⟨rfl, hm1, hb1⟩
    have HM1 := Lib.hid hm1
    have HB1 := Lib.hid hb1
    clear hm1 hb1
    go_wp2_with fail
    refine (HR.out _ _ _ HM1.out).mono ?_
    rintro e w2 ⟨rfl, hm2, hb2⟩
    have HM2 := Lib.hid hm2
    have HB2 := Lib.hid (HB1.out.trans (hb2.mono HB1.out.size))
    clear hm2 hb2
    go_wp2_with fail
    refine (HC.out _ _ _ HM2.out).mono ?_
    rintro e w3 ⟨rfl, hm3, hb3⟩
    have HM3 := Lib.hid hm3
    have HB3 := Lib.hid (HB2.out.trans (hb3.mono HB2.out.size))
    clear hm3 hb3
    go_wp2_with fail
    refine (HS.out _ _ _ HM3.out).mono ?_
    rintro e w4 ⟨v4, rfl, ho4, hb4⟩
    have HO4 := Lib.hid (ownsRow_baseN ho4 HB3.out.size)
    have HB4 := Lib.hid (HB3.out.trans (hb4.mono HB3.out.size))
    clear ho4 hb4
    go_wp2_with fail
    go_ret2
    exact ⟨_, rfl, HO4.out, HB4.out⟩
  · have hE : fbE zs.length = 2 := if_neg h64
    have hL : fbL zs = [] := if_neg h64
    rw [hE, hL]
    obtain ⟨av, cap, rfl, hlen, hcell⟩ := hB
    have t1 : ((zs.length : Int) != 64) = true := by simp; omega
    clear hcell hcap hE hL
    go_enter Try.func11, Try.ntmps11
    go_wp2
    go_ret2
    exact ⟨_, rfl, World.ownsRow_nil _ _ _ _, Below.refl _ _⟩

theorem loopI : LoopI where
  soften := fun hR hn hlen _ => lSoften_any hR hn hlen
  filter := fun hB hn hc => lFilter_any hB hn hc

end Go.Proofs.Ytdpnmddjhlkbjaa
