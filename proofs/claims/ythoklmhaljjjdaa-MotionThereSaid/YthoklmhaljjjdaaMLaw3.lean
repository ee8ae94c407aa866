/- motion: MotionFetches (praxinoscopelaw14), over the record. -/
import Derived.Test.YthoklmhaljjjdaaMLaw2
import Derived.Lib.QuietBelow
namespace Go.Proofs.Ythoklmhaljjjdaa
open Go.RowKit Go.Shelf Go.Sort
set_option linter.unusedVariables false

/-- a scene's bytes, the first m of them -/
theorem scene_byt {w : World} {g n₀ : Nat} {zs : List UInt8} (h : w.heap[g]? = some (.cells (u8s zs).toArray 5 (0, 0))) (hg : g < n₀) (m cap : Nat) (hm : m ≤ zs.length) (hl : zs.length ≤ 1000000) : Byt n₀ w (.slice (some ⟨g, 0, none⟩) m cap) (zs.take m) := by
  have hlm : (zs.take m).length = m := by simp; omega
  refine ⟨_, cap, by rw [hlm], by omega, .inr ⟨g, 0, rfl, hg, fun j hj => ?_⟩⟩
  rw [hlm] at hj
  unfold World.cell?
  simp only
  rw [h]
  have hj2 : j < zs.length := by omega
  simp [u8s, hj2, hj]
theorem scene_src {w : World} {g : Nat} {zs : List UInt8} (h : w.heap[g]? = some (.cells (u8s zs).toArray 5 (0, 0))) (m : Nat) (hm : m ≤ zs.length) : Src w (some ⟨g, 0, none⟩) m (u8s (zs.take m)) := by
  refine ⟨by simp [u8s]; omega, .inr ⟨_, rfl, fun j u hu => ?_⟩⟩
  have hadd : (⟨g, 0, none⟩ : Addr).add j = ⟨g, 0 + j, none⟩ := by unfold Addr.add; split <;> simp_all
  rw [hadd, Nat.zero_add]
  unfold World.cell?
  simp only
  rw [h]
  have hj : j < (u8s (zs.take m)).length := (List.getElem?_eq_some_iff.1 hu).1
  have hj2 : j < m := by simp [u8s] at hj; omega
  simp [u8s] at hu ⊢
  rw [List.getElem?_take, if_pos hj2] at hu
  simpa using hu

set_option maxRecDepth 100000 in
set_option maxHeartbeats 4000000 in
theorem fetches14_any (I : MotionI) (f g a b x y p q less : Int) (hf : I64 f) (hg : I64 g) (ha : I64 a) (hb : I64 b) (hx : I64 x) (hy : I64 y) (hp : I64 p) (hq : I64 q) (W : World) :
    Calls Try.prog 3 #[spotV f g a, .int .i64 b, .int .i64 x, .int .i64 y, .int .i64 p, .int .i64 q, .int .i64 less] W fun e W' => e = .returned (.bool true) ∧ Below W.heap.size W W' := by
  have HP2 := Lib.hid (fun W => pick_any f 2 W (by omega) (by omega))
  have HPl := Lib.hid (fun W => pick_any less 101 W (by omega) (by omega))
  obtain ⟨r, hr, hr2⟩ : ∃ r : Nat, less % 101 = (r : Int) ∧ r < 101 := ⟨(less % 101).toNat, by omega, by omega⟩
  rw [hr] at HPl
  have hsn : sN (f % 2) ≤ 152064 := by rcases (show f % 2 = 0 ∨ f % 2 = 1 by omega) with h | h <;> rw [h] <;> decide
  have HSc := Lib.hid (fun W => (scene14_any (f % 2) p q hp hq W).mono (R' := fun e W' => ∃ zs : List UInt8, zs.length ≤ 152064 ∧ e = .returned (.slice (some ⟨W.heap.size, 0, none⟩) zs.length zs.length) ∧ W'.heap[W.heap.size]? = some (.cells (u8s zs).toArray 5 (0, 0)) ∧ Below W.heap.size W W') (by
    rintro e W' ⟨zs, h1, h2, h3, h4⟩
    exact ⟨zs, by omega, h2, h3, h4⟩))
  have HFe := Lib.hid (fun (n₀ : Nat) (W : World) (sv : Value) (zs : List UInt8) (hB : Byt n₀ W sv zs) (hn : n₀ ≤ W.heap.size) (hk : Capped sv) => I.fetch f g a b x y hB hn hk hf hg ha hb hx hy)
  have HRF := Lib.hid (fun (n₀ : Nat) (W : World) (sv : Value) (zs : List UInt8) (hB : Byt n₀ W sv zs) (hn : n₀ ≤ W.heap.size) => rfetch14_any hB hn f g a b x y hg ha)
  have HFi := Lib.hid (fun W => I.fits f g a x y W hf hg ha hx hy)
  have HRi := Lib.hid (fun W => rfits14_any f g a x y W hg ha)
  have HML := Lib.hid (fun zs => mL_length f g a b x y zs)
  clear hf hg ha hb hx hy hp hq hr
  generalize fE f g a x y = fe at *
  generalize hF2 : f % 2 = F at *
  clear hF2
  obtain ⟨W1, hW1⟩ : ∃ W1, W.alloc (.cells #[.int .i64 f, .int .i64 g, .int .i64 a] 23 (0, 0)) = W1 := ⟨_, rfl⟩
  have hb1 : Below W.heap.size W W1 := by rw [← hW1]; exact (Below.refl _ W).alloc (Nat.le_refl _) _
  have hz1 : W1.heap.size = W.heap.size + 1 := by rw [← hW1]; simp
  have hbx : SpotAt W1 W.heap.size f g a := ⟨_, by rw [← hW1]; exact World.alloc_heap_new W _⟩
  have B1 := Lib.hid hb1
  obtain ⟨c0, c1, c2⟩ := hbx.cells
  have HBx := Lib.hid hbx
  clear hb1 hbx
  go_enter Try.func3, Try.ntmps3
  go_wp2_with fail
  refine (HP2.out _).mono ?_
  rintro e w' ⟨rfl, rfl⟩
  go_wp2_with fail
  refine (HSc.out _).mono ?_
  rintro e W2 ⟨zs, hzl, rfl, hzs, hb⟩
  have B2 := Lib.hid (below_chain B1.out (Nat.le_refl _) hb)
  have HBx := Lib.hid (HBx.out.later hb)
  have hz2 := hb.size
  have HZ := Lib.hid hzs
  have hg2 := (Array.getElem?_eq_some_iff.1 hzs).1
  clear hb hzs c0 c1 c2
  obtain ⟨m, hm, hmr⟩ : ∃ m : Nat, m ≤ zs.length ∧ max 0 ((zs.length : Int) - (r : Int)) = (m : Int) := ⟨zs.length - r, by omega, by omega⟩
  have hm3 : ((m : Nat) : Int) ≤ (zs.length : Int) := by omega
  go_wp2_with fail
  refine (HPl.out _).mono ?_
  rintro e w' ⟨rfl, rfl⟩
  rw [hz1] at HZ hg2
  go_wp2_with fail
  have hlt : (zs.take m).length = m := by simp; omega
  have HLe := Lib.hid (lent_any (w := W2) (a := some ⟨W.heap.size + 1, 0, none⟩) (cap := zs.length) (zs := zs.take m) (by rw [hlt]; exact scene_src HZ.out m hm) (fun e => nomatch e) (by omega))
  have HS := Lib.hid (scene_byt HZ.out (n₀ := W.heap.size + 2) (by omega) m zs.length hm (by omega))
  have hm4 : m ≤ 152064 := by omega
  rw [hlt] at HLe
  clear hm3 hm hmr HZ
  generalize zs.take m = ms at *
  generalize zs.length = zl at *
  subst hlt
  refine HLe.out.mono ?_
  rintro e W3 ⟨lv, rfl, hl, hb⟩
  have B3 := Lib.hid (below_chain B2.out (Nat.le_refl _) hb)
  have HBx := Lib.hid (HBx.out.later hb)
  have HS := Lib.hid (HS.out.below (hb.mono (by omega)))
  have HL := Lib.hid hl
  have hz3 := hb.size
  have hlb : ∀ k, lv.ownBlock = some k → k < W3.heap.size := by
    obtain ⟨g', cap', rfl, -, hr'⟩ := hl
    exact fun k e => (hr'.lt k (by simpa [Value.ownBlock] using e)).2
  obtain ⟨c0, c1, c2⟩ := HBx.out.cells
  clear hl hb HLe hzl
  go_wp2_with fail
  refine (HFe.out _ _ _ _ (HL.out.byt (by omega)) (Nat.le_refl _) (capped_lent HL.out)).mono ?_
  rintro e W4 ⟨pv, rfl, hop, hb⟩
  have hml := HML.out ms
  have hml2 : (mL f g a b x y ms).length ≤ 64 := by rw [hml]; split <;> omega
  have HRF := Lib.hid (fun n₀ W sv => HRF.out n₀ W sv ms)
  clear hml HML HFe
  generalize mE f g a b x y ms.length = er at *
  have B4 := Lib.hid (below_chain B3.out (Nat.le_refl _) hb)
  have HBx := Lib.hid (HBx.out.later hb)
  have HS := Lib.hid (HS.out.below (hb.mono (by omega)))
  have HL := Lib.hid (HL.out.bar (bar_of_below (S := fun _ => False) hb) (fun _ _ e => e))
  have HO := Lib.hid hop
  have hz4 := hb.size
  clear hop hb c0 c1 c2
  obtain ⟨c0, c1, c2⟩ := HBx.out.cells
  go_wp2_with fail
  refine (HRF.out _ _ _ HS.out (by omega)).mono ?_
  rintro e W5 ⟨qv, rfl, hoq, hb⟩
  clear HRF
  generalize mL f g a b x y ms = ws at *
  have B5 := Lib.hid (below_chain B4.out (Nat.le_refl _) hb)
  have HBx := Lib.hid (HBx.out.later hb)
  have HS := Lib.hid (HS.out.below (hb.mono (by omega)))
  have HL := Lib.hid (HL.out.bar (bar_of_below (S := fun _ => False) hb) (fun _ _ e => e))
  have HO := Lib.hid (ownsRow_bar HO.out (bar_of_below (S := fun _ => False) hb) (fun _ _ e => e))
  have hz5 := hb.size
  have HSm : Hid (∀ w, Below W5.heap.size W5 w → Calls Try.prog 14 #[pv, qv] w fun e w' => e = .returned (.bool true) ∧ Below w.heap.size w w') := fun w hbw => by
    refine (same_any (byt_own (ownsRow_bar HO.out (bar_of_below (S := fun _ => False) hbw) (fun _ _ e => e)) (by omega) (Nat.le_refl _)) (byt_own (ownsRow_bar hoq (bar_of_below (S := fun _ => False) hbw) (fun _ _ e => e)) (by omega) (Nat.le_refl _))).mono ?_
    rintro e w' ⟨rfl, rfl⟩
    exact ⟨by simp, Below.refl _ _⟩
  clear hoq hb c0 c1 c2
  obtain ⟨c0, c1, c2⟩ := HBx.out.cells
  have k0 := cell_regrown c0
  have k1 := cell_regrown c1
  have k2 := cell_regrown c2
  have C1 : ∀ d os, Calls Try.prog 14 #[pv, qv] (grow (redrawn W5 d) os) fun e w'' => e = .returned (.bool true) ∧ ∃ p : Regrown, w'' = grow (redrawn W5 p.d) p.os := fun d os => Calls.regrown_of (HSm.out _ (below_regrown W5 d os))
  have C2 : ∀ d os, Calls Try.prog 15 #[spotV f g a, .int .i64 x, .int .i64 y] (grow (redrawn W5 d) os) fun e w'' => e = .returned (.int .i64 fe) ∧ ∃ p : Regrown, w'' = grow (redrawn W5 p.d) p.os := fun d os => Calls.regrown_of (HFi.out _)
  have C3 : ∀ d os, Calls Try.prog 16 #[spotV f g a, .int .i64 x, .int .i64 y] (grow (redrawn W5 d) os) fun e w'' => e = .returned (.int .i64 fe) ∧ ∃ p : Regrown, w'' = grow (redrawn W5 p.d) p.os := fun d os => Calls.regrown_of (HRi.out _)
  clear HSm HFi HRi
  go_wp2
  refine wp_region_quiet_below (by kernel_rfl) (by kernel_rfl) ?_
  iterate 9 quiet_step ((go_at_call 14; exact C1 _ _))
  iterate 7 quiet_step ((go_at_call 15; exact C2 _ _))
  iterate 4 quiet_step ((go_at_call 16; exact C3 _ _))
  refine wpQuiet_nil ?_
  rintro _ ⟨⟨dq, osq⟩, rfl⟩
  have b6 := below_regrown W5 dq osq
  clear C1 C2 C3 k0 k1 k2 c0 c1 c2
  generalize grow (redrawn W5 dq) osq = W6 at *
  have B6 := Lib.hid (below_chain B5.out (Nat.le_refl _) b6)
  have HS := Lib.hid (HS.out.below (b6.mono (by omega)))
  have HL := Lib.hid (HL.out.bar (bar_of_below (S := fun _ => False) b6) (fun _ _ e => e))
  have HO := Lib.hid (ownsRow_bar HO.out (bar_of_below (S := fun _ => False) b6) (fun _ _ e => e))
  have hz6 := b6.size
  clear b6
  go_wp2_with fail
  refine (over_any HO.out (by omega)).mono ?_
  rintro e W7 ⟨rfl, b7⟩
  have hl7 : ∀ k, pv.ownBlock = some k → W3.heap.size ≤ k := fun k e => (HO.out.lt k e).1
  have b7b : Below W3.heap.size W6 W7 := b7.below (by omega) (fun k hk e => by have := hl7 k e; omega)
  have B7 := Lib.hid (B6.out.trans (b7b.mono (by omega)))
  have HS := Lib.hid (HS.out.below (b7b.mono (by omega)))
  have HL := Lib.hid (HL.out.bar b7 (fun k e e' => by have := hl7 k e'; have := hlb k e; omega))
  clear b7 b7b
  go_wp2_with fail
  refine (kept_any HL.out HS.out (by omega)).mono ?_
  rintro e W8 ⟨rfl, b8⟩
  have B8 := Lib.hid (below_chain B7.out (Nat.le_refl _) b8)
  clear b8
  go_wp2_with fail
  refine (awake14_any I _).mono ?_
  rintro e W9 ⟨rfl, b9⟩
  have B9 := Lib.hid (below_chain B8.out (Nat.le_refl _) b9)
  clear b9
  go_wp2
  go_ret
  exact ⟨rfl, B9.out⟩

end Go.Proofs.Ythoklmhaljjjdaa
