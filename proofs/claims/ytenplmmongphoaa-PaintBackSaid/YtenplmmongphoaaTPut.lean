/- paint: a block's samples taken out of a picture, and laid into one (praxinoscope/paint). -/
import Derived.Test.YtenplmmongphoaaTRow
import Derived.Test.YtenplmmongphoaaTPic
import Derived.Test.YtenplmmongphoaaTPlain
import Derived.Test.YtenplmmongphoaaGAns
namespace Go.Proofs.Ytenplmmongphoaa
open Go.RowKit Go.Shelf Go.Sort
set_option linter.unusedVariables false
attribute [local go_sem] Oper.semAt_some

/-- where the k-th sample of a block stands whose first one stands at P, and whose rows are q apart -/
def psN (P q k : Nat) : Nat := P + k / 8 * q + k % 8
theorem psN_row (P q : Nat) {i j : Nat} (hj : j < 8) : psN P q (8 * i + j) = P + q * i + j := by
  unfold psN
  rw [show (8 * i + j) / 8 = i by omega, show (8 * i + j) % 8 = j by omega, Nat.mul_comm]
theorem splice_get {α : Type} (L : List α) (off : Nat) (cs : List α) (h : off + cs.length ≤ L.length) (p : Nat) :
    (splice L off cs)[p]? = if off ≤ p ∧ p < off + cs.length then cs[p - off]? else L[p]? := by
  unfold splice
  by_cases h1 : p < off
  · rw [if_neg (by omega), List.getElem?_append_left (by simp; omega), List.getElem?_take, if_pos h1]
  · rw [List.getElem?_append_right (by simp; omega), List.length_take, Nat.min_eq_left (by omega)]
    by_cases h2 : p < off + cs.length
    · rw [if_pos ⟨by omega, h2⟩, List.getElem?_append_left (by omega)]
    · rw [if_neg (by omega), List.getElem?_append_right (by omega), List.getElem?_drop, show off + cs.length + (p - off - cs.length) = p by omega]
theorem splice_snoc {α : Type} (L : List α) (off : Nat) (cs : List α) (x : α) (h : off + cs.length < L.length) : splice L off (cs ++ [x]) = (splice L off cs).set (off + cs.length) x := by
  apply List.ext_getElem?
  intro p
  rw [splice_get _ _ _ (by simp; omega), List.getElem?_set, splice_get _ _ _ (by omega), length_splice _ _ _ (by omega)]
  simp only [List.length_append, List.length_cons, List.length_nil]
  by_cases e : off + cs.length = p
  · rw [if_pos (by omega), if_pos e, if_pos (by omega), List.getElem?_append_right (by omega), show p - off - cs.length = 0 by omega]
    rfl
  · rw [if_neg e]
    by_cases e2 : off ≤ p ∧ p < off + cs.length
    · rw [if_pos (by omega), if_pos e2, List.getElem?_append_left (by omega)]
    · rw [if_neg (by omega), if_neg e2]
/-- a row of samples laid: one after another -/
theorem putT_splice (p : Nat → Nat) (V : Nat → UInt8) (zs : List UInt8) (m at_ : Nat) : ∀ n, (∀ j, j < n → p (m + j) = at_ + j) → at_ + n ≤ zs.length →
    putT p V zs (m + n) = splice (putT p V zs m) at_ ((List.range n).map fun j => V (m + j)) := by
  intro n
  induction n with
  | zero => intro _ _; simp [splice]
  | succ n ih =>
    intro hp hl
    show (putT p V zs (m + n)).set (p (m + n)) (V (m + n)) = _
    rw [ih (fun j hj => hp j (by omega)) (by omega), List.range_succ, List.map_append, List.map_cons, List.map_nil, splice_snoc _ _ _ _ (by rw [putT_length]; simp; omega), hp n (by omega)]
    simp
theorem putT_cong {p p' : Nat → Nat} {V V' : Nat → UInt8} (zs : List UInt8) : ∀ n, (∀ k, k < n → p k = p' k) → (∀ k, k < n → V k = V' k) → putT p V zs n = putT p' V' zs n := by
  intro n
  induction n with
  | zero => intro _ _; rfl
  | succ n ih =>
    intro h1 h2
    show (putT p V zs n).set (p n) (V n) = (putT p' V' zs n).set (p' n) (V' n)
    rw [ih (fun k hk => h1 k (by omega)) (fun k hk => h2 k (by omega)), h1 n (by omega), h2 n (by omega)]
/-- samples taken, so many of them -/
theorem upU_splice (F : Nat → UInt8) (m : Nat) : ∀ n, m + n ≤ 64 → upU F (m + n) = splice (upU F m) m ((List.range n).map fun j => F (m + j)) := by
  intro n
  induction n with
  | zero => intro _; simp [splice]
  | succ n ih =>
    intro hl
    rw [show m + (n + 1) = (m + n) + 1 by omega, ← upU_step F (by omega), ih (by omega), List.range_succ, List.map_append, List.map_cons, List.map_nil, splice_snoc _ _ _ _ (by rw [upU_length]; simp; omega)]
    simp
theorem pic_splice (pre post : List Value) (zs us : List UInt8) (at_ : Nat) (h : at_ + us.length ≤ zs.length) : splice (pre ++ (u8s zs ++ post)) (pre.length + at_) (u8s us) = pre ++ (u8s (splice zs at_ us) ++ post) := by
  have hl : (splice zs at_ us).length = zs.length := length_splice _ _ _ h
  apply List.ext_getElem?
  intro p
  rw [splice_get _ _ _ (by simp only [List.length_append, List.length_map]; omega)]
  simp only [List.length_map]
  by_cases h1 : p < pre.length
  · rw [if_neg (by omega), List.getElem?_append_left h1, List.getElem?_append_left h1]
  · rw [List.getElem?_append_right (l₁ := pre) (l₂ := u8s zs ++ post) (by omega), List.getElem?_append_right (l₁ := pre) (l₂ := u8s (splice zs at_ us) ++ post) (by omega)]
    by_cases h2 : p - pre.length < zs.length
    · rw [List.getElem?_append_left (l₁ := u8s zs) (by rw [List.length_map]; exact h2), List.getElem?_append_left (l₁ := u8s (splice zs at_ us)) (by rw [List.length_map, hl]; exact h2), List.getElem?_map, List.getElem?_map, List.getElem?_map, splice_get _ _ _ h]
      by_cases h3 : at_ ≤ p - pre.length ∧ p - pre.length < at_ + us.length
      · rw [if_pos (by omega), if_pos h3, show p - (pre.length + at_) = p - pre.length - at_ by omega]
      · rw [if_neg (by omega), if_neg h3]
    · rw [if_neg (by omega), List.getElem?_append_right (l₁ := u8s zs) (by rw [List.length_map]; omega), List.getElem?_append_right (l₁ := u8s (splice zs at_ us)) (by rw [List.length_map, hl]; omega), List.length_map, List.length_map, hl]

theorem wpListIn_copyZ {F : Fence} {n : Nat} {P : Program} {ops : Array Oper} {rest : List Oper} {o : Oper} {a : Act} {w : World} {Q : Exit → Act → World → Prop} (hgd : o.guard = none) (d s : Operand) (dT sT : TypeId)
    (ho : o.op = .call { callee := .builtin .copy, args := #[d, s], argTypes := #[dT, sT] }) (v u : Value) (hd : a.eval d = v) (hs : a.eval s = u) {v' : Value} {w' : World}
    (hr : (Builtin.copy_ #[dT, sT] o.type #[v, u]).run P w = .ok v' w') (h : wpListIn F n P ops Q rest (a.put o.dst v') w') : wpListIn F n P ops Q (o :: rest) a w :=
  wpListIn_valZ hgd (by simp [Oper.about, ho, resolve, Target.leads]) (by rw [ho]; intro c hc; cases hc) (by unfold execOp; simp [ho, resolve, invoke, builtin, hd, hs, hr, Result.andThen]) h

theorem held_under : Try.prog.underlying 66 = some (.array 64 5) := by kernel_rfl
theorem held_info : (Try.prog.info? 66).map (·.size) = some 64 := by kernel_rfl
theorem held_zero : (Try.prog.info? 66).map (·.zero) = some (some (.agg (u8s zeroB64).toArray)) := by kernel_rfl
theorem run_slice_held (W : World) (g x : Nat) (hx : x < 8) : (Instr.sliceAt 66 (.pointer (some ⟨g, 0, none⟩)) (some (.int .i64 (8 * (x : Int)))) none none).run Try.prog W = .ok (.slice (some ⟨g, 8 * x, none⟩) (64 - 8 * x) (64 - 8 * x)) W := by
  have hl : Try.prog.arrayLen 66 = 64 := by kernel_rfl
  have he : Try.prog.elem 66 = 5 := by kernel_rfl
  have hz : (sizeOf 5).run Try.prog W = .ok 1 W := by kernel_rfl
  rw [run_sliceAt_array_l W _ _ (by rw [hl, he]; exact held_under) .i64 _ (by omega) (by rw [hl]; omega), he, hl, hz]
  have e1 : (8 * (x : Int)).toNat = 8 * x := by omega
  simp only [Result.andThen_ok, slicedAt, e1, Nat.mul_one]
  rw [if_neg (by omega)]
  have hadd : (⟨g, 0, none⟩ : Addr).add (8 * x) = ⟨g, 8 * x, none⟩ := by unfold Addr.add; split <;> simp_all
  rw [hadd]
/-- 64 samples in a block of their own -/
def HeldAt (W : World) (g : Nat) (us : List UInt8) : Prop := W.heap[g]? = some (.cells (u8s us).toArray 66 (0, 0))
theorem HeldAt.lt {W : World} {g : Nat} {us : List UInt8} (h : HeldAt W g us) : g < W.heap.size := (Array.getElem?_eq_some_iff.1 h).1
theorem HeldAt.at {W W' : World} {g : Nat} {us : List UInt8} (h : HeldAt W g us) (e : W'.heap[g]? = W.heap[g]?) : HeldAt W' g us := e.trans h
theorem HeldAt.cell {W : World} {g : Nat} {us : List UInt8} (h : HeldAt W g us) {k : Nat} (hk : k < us.length) : W.cell? ⟨g, k, none⟩ = some (.int .u8 (us[k]?.getD 0).toNat) := by
  unfold HeldAt at h
  simp [World.cell?, h, u8s, hk]

theorem Bar.thenBelow {S : Nat → Prop} {a b c : World} {n : Nat} (h : Bar S a b) (k : Below n b c) (hn : a.heap.size ≤ n) : Bar S a c :=
  h.trans (T := fun j => n ≤ j) ⟨k.os, k.tape, k.output, k.size, fun j _ hj => k.block j (by omega)⟩ (fun j hj e => by omega)

set_option maxRecDepth 100000 in
set_option maxHeartbeats 4000000 in
/-- samples laid at a place -/
theorem tlays_any {W : World} {G cap : Nat} {pre post : List Value} {zs us : List UInt8} {P q : Nat} (hP : PicW W G pre zs post) (hcap : zs.length ≤ cap) (hl : zs.length ≤ 1000000) (hfit : P + q * 7 + 8 ≤ zs.length) (hus : us.length = 64) :
    Calls Try.prog 43 #[.agg #[.int .i64 (P : Int), .int .i64 (q : Int)], .slice (some ⟨G, pre.length, none⟩) zs.length cap, .agg (u8s us).toArray] W fun e W' => e = .returned (.tuple #[]) ∧ PicW W' G pre (putT (psN P q) (fun k => us[k]?.getD 0) zs 64) post ∧ Bar (fun k => k = G) W W' := by
  have HR := Lib.hid (fun a len cap w => trows_in Fence.wide (40 - 1) trivial rfl (P : Int) (q : Int) a len cap w)
  have HT := Lib.hid (fun (pb bb : Nat) (w0 : World) => trows_T (40 - 1) (by omega) pb bb G pre.length P q zs.length cap hfit hcap hl w0)
  have hG := hP.lt
  have HPs := Lib.hid (fun (x : Nat) (hx : x < 8) => putT_splice (psN P q) (fun k => us[k]?.getD 0) zs (8 * x) (P + q * x) 8 (fun j hj => psN_row P q hj) (by have : q * x ≤ q * 7 := Nat.mul_le_mul_left _ (by omega); omega))
  have HLn := Lib.hid (fun k => putT_length (psN P q) (fun k => us[k]?.getD 0) zs k)
  have HFit : Hid (∀ x, x < 8 → P + q * x + 8 ≤ zs.length) := fun x hx => by have : q * x ≤ q * 7 := Nat.mul_le_mul_left _ (by omega); omega
  have HP := Lib.hid hP
  have HU := Lib.hid hus
  clear hP hfit hus
  generalize hzl : zs.length = zl at *
  obtain ⟨PT, hPT⟩ : ∃ PT, PT = putT (psN P q) (fun k => us[k]?.getD 0) zs := ⟨_, rfl⟩
  have hPT0 : PT 0 = zs := by rw [hPT]; rfl
  rw [← hPT] at HPs HLn ⊢
  clear hPT
  refine (callsIn_wide (n := 40)).1 ?_
  refine callsIn_of_wp_marks Try.func43 rfl trivial ?_ rfl
  simp only [Try.ntmps43, List.size_toArray, List.length_cons, List.length_nil, Nat.reduceAdd, Nat.reduceSub, Array.replicate_succ, Array.replicate_zero, List.push_toArray, List.append_toArray, List.nil_append, List.cons_append]
  gi_wp2_with (refine ⟨trivial, ?_⟩; gi_at_call 59; refine (HR.out _ _ _ _).mono ?_; rintro e w' ⟨rfl, rfl⟩)
  obtain ⟨w1, hw⟩ : ∃ w1, ((((W.alloc (.cells #[.int .i64 (P : Int), .int .i64 (q : Int)] 61)).alloc (.cells (u8s us).toArray 66)).alloc (.cells #[.int .i64 (P : Int), .int .i64 (q : Int)] 61)).alloc (.cells #[.slice (some ⟨G, pre.length, none⟩) zl cap] 22)) = w1 := ⟨_, rfl⟩
  rw [hw]
  have hz1 : w1.heap.size = W.heap.size + 4 := by rw [← hw]; simp
  have hb1 : Below W.heap.size W w1 := by rw [← hw]; exact ((((Below.refl _ W).alloc (Nat.le_refl _) _).alloc (by simp) _).alloc (by simp; omega) _).alloc (by simp; omega) _
  have q1 : HeldAt w1 (W.heap.size + 1) us := by rw [← hw]; exact heap_keep (heap_keep (heap_new _ (by simp) _) _) _
  have q2 : w1.heap[W.heap.size + 1 + 1]? = some (.cells #[.int .i64 (P : Int), .int .i64 (q : Int)] 61 (0, 0)) := by rw [← hw]; exact heap_keep (heap_new _ (by simp) _) _
  have q3 : w1.heap[W.heap.size + 1 + 1 + 1]? = some (.cells #[.slice (some ⟨G, pre.length, none⟩) zl cap] 22 (0, 0)) := by rw [← hw]; exact heap_new _ (by simp) _
  have hp1 := HP.out.below hb1 hG
  clear hw
  refine wpIn_range_T rfl (by omega) (gf := 77) (lb := #[.pointer (some ⟨W.heap.size + 1 + 1, 0, none⟩), .pointer (some ⟨W.heap.size + 1 + 1 + 1, 0, none⟩)]) rfl trivial (enters_of Try.func77 (by kernel_rfl) rfl)
    (HT.out (W.heap.size + 1 + 1) (W.heap.size + 1 + 1 + 1) w1 ⟨_, q2⟩ ⟨_, q3⟩) (fun h k => h.t k) (fun W' r o' hl => ⟨World.putObj_heap_other (by omega), World.putObj_heap_other (by omega)⟩) (Below.refl _ _) (fun _ => rfl)
    (fun x Wx => PicW Wx G pre (PT (8 * x)) post ∧ Bar (fun k => k = G) W Wx ∧ HeldAt Wx (W.heap.size + 1) us)
    (fun _ _ _ => False)
    ?hI (fun _ _ _ _ h _ => h) ?h0 ?hround ?hdone (fun _ _ _ _ _ _ h _ => h.elim)
  case hI =>
    rintro x A B ⟨h1, h2, h3⟩ hb
    exact ⟨h1.below hb (by omega), h2.thenBelow hb (by omega), h3.at (hb.block _ (by omega))⟩
  case h0 => exact ⟨by rw [show 8 * 0 = 0 from rfl, hPT0]; exact hp1, bar_of_below hb1, q1⟩
  case hround =>
    rintro x Wx ⟨h1, h2, h3⟩ hxz hx
    clear q1 q2 q3 hb1 hp1
    gi_wp2
    refine ⟨KeepsHi.refl _ _, KpT.r, fun W2 hb2 hz2 hot => ?_⟩
    have hk : ∀ b, b < W.heap.size + 4 → W2.heap[b]? = Wx.heap[b]? := fun b hb => hot b (by omega)
    replace h1 : PicW W2 G pre (PT (8 * x)) post := (hk G (by omega)).trans h1
    replace h2 := h2.thenBelow hb2 (by omega)
    replace h3 := h3.at (hk _ (by omega))
    obtain ⟨us8, hus8⟩ : ∃ us8 : List UInt8, us8 = (List.range 8).map fun j => us[8 * x + j]?.getD 0 := ⟨_, rfl⟩
    have hl8 : us8.length = 8 := by rw [hus8]; simp
    have hst := HPs.out x hx
    rw [← hus8] at hst
    have hc8 : ∀ j v, (u8s us8)[j]? = some v → W2.cell? ((⟨W.heap.size + 1, 8 * x, none⟩ : Addr).add j) = some v := by
      intro j v hv
      have hj : j < 8 := by have := (List.getElem?_eq_some_iff.1 hv).1; simpa [hl8] using this
      have hadd : (⟨W.heap.size + 1, 8 * x, none⟩ : Addr).add j = ⟨W.heap.size + 1, 8 * x + j, none⟩ := by unfold Addr.add; split <;> simp_all
      rw [hadd, h3.cell (by rw [HU.out]; omega), ← hv, hus8]
      simp [hj]
    have hft := HFit.out x hx
    have hln := HLn.out (8 * x)
    obtain ⟨w3, hrun, hcp⟩ := run_copy_bar (P := Try.prog) (w := W2) 22 22 3 5 Try.underlying22 info1_byte (some ⟨G, pre.length + (P + q * x), none⟩) (some ⟨W.heap.size + 1, 8 * x, none⟩) 8 (cap - (P + q * x)) (64 - 8 * x) (64 - 8 * x) G (pre.length + (P + q * x)) (pre ++ (u8s (PT (8 * x)) ++ post)) 5 h1 (u8s us8) (by rw [List.length_map, hl8]; exact (Nat.min_eq_right (by omega)).symm) (fun _ => ⟨rfl, _, rfl, hc8⟩) (by rw [List.length_map, hl8, List.length_append, List.length_append, List.length_map, hln]; omega) u8s_one
    rw [pic_splice _ _ _ _ _ (by rw [hl8, hln]; omega), ← hst] at hcp
    have hx8 : (8 * x + 8) = 8 * (x + 1) := by omega
    rw [hx8] at hcp
    have HC3 := Lib.hid hcp
    have H2 := Lib.hid h2
    have H3 := Lib.hid h3
    have HK := Lib.hid hk
    rw [List.length_map, hl8] at hrun
    have z1 : (x : Int) < 8 := by omega
    have hsl := run_slice_held W2 (W.heap.size + 1) x hx
    clear h1 h2 h3 hc8 hcp hst hk hus8 hft hln hot hb2
    generalize q * x = qx at *
    gi_wp2_with (with_reducible refine wpListIn_copyZ rfl (.tmp 13) (.tmp 15) 22 22 rfl _ _ rfl rfl hrun ?_)
    have hbr := HC3.out.2
    refine ⟨⟨hbr.size, fun k hB hm => hbr.block k (by omega) (by omega)⟩, ⟨hbr.block _ (by omega) (by omega), hbr.block _ (by omega) (by omega)⟩, HC3.out.1, H2.out.trans hbr (fun _ _ h => h), H3.out.at (hbr.block _ (by omega) (by omega))⟩
  case hdone =>
    rintro D W' rfl ⟨h1, h2, h3⟩ hD
    have H1 := Lib.hid h1
    have H2 := Lib.hid h2
    clear h1 h2 h3
    gi_wp2
    refine leaves_one (D := w1.heap.size) hD (fun W3 hb => ⟨.tuple #[], results_none rfl _ _ _, rfl, H1.out.bar hb (by omega), H2.out.trans hb (fun j hj e => by omega)⟩)

theorem HeldAt.cells {W : World} {g : Nat} {us : List UInt8} (h : HeldAt W g us) : ∀ j v, (u8s us)[j]? = some v → W.cell? ((⟨g, 0, none⟩ : Addr).add j) = some v := by
  intro j v hv
  have hj : j < us.length := by have := (List.getElem?_eq_some_iff.1 hv).1; simpa using this
  have hadd : (⟨g, 0, none⟩ : Addr).add j = ⟨g, j, none⟩ := by unfold Addr.add; split <;> simp_all
  rw [hadd, h.cell hj, ← hv]
  simp [hj]
theorem u8s_all (us : List UInt8) : (u8s us).toArray.all (·.oneCell') = true := by
  rw [Array.all_eq_true_iff_forall_mem]
  intro u hu
  exact u8s_one u (by simpa using hu)

set_option maxRecDepth 100000 in
set_option maxHeartbeats 4000000 in
/-- samples taken at a place -/
theorem ttake_any {W : World} {b2 off2 cap : Nat} {fs : List UInt8} {P q : Nat} (hc : ∀ k, k < fs.length → W.cell? ⟨b2, off2 + k, none⟩ = some (.int .u8 ((fs[k]?.getD 0).toNat))) (hb2 : b2 < W.heap.size) (hcap : fs.length ≤ cap) (hl : fs.length ≤ 1000000) (hfit : P + q * 7 + 8 ≤ fs.length) :
    Calls Try.prog 47 #[.agg #[.int .i64 (P : Int), .int .i64 (q : Int)], .slice (some ⟨b2, off2, none⟩) fs.length cap] W fun e W' => e = .returned (.agg (u8s (upU (fun k => fs[psN P q k]?.getD 0) 64)).toArray) ∧ Below W.heap.size W W' := by
  have HR := Lib.hid (fun a len cap w => trows_in Fence.wide (40 - 1) trivial rfl (P : Int) (q : Int) a len cap w)
  have HT := Lib.hid (fun (pb bb : Nat) (w0 : World) => trows_T (40 - 1) (by omega) pb bb b2 off2 P q fs.length cap hfit hcap hl w0)
  obtain ⟨F, hF⟩ : ∃ F : Nat → UInt8, F = fun k => fs[psN P q k]?.getD 0 := ⟨_, rfl⟩
  have HUp := Lib.hid (fun (x : Nat) (hx : x < 8) => upU_splice F (8 * x) 8 (by omega))
  have HF : Hid (∀ x j, x < 8 → j < 8 → F (8 * x + j) = fs[P + q * x + j]?.getD 0) := fun x j hx hj => by rw [hF]; simp only [psN_row P q hj]
  have HFit : Hid (∀ x, x < 8 → P + q * x + 8 ≤ fs.length) := fun x hx => by have : q * x ≤ q * 7 := Nat.mul_le_mul_left _ (by omega); omega
  have HC := Lib.hid hc
  rw [← hF]
  clear hc hfit hF
  refine (callsIn_wide (n := 40)).1 ?_
  refine callsIn_of_wp_marks Try.func47 rfl trivial ?_ rfl
  simp only [Try.ntmps47, List.size_toArray, List.length_cons, List.length_nil, Nat.reduceAdd, Nat.reduceSub, Array.replicate_succ, Array.replicate_zero, List.push_toArray, List.append_toArray, List.nil_append, List.cons_append]
  gi_wp2_with (first
    | (with_reducible refine wpListIn_allocZ rfl 66 (u8s zeroB64).toArray rfl held_zero ?_)
    | (refine ⟨trivial, ?_⟩; gi_at_call 59; refine (HR.out _ _ _ _).mono ?_; rintro e w' ⟨rfl, rfl⟩))
  obtain ⟨w1, hw⟩ : ∃ w1, (((((W.alloc (.cells #[.int .i64 (P : Int), .int .i64 (q : Int)] 61)).alloc (.cells (u8s zeroB64).toArray 66)).alloc (.cells (u8s zeroB64).toArray 66)).alloc (.cells #[.int .i64 (P : Int), .int .i64 (q : Int)] 61)).alloc (.cells #[.slice (some ⟨b2, off2, none⟩) fs.length cap] 22)) = w1 := ⟨_, rfl⟩
  rw [hw]
  have hz1 : w1.heap.size = W.heap.size + 5 := by rw [← hw]; simp
  have hb1 : Below W.heap.size W w1 := by rw [← hw]; exact (((((Below.refl _ W).alloc (Nat.le_refl _) _).alloc (by simp) _).alloc (by simp; omega) _).alloc (by simp; omega) _).alloc (by simp; omega) _
  have q0 : w1.heap[W.heap.size + 1]? = some (.cells (u8s zeroB64).toArray 66 (0, 0)) := by rw [← hw]; exact heap_keep (heap_keep (heap_keep (heap_new _ (by simp) _) _) _) _
  have q1 : HeldAt w1 (W.heap.size + 1 + 1) (upU F 0) := by rw [upU_zero, ← hw]; exact heap_keep (heap_keep (heap_new _ (by simp) _) _) _
  have q2 : w1.heap[W.heap.size + 1 + 1 + 1]? = some (.cells #[.int .i64 (P : Int), .int .i64 (q : Int)] 61 (0, 0)) := by rw [← hw]; exact heap_keep (heap_new _ (by simp) _) _
  have q3 : w1.heap[W.heap.size + 1 + 1 + 1 + 1]? = some (.cells #[.slice (some ⟨b2, off2, none⟩) fs.length cap] 22 (0, 0)) := by rw [← hw]; exact heap_new _ (by simp) _
  clear hw
  refine wpIn_range_T rfl (by omega) (gf := 77) (lb := #[.pointer (some ⟨W.heap.size + 1 + 1 + 1, 0, none⟩), .pointer (some ⟨W.heap.size + 1 + 1 + 1 + 1, 0, none⟩)]) rfl trivial (enters_of Try.func77 (by kernel_rfl) rfl)
    (HT.out (W.heap.size + 1 + 1 + 1) (W.heap.size + 1 + 1 + 1 + 1) w1 ⟨_, q2⟩ ⟨_, q3⟩) (fun h k => h.t k) (fun W' r o' hl => ⟨World.putObj_heap_other (by omega), World.putObj_heap_other (by omega)⟩) (Below.refl _ _) (fun _ => rfl)
    (fun x Wx => HeldAt Wx (W.heap.size + 1 + 1) (upU F (8 * x)) ∧ Below W.heap.size W Wx ∧ Wx.heap[W.heap.size + 1]? = some (.cells (u8s zeroB64).toArray 66 (0, 0)))
    (fun _ _ _ => False)
    ?hI (fun _ _ _ _ h _ => h) ?h0 ?hround ?hdone (fun _ _ _ _ _ _ h _ => h.elim)
  case hI =>
    rintro x A B ⟨h1, h2, h3⟩ hb
    exact ⟨h1.at (hb.block _ (by omega)), h2.trans (hb.mono (by omega)), (hb.block _ (by omega)).trans h3⟩
  case h0 => exact ⟨q1, hb1, q0⟩
  case hround =>
    rintro x Wx ⟨h1, h2, h3⟩ hxz hx
    clear q0 q1 q2 q3 hb1
    gi_wp2
    refine ⟨KeepsHi.refl _ _, KpT.r, fun W2 hb2' hz2 hot => ?_⟩
    have hk : ∀ b, b < W.heap.size + 5 → W2.heap[b]? = Wx.heap[b]? := fun b hb => hot b (by omega)
    replace h1 := h1.at (hk _ (by omega))
    replace h2 := h2.trans (hb2'.mono (by omega))
    replace h3 := (hk _ (by omega)).trans h3
    obtain ⟨us8, hus8⟩ : ∃ us8 : List UInt8, us8 = (List.range 8).map fun j => F (8 * x + j) := ⟨_, rfl⟩
    have hl8 : us8.length = 8 := by rw [hus8]; simp
    have hst := HUp.out x hx
    rw [← hus8] at hst
    have hft := HFit.out x hx
    have hc8 : ∀ j v, (u8s us8)[j]? = some v → W2.cell? ((⟨b2, off2 + (P + q * x), none⟩ : Addr).add j) = some v := by
      intro j v hv
      have hj : j < 8 := by have := (List.getElem?_eq_some_iff.1 hv).1; simpa [hl8] using this
      have hadd : (⟨b2, off2 + (P + q * x), none⟩ : Addr).add j = ⟨b2, off2 + (P + q * x + j), none⟩ := by unfold Addr.add; split <;> simp_all <;> omega
      rw [hadd, h2.cell (by simpa using hb2), HC.out _ (by omega), ← hv, hus8, ← HF.out x j hx hj]
      simp [hj]
    obtain ⟨w3, hrun, hcp⟩ := run_copy_bar (P := Try.prog) (w := W2) 22 22 3 5 Try.underlying22 info1_byte (some ⟨W.heap.size + 1 + 1, 8 * x, none⟩) (some ⟨b2, off2 + (P + q * x), none⟩) (64 - 8 * x) (64 - 8 * x) 8 (cap - (P + q * x)) (W.heap.size + 1 + 1) (8 * x) (u8s (upU F (8 * x))) 66 h1 (u8s us8) (by rw [List.length_map, hl8]; exact (Nat.min_eq_left (by omega)).symm) (fun _ => ⟨rfl, _, rfl, hc8⟩) (by rw [List.length_map, hl8, List.length_map, upU_length]; omega) u8s_one
    rw [u8s_splice, ← hst, show 8 * x + 8 = 8 * (x + 1) by omega] at hcp
    have HC3 := Lib.hid hcp
    have H2 := Lib.hid h2
    have H3 := Lib.hid h3
    rw [List.length_map, hl8] at hrun
    have z1 : (x : Int) < 8 := by omega
    have hsl := run_slice_held W2 (W.heap.size + 1 + 1) x hx
    clear h1 h2 h3 hc8 hcp hst hk hus8 hft hot hb2'
    generalize q * x = qx at *
    gi_wp2_with (with_reducible refine wpListIn_copyZ rfl (.tmp 14) (.tmp 15) 22 22 rfl _ _ rfl rfl hrun ?_)
    have hbr := HC3.out.2
    have hbs := H2.out.size
    refine ⟨⟨hbr.size, fun k hB hm => hbr.block k (by omega) (by omega)⟩, ⟨hbr.block _ (by omega) (by omega), hbr.block _ (by omega) (by omega)⟩, HC3.out.1, H2.out.trans (hbr.below (by omega) (fun j hj e => by omega)), (hbr.block _ (by omega) (by omega)).trans H3.out⟩
  case hdone =>
    rintro D W' rfl ⟨h1, h2, h3⟩ hD
    have HAc := Lib.hid h1
    have H2 := Lib.hid h2
    have HRs := Lib.hid h3
    have HD := Lib.hid hD
    have HLs : Hid ((u8s (upU F (8 * 8))).length = 64) := by show (u8s (upU F (8 * 8))).length = 64; rw [List.length_map, upU_length]
    have HLz : Hid ((u8s (upU F (8 * 8))).toArray.size = 64) := by show (u8s (upU F (8 * 8))).toArray.size = 64; rw [List.size_toArray]; exact HLs.out
    have HZ : Hid ((u8s zeroB64).toArray.size = 64) := rfl
    clear h1 h2 h3 hD q0 q1 q2 q3
    gi_wp2_with (first
      | (with_reducible refine wpListIn_loadZ rfl 66 _ rfl ⟨W.heap.size + 1 + 1, 0, none⟩ rfl (u8s (upU F (8 * 8))) HAc.out.cells 64 5 held_under 64 HLs.out held_info ?_)
      | (with_reducible refine wpListIn_storeZ rfl 66 _ _ rfl (W.heap.size + 1) (u8s (upU F (8 * 8))).toArray rfl rfl 66 (u8s zeroB64).toArray HRs.out 64 HLz.out held_info HZ.out (u8s_all _) ?_))
    have hR5 : (W'.setRow (W.heap.size + 1) (u8s (upU F (8 * 8))).toArray).heap[W.heap.size + 1]? = some (.cells (u8s (upU F (8 * 8))).toArray 66 (0, 0)) := setRow_heap W' _ _ _ _ _ HRs.out
    refine leaves_one (D := w1.heap.size) ((setRow_other _ _ _ _ (by omega)).trans HD.out) (fun W3 hb => ⟨.agg (u8s (upU F (8 * 8))).toArray, ?_, rfl, (below_setRowZ H2.out (by omega) _).trans (hb.below ?_ (fun j hj e => by omega))⟩)
    · exact results_cell_row rfl _ _ (W.heap.size + 1) 66 _ (0, 0) (.array 64 5) rfl ((hb.block _ (Array.getElem?_eq_some_iff.1 hR5).1 (by omega)).trans hR5) held_under rfl (by rw [HLz.out]; exact held_info)
    · have := H2.out.size; simpa using this

end Go.Proofs.Ytenplmmongphoaa
