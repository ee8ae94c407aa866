/- The contract of (*queue.Queue).Feed. -/
import Derived.Test.YtglnmaekhpaffaaQRing
namespace Go.Proofs.Ytglnmaekhpaffaa
open Go.RowKit Go.Shelf
set_option linter.unusedVariables false

/-- the slice value sv holds the bytes zs, and not in block g -/
def BytA (w : World) (g : Nat) (sv : Value) (zs : List UInt8) : Prop :=
  ∃ a cap, sv = .slice a zs.length cap ∧ zs.length ≤ cap ∧ cap ≤ 9223372036854775807 ∧
    (cap = 0 ∨ ∃ b off, a = some ⟨b, off, none⟩ ∧ (zs ≠ [] → b ≠ g ∧ b < w.heap.size) ∧ ∀ j, j < zs.length → w.cell? ⟨b, off + j, none⟩ = some (.int .u8 ((zs[j]?.getD 0).toNat)))

theorem qfeed_done {w : World} {b g : Nat} {q : Qs} (h : IsQueue w b g q) (sv : Value) (he : q.ended = true) :
    Calls Try.prog 26 #[.pointer (some ⟨b, 0, none⟩), sv] w fun e w' => e = .returned (.tuple #[.int .i64 0, .int .i64 20]) ∧ w = w' := by
  have HM := Lib.hid (qmade_any h)
  obtain ⟨_, _, hb, _⟩ := h
  obtain ⟨c0, c1, c2, c3, c4, c5⟩ := q_cells hb
  rw [he] at c5
  clear hb he
  go_enter Try.func26, Try.ntmps26
  go_wp2_with (go_at_call 54; refine HM.out.mono ?_; rintro e w' ⟨rfl, rfl⟩)
  go_ret2
  exact ⟨rfl, rfl⟩

theorem keep4 {w w' : World} {b g m c n : Nat} (h : w'.heap[b]? = w.heap[b]?)
    (hS : w.cell? ⟨b, 4, none⟩ = some (Value.slice (some ⟨g, 0, none⟩) m m) ∧ w.cell? ⟨b, 1, none⟩ = some (.int .i64 m) ∧ w.cell? ⟨b, 2, none⟩ = some (.int .i64 c) ∧ w.cell? ⟨b, 3, none⟩ = some (.int .i64 n)) :
    w'.cell? ⟨b, 4, none⟩ = some (Value.slice (some ⟨g, 0, none⟩) m m) ∧ w'.cell? ⟨b, 1, none⟩ = some (.int .i64 m) ∧ w'.cell? ⟨b, 2, none⟩ = some (.int .i64 c) ∧ w'.cell? ⟨b, 3, none⟩ = some (.int .i64 n) := by
  simp only [World.cell?, h] at hS ⊢
  exact hS
theorem src_cells {w w' : World} {bb off m k : Nat} {ys : List UInt8} (hc : ∀ j, j < ys.length → w.cell? ⟨bb, off + j, none⟩ = some (.int .u8 ((ys[j]?.getD 0).toNat))) (hk : ys ≠ [] → w'.heap[bb]? = w.heap[bb]?) :
    ∀ j v, (u8s ((ys.drop m).take k))[j]? = some v → w'.cell? ((⟨bb, off + m, none⟩ : Addr).add j) = some v := by
  intro j v hv
  have hadd : (⟨bb, off + m, none⟩ : Addr).add j = ⟨bb, off + (m + j), none⟩ := by unfold Addr.add; split <;> simp_all [Nat.add_assoc]
  simp only [u8s, List.getElem?_map, List.getElem?_take, List.getElem?_drop] at hv
  by_cases hj : j < k
  · rw [if_pos hj] at hv
    by_cases hl : m + j < ys.length
    · rw [List.getElem?_eq_getElem hl] at hv
      simp at hv
      rw [hadd, World.cell?_of_block (hk (fun e => by rw [e] at hl; simp at hl)), hc _ hl, List.getElem?_eq_getElem hl]
      simp [hv]
    · rw [List.getElem?_eq_none (by omega)] at hv; simp at hv
  · rw [if_neg hj] at hv; simp at hv

theorem info1_byte : (Try.prog.info? 5).map (·.size) = some 1 := by kernel_rfl
theorem u8s_one {zs : List UInt8} : ∀ v ∈ u8s zs, v.oneCell' = true := by
  intro u hu; simp at hu; obtain ⟨z, _, rfl⟩ := hu; rfl

/-- the end of Feed: two copies were made, and the count is to be set -/
theorem fed_end {w w2 w3 w4 w5 : World} {b g x k : Nat} {q : Qs} {ring ys : List UInt8} (H : IsQueue w b g q) (b2 : Below w.heap.size w w2) (b3 : Below w2.drew.heap.size w2 w3) (hr : Ringed ring q)
    (hx : x = q.all.length % q.most) (hk : k = min ys.length (q.most - x)) (hys : ys.length + (q.all.length - q.gone / 8) ≤ q.most) (hw4 : Bar (fun k => k = g) w3 w4)
    (hb5 : w5.heap[b]? = some (qCells b g q.most q.all.length q.gone q.ended)) (hg5 : w5.heap[g]? = some (.cells (splice (splice (u8s ring) x (u8s (ys.take k))) 0 (u8s (ys.drop k))).toArray 5 (0, 0)))
    (hw5 : Bar (fun k => k = g) w4.drew w5) (hfit : q.all.length + ys.length ≤ 1099511627776) :
    QDid w (w5.setCell ⟨b, 2, none⟩ (.int .i64 ((q.all.length : Int) + ys.length))) b g { q with all := q.all ++ ys } := by
  obtain ⟨ho, hne, _⟩ := H
  have e : ((q.all.length : Int) + ys.length) = ((q.all.length + ys.length : Nat) : Int) := by omega
  have hs := (q_set hb5).1 (q.all.length + ys.length)
  rw [e]
  refine ⟨⟨⟨ho.1, ho.2, by simp; omega, by have := ho.4; simp; omega, by have := ho.5; have := ho.4; simp; omega⟩, hne, by rw [hs]; simp [qCells], fedRing ring x k ys, ?_, ?_⟩, ?_⟩
  · have := ringed_feed ho hr ys (by omega)
    rw [← hx, ← hk] at this
    exact this
  · rw [heap_setCell_other _ _ _ _ (Ne.symm hne), hg5, u8s_splice, u8s_splice]
    rfl
  · refine Bar.setCell ?_ (fun _ => .inl rfl) _
    have t1 : Bar (fun k => k = b ∨ k = g) w w3 := bar_of_below (b2.trans (b3.mono b2.size))
    have t2 : Bar (fun k => k = b ∨ k = g) w w4 := t1.trans hw4 (fun j _ e => .inr e)
    exact t2.drew.trans hw5 (fun j _ e => .inr e)

set_option maxRecDepth 100000 in
set_option maxHeartbeats 2000000 in
theorem qfeed_some {w : World} {b g : Nat} {q : Qs} (h : IsQueue w b g q) (he : q.ended = false) (bb off n cap : Nat) (ys : List UInt8) (hcap : n ≤ cap) (hcap2 : cap ≤ 9223372036854775807)
    (hys : ys.length = min n (q.most - (q.all.length - q.gone / 8))) (hne : ys ≠ [] → bb ≠ g) (hlt : ys ≠ [] → bb < w.heap.size) (hc : ∀ j, j < ys.length → w.cell? ⟨bb, off + j, none⟩ = some (.int .u8 ((ys[j]?.getD 0).toNat)))
    (hfit : q.all.length + ys.length ≤ 1099511627776) :
    Calls Try.prog 26 #[.pointer (some ⟨b, 0, none⟩), .slice (some ⟨bb, off, none⟩) n cap] w fun e w' => e = .returned (.tuple #[.int .i64 ys.length, .int .i64 0]) ∧ QDid w w' b g { q with all := q.all ++ ys } := by
  have HM := Lib.hid (qmade_any h)
  have hbl := h.lt
  have H := Lib.hid h
  obtain ⟨ho, hbg, hb, ring, hr, hg⟩ := h
  obtain ⟨c0, c1, c2, c3, c4, c5⟩ := q_cells hb
  rw [he] at c5
  have h1 := ho.len
  have h2 := ho.gone
  have h3 := ho.held
  have h4 := ho.m2
  have h5 := ho.m1
  have HF := Lib.hid (fun w' => free_any q.most q.all.length q.gone w' h1 h2 h3 h4)
  have hx : q.all.length % q.most < q.most := Nat.mod_lt _ (by omega)
  have hF : q.most - (q.all.length - q.gone / 8) ≤ q.most := by omega
  have HFY : Hid (ys.length + (q.all.length - q.gone / 8) ≤ q.most) := by
    show _ ≤ q.most
    omega
  generalize q.most - (q.all.length - q.gone / 8) = F at *
  have hyl : ys.length ≤ F ∧ ys.length ≤ n := by omega
  have HC := Lib.hid hc
  have HN := Lib.hid hne
  have HL := Lib.hid hlt
  have HRg := Lib.hid hr
  have HG := Lib.hid hg
  have HO := Lib.hid ho
  clear hb ho hr hg he hc hne hlt
  have hcl : ys.length ≤ cap := by omega
  have hcase : (n = ys.length ∧ n ≤ F) ∨ (F = ys.length ∧ F < n) := by omega
  clear hys
  rcases hcase with ⟨rfl, hnF⟩ | ⟨rfl, hnF⟩
  all_goals
    go_enter Try.func26, Try.ntmps26
    go_wp2_with (go_at_call 54; refine HM.out.mono ?_; rintro e w' ⟨rfl, rfl⟩)
    refine (HF.out _).mono ?_
    rintro e w2 ⟨rfl, b2⟩
    go_wp2_with fail
    obtain ⟨ho, _, hb, ring2, hr2, hg2⟩ := H.out.later b2
    obtain ⟨d0, d1, d2, d3, d4, d5⟩ := q_cells hb
    have HB2 := Lib.hid hb
    clear c0 c1 c2 c3 c4 c5 hb
    have hrl := hr2.1
    have HN3 := Lib.hid (fun w' => next_any q.most q.all.length q.gone w' h1 h5 h4)
    obtain ⟨x, hX⟩ : ∃ x, x = q.all.length % q.most := ⟨_, rfl⟩
    rw [← hX] at HN3 hx
    have HX := Lib.hid hX
    clear hX
    obtain ⟨k, hk⟩ : ∃ k, k = min ys.length (q.most - x) := ⟨_, rfl⟩
    obtain ⟨C1, hC1⟩ : ∃ C1, C1 = u8s (ys.take k) := ⟨_, rfl⟩
    obtain ⟨R0, hR0⟩ : ∃ R0, R0 = u8s ring2 := ⟨_, rfl⟩
    have HA : Hid (C1.length = Nat.min ys.length (q.most - x)) := by
      show C1.length = _
      rw [hC1, show Nat.min ys.length (q.most - x) = min ys.length (q.most - x) from rfl]; simp; omega
    have hCk : C1.length = k := HA.out.trans hk.symm
    have HB : Hid (x + C1.length ≤ R0.length) := by
      show _ ≤ R0.length
      rw [hCk, hR0]; simp [hrl]; omega
    have hbl2 := (H.out.later b2).lt
    have HG3 : Hid (∀ w3, Below w2.drew.heap.size w2.drew w3 → w3.heap[g]? = some (.cells R0.toArray 5 (0, 0))) := fun w3 b3 => by
      rw [hR0]; exact (b3.block g hbl2.2).trans hg2
    have HO1 : Hid (∀ v ∈ C1, v.oneCell' = true) := by rw [hC1]; exact u8s_one
    have hb1 : (x : Int) ≤ (q.most : Int) := by omega
    have hb2 : (x : Int) < (q.most : Int) := by omega
    have hb0 : (0 : Int) ≤ (x : Int) := by omega
    have hxm : ¬ (q.most = x) := by omega
    have HS3 : Hid (∀ w3, Below w2.drew.heap.size w2.drew w3 → ys ≠ [] → w3.heap[bb]? = w.heap[bb]?) := fun w3 b3 hy => by
      exact (b3.block bb (Nat.lt_of_lt_of_le (HL.out hy) b2.size)).trans (b2.block bb (HL.out hy))
    have HC3 : Hid (∀ w3, Below w2.drew.heap.size w2.drew w3 → ∀ j v, C1[j]? = some v → w3.cell? ((⟨bb, off, none⟩ : Addr).add j) = some v) := fun w3 b3 j v hv => by
      rw [hC1] at hv
      exact src_cells (m := 0) (k := k) HC.out (HS3.out w3 b3) j v (by simpa using hv)
    have HR2 := Lib.hid hr2
    have HK := Lib.hid hk
    have HhC := Lib.hid hC1
    have HhR := Lib.hid hR0
    have HRL := Lib.hid hrl
    have HCk := Lib.hid hCk
    clear hr2 hg2 hCk hk hC1 hR0 hrl
    go_region_held3 (fun w' => w'.cell? ⟨b, 4, none⟩ = some (Value.slice (some ⟨g, 0, none⟩) q.most q.most) ∧ w'.cell? ⟨b, 1, none⟩ = some (.int .i64 q.most) ∧ w'.cell? ⟨b, 2, none⟩ = some (.int .i64 q.all.length) ∧ w'.cell? ⟨b, 3, none⟩ = some (.int .i64 q.gone))
      (first | go_keep | exact keep4 (w := w2.drew) (b3.block b hbl2.1) ⟨d4, d1, d2, d3⟩ | exact keep4 (w := w2.drew) ((hw4.out.2.block b (Nat.lt_of_lt_of_le hbl2.1 b3.size) hbg).trans (b3.block b hbl2.1)) ⟨d4, d1, d2, d3⟩)
      (first
       | (go_at_call 56; refine (HN3.out _).mono ?_; rintro e w3 ⟨rfl, b3⟩)
       | (refine step_copy_bar rfl (.tmp 33) (.tmp 34) 37 37 rfl 5 Try.underlying37 info1_byte (some ⟨g, x, none⟩) (some ⟨bb, off, none⟩) (q.most - x) (q.most - x) ys.length cap (by rfl) (by rfl) g x R0 5 (HG3.out _ b3) C1 HA.out (fun _ => ⟨rfl, _, rfl, HC3.out _ b3⟩) HB.out HO1.out ?_; intro w4 hw4))
    rename_i hHeld
    obtain ⟨f4, f1, f2, f3⟩ := hHeld
    rw [HCk.out]
    have hkl : k ≤ ys.length := by have := HK.out; omega
    have HB4 := Lib.hid ((hw4.out.2.block b (Nat.lt_of_lt_of_le hbl2.1 b3.size) hbg).trans ((b3.block b hbl2.1).trans HB2.out))
    have HG4 := Lib.hid hw4.out.1
    obtain ⟨R1, hR1⟩ : ∃ R1, R1 = splice R0 x C1 := ⟨_, rfl⟩
    rw [← hR1] at HG4
    have HR1 := Lib.hid hR1
    clear hR1
    obtain ⟨C2, hC2⟩ : ∃ C2, C2 = u8s (ys.drop k) := ⟨_, rfl⟩
    have hx2 := HK.out
    have hc2l : C2.length = ys.length - k := by rw [hC2]; simp
    have HA2 : Hid (C2.length = Nat.min (ys.length - k) q.most) := by
      show C2.length = _
      rw [hc2l, show Nat.min (ys.length - k) q.most = min (ys.length - k) q.most from rfl]; omega
    have hR1l : R1.length = q.most := by
      rw [HR1.out, length_splice _ _ _ HB.out, HhR.out]; simp [HRL.out]
    have HBb : Hid (0 + C2.length ≤ R1.length) := by
      show 0 + C2.length ≤ R1.length
      omega
    have HO2 : Hid (∀ v ∈ C2, v.oneCell' = true) := by rw [hC2]; exact u8s_one
    have HC4 : Hid (∀ j v, C2[j]? = some v → w4.cell? ((⟨bb, off + k, none⟩ : Addr).add j) = some v) := fun j v hv => by
      rw [hC2] at hv
      refine src_cells (m := k) (k := ys.length - k) HC.out (fun hy => ?_) j v (by rw [List.take_of_length_le (by simp)]; exact hv)
      exact (hw4.out.2.block bb (Nat.lt_of_lt_of_le (HL.out hy) (Nat.le_trans b2.size b3.size)) (HN.out hy)).trans (HS3.out w3 b3 hy)
    have hk0 : (0 : Int) ≤ (k : Int) := by omega
    have hk1 : (k : Int) ≤ (ys.length : Int) := by omega
    have hk2 : (k : Int) ≤ (cap : Int) := by omega
    have HC2 := Lib.hid hC2
    have HC2l := Lib.hid hc2l
    have HX2 := Lib.hid hx2
    have HR1l := Lib.hid hR1l
    clear hC2 hc2l hx2 hR1l
    have hzz : q.all.length + ys.length ≤ 1099511627776 := hfit
    by_cases hck : cap = k
    all_goals try (exfalso; omega)
    all_goals
      go_wp2_with fail
      go_region_held3 (fun w' => w'.cell? ⟨b, 4, none⟩ = some (Value.slice (some ⟨g, 0, none⟩) q.most q.most) ∧ w'.cell? ⟨b, 1, none⟩ = some (.int .i64 q.most) ∧ w'.cell? ⟨b, 2, none⟩ = some (.int .i64 q.all.length) ∧ w'.cell? ⟨b, 3, none⟩ = some (.int .i64 q.gone))
        (first | go_keep | exact keep4 (w := w4.drew) (hw5.out.2.block b (Array.getElem?_eq_some_iff.1 HB4.out).1 hbg) ⟨f4, f1, f2, f3⟩)
        (first
         | (refine step_copy_bar rfl (.tmp 39) (.tmp 42) 37 37 rfl 5 Try.underlying37 info1_byte (some ⟨g, 0, none⟩) (some ⟨bb, off + k, none⟩) q.most q.most (ys.length - k) (cap - k) (by rfl) (by rfl) g 0 R1 5 HG4.out C2 HA2.out (fun _ => ⟨rfl, _, rfl, HC4.out⟩) HBb.out HO2.out ?_; intro w5 hw5)
         | (refine step_copy_bar rfl (.tmp 39) (.tmp 42) 37 37 rfl 5 Try.underlying37 info1_byte (some ⟨g, 0, none⟩) (some ⟨bb, off, none⟩) q.most q.most (ys.length - k) _ (by rfl) (by rfl) g 0 R1 5 HG4.out C2 HA2.out (fun hp => by have := HC2l.out; omega) HBb.out HO2.out ?_; intro w5 hw5))
    all_goals
      rename_i hHeld5
      obtain ⟨g4, g1, g2, g3⟩ := hHeld5
      have hb5 : w5.heap[b]? = some (qCells b g q.most q.all.length q.gone q.ended) := (hw5.out.2.block b (Array.getElem?_eq_some_iff.1 HB4.out).1 hbg).trans HB4.out
      have hfr := q_free hb5 2
      have HQ := Lib.hid (fed_end H.out b2 (below_undrew b3) HR2.out HX.out HK.out HFY.out hw4.out.2 hb5 (by have h := hw5.out.1; rw [HC2.out, HR1.out, HhR.out, HhC.out] at h; exact h) hw5.out.2 hfit)
      clear hb5
      go_wp2
      go_ret2
      exact ⟨rfl, HQ.out⟩

set_option maxRecDepth 100000 in
set_option maxHeartbeats 2000000 in
theorem qfeed_nil {w : World} {b g : Nat} {q : Qs} (h : IsQueue w b g q) (he : q.ended = false) (a : Option Addr) :
    Calls Try.prog 26 #[.pointer (some ⟨b, 0, none⟩), .slice a 0 0] w fun e w' => e = .returned (.tuple #[.int .i64 0, .int .i64 0]) ∧ QDid w w' b g { q with all := q.all ++ [] } := by
  have HM := Lib.hid (qmade_any h)
  have hbl := h.lt
  have H := Lib.hid h
  obtain ⟨ho, hbg, hb, ring, hr, hg⟩ := h
  obtain ⟨c0, c1, c2, c3, c4, c5⟩ := q_cells hb
  rw [he] at c5
  have h1 := ho.len
  have h2 := ho.gone
  have h3 := ho.held
  have h4 := ho.m2
  have h5 := ho.m1
  have HF := Lib.hid (fun w' => free_any q.most q.all.length q.gone w' h1 h2 h3 h4)
  have hx : q.all.length % q.most < q.most := Nat.mod_lt _ (by omega)
  generalize q.most - (q.all.length - q.gone / 8) = F at *
  clear hb ho hr hg he
  cases a
  all_goals
    go_enter Try.func26, Try.ntmps26
    go_wp2_with (go_at_call 54; refine HM.out.mono ?_; rintro e w' ⟨rfl, rfl⟩)
    refine (HF.out _).mono ?_
    rintro e w2 ⟨rfl, b2⟩
    go_wp2_with fail
    obtain ⟨ho, _, hb, ring2, hr2, hg2⟩ := H.out.later b2
    obtain ⟨d0, d1, d2, d3, d4, d5⟩ := q_cells hb
    have HB2 := Lib.hid hb
    clear c0 c1 c2 c3 c4 c5 hb
    have hrl := hr2.1
    have HN3 := Lib.hid (fun w' => next_any q.most q.all.length q.gone w' h1 h5 h4)
    obtain ⟨x, hX⟩ : ∃ x, x = q.all.length % q.most := ⟨_, rfl⟩
    rw [← hX] at HN3 hx
    have HX := Lib.hid hX
    clear hX
    obtain ⟨R0, hR0⟩ : ∃ R0, R0 = u8s ring2 := ⟨_, rfl⟩
    have HB : Hid (x + ([] : List Value).length ≤ R0.length) := by
      show _ ≤ R0.length
      rw [hR0]; simp [hrl]; omega
    have HBz : Hid (0 + ([] : List Value).length ≤ R0.length) := by
      show _ ≤ R0.length
      simp
    have HA : Hid (([] : List Value).length = Nat.min 0 (q.most - x)) := by
      show 0 = min 0 (q.most - x)
      omega
    have HA2 : Hid (([] : List Value).length = Nat.min 0 q.most) := by
      show 0 = min 0 q.most
      omega
    have hbl2 := (H.out.later b2).lt
    have HG3 : Hid (∀ w3, Below w2.drew.heap.size w2.drew w3 → w3.heap[g]? = some (.cells R0.toArray 5 (0, 0))) := fun w3 b3 => by
      rw [hR0]; exact (b3.block g hbl2.2).trans hg2
    have hb1 : (x : Int) ≤ (q.most : Int) := by omega
    have hb2 : (x : Int) < (q.most : Int) := by omega
    have hb0 : (0 : Int) ≤ (x : Int) := by omega
    have hxm : ¬ (q.most = x) := by omega
    have HR2 := Lib.hid hr2
    have HhR := Lib.hid hR0
    have HRL := Lib.hid hrl
    clear hr2 hg2 hR0 hrl
    go_region_held3 (fun w' => w'.cell? ⟨b, 4, none⟩ = some (Value.slice (some ⟨g, 0, none⟩) q.most q.most) ∧ w'.cell? ⟨b, 1, none⟩ = some (.int .i64 q.most) ∧ w'.cell? ⟨b, 2, none⟩ = some (.int .i64 q.all.length) ∧ w'.cell? ⟨b, 3, none⟩ = some (.int .i64 q.gone))
      (first | go_keep | exact keep4 (w := w2.drew) (b3.block b hbl2.1) ⟨d4, d1, d2, d3⟩ | exact keep4 (w := w2.drew) ((hw4.out.2.block b (Nat.lt_of_lt_of_le hbl2.1 b3.size) hbg).trans (b3.block b hbl2.1)) ⟨d4, d1, d2, d3⟩)
      (first
       | (go_at_call 56; refine (HN3.out _).mono ?_; rintro e w3 ⟨rfl, b3⟩)
       | (refine step_copy_bar rfl (.tmp 33) (.tmp 34) 37 37 rfl 5 Try.underlying37 info1_byte (some ⟨g, x, none⟩) _ (q.most - x) (q.most - x) 0 0 (by rfl) (by rfl) g x R0 5 (HG3.out _ b3) [] HA.out (fun hp => absurd hp (by simp)) HB.out (by simp) ?_; intro w4 hw4))
    rename_i hHeld
    obtain ⟨f4, f1, f2, f3⟩ := hHeld
    have HB4 := Lib.hid ((hw4.out.2.block b (Nat.lt_of_lt_of_le hbl2.1 b3.size) hbg).trans ((b3.block b hbl2.1).trans HB2.out))
    have hg4 := hw4.out.1
    rw [show splice R0 x [] = R0 by simp [splice]] at hg4
    have HG4 := Lib.hid hg4
    clear hg4
    go_wp2_with fail
    go_region_held3 (fun w' => w'.cell? ⟨b, 4, none⟩ = some (Value.slice (some ⟨g, 0, none⟩) q.most q.most) ∧ w'.cell? ⟨b, 1, none⟩ = some (.int .i64 q.most) ∧ w'.cell? ⟨b, 2, none⟩ = some (.int .i64 q.all.length) ∧ w'.cell? ⟨b, 3, none⟩ = some (.int .i64 q.gone))
      (first | go_keep | exact keep4 (w := w4.drew) (hw5.out.2.block b (Array.getElem?_eq_some_iff.1 HB4.out).1 hbg) ⟨f4, f1, f2, f3⟩)
      (first
       | (refine step_copy_bar rfl (.tmp 39) (.tmp 42) 37 37 rfl 5 Try.underlying37 info1_byte (some ⟨g, 0, none⟩) _ q.most q.most 0 _ (by rfl) (by rfl) g 0 R0 5 HG4.out [] HA2.out (fun hp => absurd hp (by simp)) HBz.out (by simp) ?_; intro w5 hw5))
    rename_i hHeld5
    obtain ⟨g4, g1, g2, g3⟩ := hHeld5
    have hb5 : w5.heap[b]? = some (qCells b g q.most q.all.length q.gone q.ended) := (hw5.out.2.block b (Array.getElem?_eq_some_iff.1 HB4.out).1 hbg).trans HB4.out
    have hfr := q_free hb5 2
    have HQ := Lib.hid (fed_end (ys := []) (k := 0) H.out b2 (below_undrew b3) HR2.out HX.out (by simp) (by rw [List.length_nil, Nat.zero_add]; exact h3) hw4.out.2 hb5 (by have h := hw5.out.1; rw [HhR.out] at h; simpa [splice] using h) hw5.out.2 (by simpa using h1))
    simp only [List.length_nil, Int.natCast_zero, Int.add_zero] at HQ
    clear hb5
    go_wp2
    go_ret2
    exact ⟨rfl, HQ.out⟩

/-- what Feed takes -/
def fedL (q : Qs) (zs : List UInt8) : List UInt8 := if q.ended then [] else zs.take (q.most - (q.all.length - q.gone / 8))
def feedQ (q : Qs) (zs : List UInt8) : Qs := { q with all := q.all ++ fedL q zs }
def feedE (q : Qs) : Int := if q.ended then 20 else 0
theorem qfeed_any {w : World} {b g : Nat} {q : Qs} (h : IsQueue w b g q) {sv : Value} {zs : List UInt8} (hB : BytA w g sv zs) (hfit : q.all.length + zs.length ≤ 1099511627776) :
    Calls Try.prog 26 #[.pointer (some ⟨b, 0, none⟩), sv] w fun e w' => e = .returned (.tuple #[.int .i64 (fedL q zs).length, .int .i64 (feedE q)]) ∧ QDid w w' b g (feedQ q zs) := by
  by_cases he : q.ended = true
  · refine (qfeed_done h sv he).mono ?_
    rintro e w' ⟨rfl, rfl⟩
    simp only [fedL, feedE, feedQ, he, if_true, List.append_nil]
    refine ⟨rfl, ?_, Bar.refl _ _⟩
    have : (⟨q.most, q.all, q.gone, q.ended⟩ : Qs) = q := rfl
    rw [← he]
    exact h
  · have he' : q.ended = false := by simpa using he
    obtain ⟨a, cap, rfl, hl, hcap, hz⟩ := hB
    have hys : (fedL q zs).length = min zs.length (q.most - (q.all.length - q.gone / 8)) := by simp [fedL, he']; omega
    have hE : feedE q = 0 := by simp [feedE, he']
    rw [hE]
    rcases hz with rfl | ⟨bb, off, rfl, hne, hc⟩
    · obtain rfl : zs = [] := List.eq_nil_of_length_eq_zero (by omega)
      have e : fedL q [] = [] := by simp [fedL]
      unfold feedQ
      rw [e]
      exact qfeed_nil h he' a
    · have hcell : ∀ i, (fedL q zs)[i]? = if i < (fedL q zs).length then zs[i]? else none := by
        intro i
        by_cases hi : i < (fedL q zs).length
        · rw [if_pos hi]
          simp only [fedL, he', Bool.false_eq_true, if_false] at hi ⊢
          rw [List.getElem?_take, if_pos (by simp at hi; omega)]
        · rw [if_neg hi, List.getElem?_eq_none (by omega)]
      have hnn : fedL q zs ≠ [] → zs ≠ [] := fun h1 h2 => h1 (by subst h2; simp [fedL])
      exact qfeed_some h he' bb off zs.length cap (fedL q zs) hl hcap hys (fun hx => (hne (hnn hx)).1) (fun hx => (hne (hnn hx)).2) (fun j hj => by rw [hc j (by omega), hcell j, if_pos hj]) (by omega)

end Go.Proofs.Ytglnmaekhpaffaa
