/- The walk of CoeffApart (praxinoscopelaw08). -/
import Derived.Test.YtejcgkplcbapfaaDoorEBack
namespace Go.Proofs.YtejcgkplcbapfaaDoor
open Go.RowKit Go.Shelf
set_option linter.unusedVariables false

theorem list_extract (t : ByteArray) (n : Nat) : (t.extract 0 n).data.toList = t.data.toList.take n := by
  simp only [ByteArray.data_extract, Array.toList_extract]
  simp [List.extract]
theorem extract_all (s : ByteArray) : s.extract 0 s.size = s := by
  refine ByteArray.ext (Array.toList_inj.1 ?_)
  rw [list_extract, ← list_size, List.take_length]
theorem begins_extract {s t : ByteArray} (h : s = t.extract 0 s.size) : begins t s = true := by
  unfold begins
  rw [decide_eq_true_iff, List.prefix_iff_eq_take]
  have h2 := congrArg (fun c : ByteArray => c.data.toList) h
  simp only [list_extract] at h2
  rw [list_size]
  exact h2
theorem apart8 {first : Bool} {r l r' l' : Int} (hp : isP r l = true) (hq : isP r' l' = true) {n : Nat} (hn : n = min (putP first r l).size (putP first r' l').size) :
    (((putP first r l).extract 0 n).toList == ((putP first r' l').extract 0 n).toList) = (r == r' && l == l') := by
  rw [Bool.eq_iff_iff, str_eq_iff, Bool.and_eq_true, beq_iff_eq, beq_iff_eq]
  constructor
  · intro h
    by_cases hle : (putP first r l).size ≤ (putP first r' l').size
    · rw [hn, Nat.min_eq_left hle] at h
      refine putP_one (first := first) hp hq (begins_extract ?_)
      rw [← h, extract_all]
    · rw [hn, Nat.min_eq_right (by omega)] at h
      obtain ⟨e1, e2⟩ := putP_one (first := first) hq hp (begins_extract (by rw [h, extract_all]))
      exact ⟨e1.symm, e2.symm⟩
  · rintro ⟨rfl, rfl⟩
    rfl
theorem esc_cut {first : Bool} {r l r' l' : Int} {m : Nat} (hm : m = (putP first r l).size) (h : (((putP first r l).extract 0 m).toList == ((escS r' l').extract 0 m).toList) = true) : putP first r l = escS r' l' := by
  rw [str_eq_iff] at h
  subst hm
  exact esc_one (begins_extract (by rw [← h, extract_all]))
theorem end_cut {r l : Int} : (((putP false r l).extract 0 2).toList == (⟨#[49, 48]⟩ : ByteArray).toList) = false := by
  refine Bool.eq_false_iff.2 (fun h => ?_)
  rw [str_eq_iff] at h
  have := begins_extract (s := end8) (t := putP false r l) (by rw [show end8.size = 2 from rfl, h]; rfl)
  rw [end_none] at this
  cases this

set_option maxRecDepth 100000 in
set_option maxHeartbeats 4000000 in
theorem coeffApart_walk (I : CoeffI) {w : World} (a b c d : Int) (first : Bool) (hT : Lay8 w) :
    Calls Tryd.prog 7 #[.int .i64 a, .int .i64 b, .int .i64 c, .int .i64 d, .bool first] w fun e w' => e = .returned (.bool true) ∧ Below w.heap.size w w' := by
  have hp := isP_by a b
  have hq := isP_by c d
  have HOf := Lib.hid (fun w => of8_any a b w)
  have HOf2 := Lib.hid (fun w => of8_any c d w)
  obtain ⟨l1, l2, l3⟩ := lvE_in b
  obtain ⟨k1, k2, k3⟩ := lvE_in d
  generalize a % 64 = r at *
  generalize lvE b = l at *
  generalize c % 64 = r' at *
  generalize lvE d = l' at *
  have HT := Lib.hid (fun w' (hb : Below w.heap.size w w') => hT.below hb)
  have HK := Lib.hid (awake8_any I w hT)
  have HP := Lib.hid (fun w hT => I.put r l first w hT (by omega) (by omega))
  have HQ := Lib.hid (fun w hT => I.put r' l' first w hT (by omega) (by omega))
  have HE := Lib.hid (fun w hT => I.esc r' l' w hT)
  rw [show putS8 first r l = putP first r l by unfold putS8; rw [if_pos hp], show putE8 r l = 0 by unfold putE8; rw [if_pos hp]] at HP
  rw [show putS8 first r' l' = putP first r' l' by unfold putS8; rw [if_pos hq], show putE8 r' l' = 0 by unfold putE8; rw [if_pos hq]] at HQ
  rw [show escS8 r' l' = escS r' l' by unfold escS8; rw [if_pos hq], show putE8 r' l' = 0 by unfold putE8; rw [if_pos hq]] at HE
  obtain ⟨z1, z2, _, _⟩ := putP_size first r l
  obtain ⟨y1_, y2_, _, _⟩ := putP_size first r' l'
  have z5 := escS_size r' l'
  have A1 := Lib.hid ((allB_iff _).1 (putP_bits first r l))
  have A2 := Lib.hid ((allB_iff _).1 (putP_bits first r' l'))
  have O1 := Lib.hid (putP_one9 first r l)
  have O2 := Lib.hid (putP_one9 first r' l')
  have D1 := Lib.hid (fun (n : Nat) (hn : n = min (putP first r l).size (putP first r' l').size) => apart8 hp hq hn)
  have D2 := Lib.hid (fun (m : Nat) (hm : m = (putP first r l).size) h => esc_cut (first := first) (r := r) (l := l) (r' := r') (l' := l') hm h)
  have D3 : Hid (first = false → (((putP first r l).extract 0 2).toList == (⟨#[49, 48]⟩ : ByteArray).toList) = false) := fun h => by rw [h]; exact end_cut
  have heq := Lib.hid (fun W => pair_eq r l r' l' W)
  generalize putP first r l = s at *
  generalize putP first r' l' = t at *
  generalize escS r' l' = x at *
  generalize hD : (r == r' && l == l') = D at *
  clear hT hp hq hD
  go_enter Tryd.func7, Tryd.ntmps7
  go_wp2_with fail
  refine HK.out.mono ?_
  rintro e w1 ⟨rfl, b1⟩
  have HB1 := Lib.hid b1
  clear b1
  go_wp2_with fail
  refine (HOf.out w1).mono ?_
  rintro e w2 ⟨rfl, b2⟩
  have HB2 := Lib.hid (below_chain HB1.out (Nat.le_refl _) b2)
  clear b2
  go_wp2_with fail
  refine (HOf2.out w2).mono ?_
  rintro e w3 ⟨rfl, b3⟩
  have b4 := (b3.alloc (o := .cells #[.int .i64 r, .int .i64 l] 26 (0, 0)) b3.size).alloc (o := .cells #[.int .i64 r', .int .i64 l'] 26 (0, 0)) (by simp; have := b3.size; omega)
  have HB4 := Lib.hid (below_chain HB2.out (Nat.le_refl _) b4)
  obtain ⟨x0, x1⟩ := two_cells w3 (.int .i64 r) (.int .i64 l) 26
  obtain ⟨y3, y4⟩ := two_cells (w3.alloc (.cells #[.int .i64 r, .int .i64 l] 26 (0, 0))) (.int .i64 r') (.int .i64 l') 26
  have hs3 : (w3.alloc (.cells #[.int .i64 r, .int .i64 l] 26 (0, 0))).heap.size = w3.heap.size + 1 := by simp
  have hs4 : ((w3.alloc (.cells #[.int .i64 r, .int .i64 l] 26 (0, 0))).alloc (.cells #[.int .i64 r', .int .i64 l'] 26 (0, 0))).heap.size = w3.heap.size + 2 := by simp
  have bb : Below (w3.heap.size + 1) (w3.alloc (.cells #[.int .i64 r, .int .i64 l] 26 (0, 0))) ((w3.alloc (.cells #[.int .i64 r, .int .i64 l] 26 (0, 0))).alloc (.cells #[.int .i64 r', .int .i64 l'] 26 (0, 0))) := (Below.refl _ _).alloc (by omega) _
  have y0 := (bb.cell (p := ⟨w3.heap.size, 0, none⟩) (by simp)).trans x0
  have y1 := (bb.cell (p := ⟨w3.heap.size, 1, none⟩) (by simp)).trans x1
  rw [hs3] at y3 y4
  clear b3 b4 x0 x1 bb hs3
  go_wp2_with fail
  generalize (w3.alloc (.cells #[.int .i64 r, .int .i64 l] 26 (0, 0))).alloc (.cells #[.int .i64 r', .int .i64 l'] 26 (0, 0)) = w4 at *
  refine (HP.out w4 (HT.out _ HB4.out)).mono ?_
  rintro e w5 ⟨rfl, b5⟩
  have hs5 : w3.heap.size + 1 < w5.heap.size := by have := b5.size; omega
  have hs5' : w3.heap.size < w5.heap.size := by omega
  have x0 := (b5.cell (p := ⟨w3.heap.size, 0, none⟩) (by simp; omega)).trans y0
  have x1 := (b5.cell (p := ⟨w3.heap.size, 1, none⟩) (by simp; omega)).trans y1
  have x3 := (b5.cell (p := ⟨w3.heap.size + 1, 0, none⟩) (by simp; omega)).trans y3
  have x4 := (b5.cell (p := ⟨w3.heap.size + 1, 1, none⟩) (by simp; omega)).trans y4
  have HB5 := Lib.hid (below_chain HB4.out (Nat.le_refl _) b5)
  clear b5 y0 y1 y3 y4 hs4
  go_wp2_with fail
  refine (HQ.out w5 (HT.out _ HB5.out)).mono ?_
  rintro e w6 ⟨rfl, b6⟩
  have hs6 : w3.heap.size + 1 < w6.heap.size := by have := b6.size; omega
  have hs6' : w3.heap.size < w6.heap.size := by omega
  have y0 := (b6.cell (p := ⟨w3.heap.size, 0, none⟩) (by simp; omega)).trans x0
  have y1 := (b6.cell (p := ⟨w3.heap.size, 1, none⟩) (by simp; omega)).trans x1
  have y3 := (b6.cell (p := ⟨w3.heap.size + 1, 0, none⟩) (by simp; omega)).trans x3
  have y4 := (b6.cell (p := ⟨w3.heap.size + 1, 1, none⟩) (by simp; omega)).trans x4
  have HB6 := Lib.hid (below_chain HB5.out (Nat.le_refl _) b6)
  clear b6 x0 x1 x3 x4 hs5 hs5'
  go_wp2_with fail
  refine (HE.out w6 (HT.out _ HB6.out)).mono ?_
  rintro e w7 ⟨rfl, b7⟩
  have hs7 : w3.heap.size + 1 < w7.heap.size := by have := b7.size; omega
  have hs7' : w3.heap.size < w7.heap.size := by omega
  have x0 := (b7.cell (p := ⟨w3.heap.size, 0, none⟩) (by simp; omega)).trans y0
  have x1 := (b7.cell (p := ⟨w3.heap.size, 1, none⟩) (by simp; omega)).trans y1
  have x3 := (b7.cell (p := ⟨w3.heap.size + 1, 0, none⟩) (by simp; omega)).trans y3
  have x4 := (b7.cell (p := ⟨w3.heap.size + 1, 1, none⟩) (by simp; omega)).trans y4
  have HB7 := Lib.hid (below_chain HB6.out (Nat.le_refl _) b7)
  clear b7 y0 y1 y3 y4 hs6 hs6'
  go_wp2_with fail
  refine (code8_true s A1.out z1 O1.out 20 (by omega) (by omega) w7).mono ?_
  rintro e w' ⟨rfl, rfl⟩
  go_wp2_with fail
  refine (code8_true t A2.out y1_ O2.out 20 (by omega) (by omega) w7).mono ?_
  rintro e w' ⟨rfl, rfl⟩
  obtain ⟨n, hn⟩ : ∃ n, n = min s.size t.size := ⟨_, rfl⟩
  have hmin : min ((s.size : Nat) : Int) ((t.size : Nat) : Int) = (n : Int) := by omega
  obtain ⟨m, hm⟩ : ∃ m, m = s.size := ⟨_, rfl⟩
  have hmin2 : min ((s.size : Nat) : Int) 20 = (m : Int) := by omega
  have hn1 : n ≤ s.size := by omega
  have hn2 : n ≤ t.size := by omega
  have hm1 : m ≤ s.size := by omega
  have hm2 : m ≤ x.size := by omega
  have d1 := D1.out n hn
  have d2 := D2.out m hm
  have hq := heq.out
  clear hn hm HP HQ HE HOf HOf2 HK
  generalize hG : ((s.extract 0 m).toList == (x.extract 0 m).toList) = G at *
  have d3 : first = true ∨ (first = false ∧ (s.size : Int) < 2) ∨ (first = false ∧ 2 ≤ s.size ∧ ((s.extract 0 2).toList == (⟨#[49, 48]⟩ : ByteArray).toList) = false) := by
    cases first with
    | true => exact .inl rfl
    | false =>
      by_cases h2 : s.size < 2
      · exact .inr (.inl ⟨rfl, by omega⟩)
      · exact .inr (.inr ⟨rfl, by omega, D3.out rfl⟩)
  clear D3
  cases G with
  | false =>
    clear d2
    go_wp2
    clear z5
    go_quiet (fail)
    rcases d3 with rfl | ⟨rfl, h2⟩ | ⟨rfl, h2, h3⟩
    · go_wp2
      go_ret
      exact ⟨rfl, HB7.out.trans (below_drewN _ _ _)⟩
    · go_wp2
      go_ret
      exact ⟨rfl, HB7.out.trans (below_drewN _ _ _)⟩
    · go_wp2
      go_ret
      refine ⟨?_, HB7.out.trans (below_drewN _ _ _)⟩
      go_simp
      exact .inr (fun e => by rw [e] at h3; exact absurd h3 (by decide +kernel))
  | true =>
    have d4 : (s.toList == x.toList) = true := (str_eq_iff _ _).2 (d2 rfl)
    clear d2
    go_wp2
    clear z5
    go_quiet (fail)
    rcases d3 with rfl | ⟨rfl, h2⟩ | ⟨rfl, h2, h3⟩
    · go_wp2
      go_ret
      exact ⟨rfl, HB7.out.trans (below_drewN _ _ _)⟩
    · go_wp2
      go_ret
      exact ⟨rfl, HB7.out.trans (below_drewN _ _ _)⟩
    · go_wp2
      go_ret
      refine ⟨?_, HB7.out.trans (below_drewN _ _ _)⟩
      go_simp
      exact .inr (fun e => by rw [e] at h3; exact absurd h3 (by decide +kernel))

end Go.Proofs.YtejcgkplcbapfaaDoor
