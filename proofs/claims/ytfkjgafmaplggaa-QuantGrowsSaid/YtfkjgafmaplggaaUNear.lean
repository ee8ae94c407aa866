/- quant.nearest: the nearest level. -/
import Derived.Test.YtfkjgafmaplggaaUGet
import Derived.Lib.QuietBelow
namespace Go.Proofs.Ytfkjgafmaplggaa
open Go.RowKit Go.Shelf Go.Sort
set_option linter.unusedVariables false

theorem gap1_any (l q n : Int) (b : Nat) (hl : okLU l = true) (hq : okQU q = true) (h1 : -2048 ≤ n) (h2 : n ≤ 2047) (w : World) (hw : w.heap[b]? = some (.cells #[.int .i64 n] 3 (0, 0))) (hw2 : w.heap[b + 1]? = some (.cells #[.int .i64 q] 3 (0, 0))) :
    Calls Try.prog 39 #[.int .i64 l, .pointer (some ⟨b + 1, 0, none⟩), .pointer (some ⟨b, 0, none⟩)] w fun e w' => e = .returned (.int .i64 (gapU q n l)) ∧ Below w.heap.size w w' := by
  have k0 := cell_regrown (one_cell hw).1
  have k1 := cell_regrown (one_cell hw2).1
  have hin := worthU_in l q
  have hb1 := hin.1
  have hb2 := hin.2
  have hv : gapU q n l = max (worthU l q - n) (-(worthU l q - n)) := by unfold gapU; omega
  have C1 : ∀ d os, Calls Try.prog 31 #[.int .i64 l, .int .i64 q] (grow (redrawn w d) os) fun e w'' => e = .returned (.int .i64 (worthU l q)) ∧ ∃ p : Regrown, w'' = grow (redrawn w p.d) p.os := fun d os => Calls.regrown_of (worth_any l q hl hq _)
  rw [hv]
  clear hv hin hw hw2 hl hq
  generalize worthU l q = x at *
  go_enter Try.func39, Try.ntmps39
  go_wp2
  refine wp_region_quiet_below (by kernel_rfl) (by kernel_rfl) ?_
  iterate 6 quiet_step ((go_at_call 31; exact C1 _ _))
  refine wpQuiet_nil ?_
  rintro _ ⟨⟨dq, osq⟩, rfl⟩
  go_wp2
  go_ret
  exact ⟨rfl, below_regrown w dq osq⟩

theorem bestU_step (q n : Int) (k : Nat) (s : Int) (hs : sideU n = s) : bestU q n (k + 1) = if gapU q n (s * k) < gapU q n (bestU q n k) then s * k else bestU q n k := by
  rw [← hs]
  rfl
/-- the boxes that the gap reads -/
def GapAt (w : World) (b : Nat) (n q : Int) : Prop := w.heap[b]? = some (.cells #[.int .i64 n] 3 (0, 0)) ∧ w.heap[b + 1]? = some (.cells #[.int .i64 q] 3 (0, 0))
theorem GapAt.below {w w' : World} {b m : Nat} {n q : Int} (h : GapAt w b n q) (hb : Below m w w') (hm : b + 1 < m) : GapAt w' b n q := ⟨(hb.block _ (by omega)).trans h.1, (hb.block _ hm).trans h.2⟩

set_option maxRecDepth 100000 in
set_option maxHeartbeats 1000000 in
theorem nearestR_any (n q : Int) (hq : okQU q = true) (h1 : -2048 ≤ n) (h2 : n ≤ 2047) (w : World) (R : Int) (hR : bestU q n 128 = R) :
    Calls Try.prog 34 #[.int .i64 n, .int .i64 q] w fun e w' => e = .returned (.int .i64 R) ∧ Below w.heap.size w w' := by
  have HR := Lib.hid hR
  clear hR
  have HG := Lib.hid (fun l hl W (hG : GapAt W w.heap.size n q) => gap1_any l q n w.heap.size hl hq h1 h2 W hG.1 hG.2)
  have HB0 := Lib.hid (show Below w.heap.size w ((w.alloc (.cells #[.int .i64 n] 3 (0, 0))).alloc (.cells #[.int .i64 q] 3 (0, 0))) from ((Below.refl _ w).alloc (Nat.le_refl _) _).alloc (by simp) _)
  have HC0 := Lib.hid (show GapAt ((w.alloc (.cells #[.int .i64 n] 3 (0, 0))).alloc (.cells #[.int .i64 q] 3 (0, 0))) w.heap.size n q from
    ⟨heap_keep (World.alloc_heap_new _ _) _, by have := World.alloc_heap_new (w.alloc (.cells #[.int .i64 n] 3 (0, 0))) (.cells #[.int .i64 q] 3 (0, 0)); simpa using this⟩)
  have HL := Lib.hid (show w.heap.size + 2 ≤ ((w.alloc (.cells #[.int .i64 n] 3 (0, 0))).alloc (.cells #[.int .i64 q] 3 (0, 0))).heap.size by simp)
  have HIn := Lib.hid (fun l => @gapU_in q n l h1 h2)
  have HLv := Lib.hid (fun k hk => @bestU_lv q n k hk)
  clear hq h1 h2
  by_cases hn : n < 0
  · have HSt := Lib.hid (fun k => bestU_step q n k (-1) (by unfold sideU; rw [if_pos hn]))
    go_enter Try.func34, Try.ntmps34
    go_wp2_with fail
    generalize (w.alloc (.cells #[.int .i64 n] 3 (0, 0))).alloc (.cells #[.int .i64 q] 3 (0, 0)) = w0 at *
    go_loopw [7, 12] (fun bv i wr => ∃ k : Nat, i = .int .i64 k ∧ k ≤ 128 ∧ bv = .int .i64 (bestU q n k) ∧ GapAt wr w.heap.size n q ∧ Below w.heap.size w wr ∧ w.heap.size + 2 ≤ wr.heap.size) (fun _ i _ => 128 - (intOf i).toNat)
    case atStart => exact ⟨0, rfl, by omega, rfl, HC0.out, HB0.out, HL.out⟩
    case round =>
      obtain ⟨k, rfl, hk, rfl, hG, hB, hS⟩ := hrel
      have HGa := Lib.hid hG
      have HB := Lib.hid hB
      clear hG hB
      by_cases hk2 : k < 128
      · have hlv := HLv.out k hk
        have hst := HSt.out k
        have hl1 : okLU (-1 * (k : Int)) = true := by rw [okLU_iff]; omega
        have hl2 : okLU (bestU q n k) = true := by rw [okLU_iff]; exact hlv
        have hi1 := HIn.out (-1 * (k : Int))
        have hi2 := HIn.out (bestU q n k)
        have HC1 := Lib.hid (HG.out _ hl1 wr HGa.out)
        have HC2 := Lib.hid (HG.out _ hl2)
        have hk3 : (k : Int) < 128 := by omega
        have HBst := Lib.hid hst
        clear hl1 hl2 hst hlv
        generalize hd : -1 * (k : Int) = d at *
        generalize bestU q n k = B at *
        generalize gapU q n d = g1 at *
        generalize gapU q n B = g2 at *
        by_cases hlt : g1 < g2
        · rw [if_pos hlt] at HBst
          go_wp2_with fail
          refine HC1.out.mono ?_
          rintro e w1 ⟨rfl, b1⟩
          go_wp2_with fail
          refine (HC2.out w1 (HGa.out.below b1 (by omega))).mono ?_
          rintro e w2 ⟨rfl, b2⟩
          have hs1 := b1.size
          have HB2 := Lib.hid (HB.out.trans ((b1.trans (b2.mono hs1)).mono (by omega)))
          have HGb := Lib.hid ((HGa.out.below b1 (by omega)).below b2 (by omega))
          have hs2 := b2.size
          clear b1 b2
          go_wp2_with fail
          go_roundw
          case rel => exact ⟨k + 1, by go_num, by omega, by rw [HBst.out], HGb.out, HB2.out, by omega⟩
          case measure => simp [intOf]; omega
        · rw [if_neg hlt] at HBst
          go_wp2_with fail
          refine HC1.out.mono ?_
          rintro e w1 ⟨rfl, b1⟩
          go_wp2_with fail
          refine (HC2.out w1 (HGa.out.below b1 (by omega))).mono ?_
          rintro e w2 ⟨rfl, b2⟩
          have hs1 := b1.size
          have HB2 := Lib.hid (HB.out.trans ((b1.trans (b2.mono hs1)).mono (by omega)))
          have HGb := Lib.hid ((HGa.out.below b1 (by omega)).below b2 (by omega))
          have hs2 := b2.size
          clear b1 b2
          go_wp2_with fail
          go_roundw
          case rel => exact ⟨k + 1, by go_num, by omega, by rw [HBst.out], HGb.out, HB2.out, by omega⟩
          case measure => simp [intOf]; omega
      · have hke : k = 128 := by omega
        have hBR : bestU q n k = R := by rw [hke]; exact HR.out
        rw [hBR]
        clear hBR
        subst hke
        go_wp2_with fail
        go_ret
        exact ⟨rfl, HB.out⟩
  · have HSt := Lib.hid (fun k => bestU_step q n k (1) (by unfold sideU; rw [if_neg hn]))
    go_enter Try.func34, Try.ntmps34
    go_wp2_with fail
    generalize (w.alloc (.cells #[.int .i64 n] 3 (0, 0))).alloc (.cells #[.int .i64 q] 3 (0, 0)) = w0 at *
    go_loopw [7, 12] (fun bv i wr => ∃ k : Nat, i = .int .i64 k ∧ k ≤ 128 ∧ bv = .int .i64 (bestU q n k) ∧ GapAt wr w.heap.size n q ∧ Below w.heap.size w wr ∧ w.heap.size + 2 ≤ wr.heap.size) (fun _ i _ => 128 - (intOf i).toNat)
    case atStart => exact ⟨0, rfl, by omega, rfl, HC0.out, HB0.out, HL.out⟩
    case round =>
      obtain ⟨k, rfl, hk, rfl, hG, hB, hS⟩ := hrel
      have HGa := Lib.hid hG
      have HB := Lib.hid hB
      clear hG hB
      by_cases hk2 : k < 128
      · have hlv := HLv.out k hk
        have hst := HSt.out k
        have hl1 : okLU (1 * (k : Int)) = true := by rw [okLU_iff]; omega
        have hl2 : okLU (bestU q n k) = true := by rw [okLU_iff]; exact hlv
        have hi1 := HIn.out (1 * (k : Int))
        have hi2 := HIn.out (bestU q n k)
        have HC1 := Lib.hid (HG.out _ hl1 wr HGa.out)
        have HC2 := Lib.hid (HG.out _ hl2)
        have hk3 : (k : Int) < 128 := by omega
        have HBst := Lib.hid hst
        clear hl1 hl2 hst hlv
        generalize hd : 1 * (k : Int) = d at *
        generalize bestU q n k = B at *
        generalize gapU q n d = g1 at *
        generalize gapU q n B = g2 at *
        by_cases hlt : g1 < g2
        · rw [if_pos hlt] at HBst
          go_wp2_with fail
          refine HC1.out.mono ?_
          rintro e w1 ⟨rfl, b1⟩
          go_wp2_with fail
          refine (HC2.out w1 (HGa.out.below b1 (by omega))).mono ?_
          rintro e w2 ⟨rfl, b2⟩
          have hs1 := b1.size
          have HB2 := Lib.hid (HB.out.trans ((b1.trans (b2.mono hs1)).mono (by omega)))
          have HGb := Lib.hid ((HGa.out.below b1 (by omega)).below b2 (by omega))
          have hs2 := b2.size
          clear b1 b2
          go_wp2_with fail
          go_roundw
          case rel => exact ⟨k + 1, by go_num, by omega, by rw [HBst.out], HGb.out, HB2.out, by omega⟩
          case measure => simp [intOf]; omega
        · rw [if_neg hlt] at HBst
          go_wp2_with fail
          refine HC1.out.mono ?_
          rintro e w1 ⟨rfl, b1⟩
          go_wp2_with fail
          refine (HC2.out w1 (HGa.out.below b1 (by omega))).mono ?_
          rintro e w2 ⟨rfl, b2⟩
          have hs1 := b1.size
          have HB2 := Lib.hid (HB.out.trans ((b1.trans (b2.mono hs1)).mono (by omega)))
          have HGb := Lib.hid ((HGa.out.below b1 (by omega)).below b2 (by omega))
          have hs2 := b2.size
          clear b1 b2
          go_wp2_with fail
          go_roundw
          case rel => exact ⟨k + 1, by go_num, by omega, by rw [HBst.out], HGb.out, HB2.out, by omega⟩
          case measure => simp [intOf]; omega
      · have hke : k = 128 := by omega
        have hBR : bestU q n k = R := by rw [hke]; exact HR.out
        rw [hBR]
        clear hBR
        subst hke
        go_wp2_with fail
        go_ret
        exact ⟨rfl, HB.out⟩

theorem nearestU_any (n q : Int) (hq : okQU q = true) (h1 : -2048 ≤ n) (h2 : n ≤ 2047) (w : World) :
    Calls Try.prog 34 #[.int .i64 n, .int .i64 q] w fun e w' => e = .returned (.int .i64 (bestU q n 128)) ∧ Below w.heap.size w w' := nearestR_any n q hq h1 h2 w _ rfl
theorem nearU_any (n q : Int) (w : World) : Calls Try.prog 14 #[.int .i64 n, .int .i64 q] w fun e w' => e = .returned (.tuple #[.int .i64 (nearU n q).1, .int .i64 (nearU n q).2]) ∧ Below w.heap.size w w' := by
  have HQ := Lib.hid (fun W => isQuantU_any q W)
  by_cases h1 : n < -2048
  · have hv : nearU n q = (0, 3) := by unfold nearU; rw [if_neg (by omega)]
    rw [hv]
    clear hv
    go_enter Try.func14, Try.ntmps14
    go_wp2
    go_ret2
    exact ⟨rfl, Below.refl _ _⟩
  by_cases h2 : 2047 < n
  · have hv : nearU n q = (0, 3) := by unfold nearU; rw [if_neg (by omega)]
    rw [hv]
    clear hv
    go_enter Try.func14, Try.ntmps14
    go_wp2
    go_ret2
    exact ⟨rfl, Below.refl _ _⟩
  cases hq : okQU q with
  | false =>
    have hv : nearU n q = (0, 3) := by unfold nearU; rw [if_neg (by rw [hq]; simp)]
    rw [hv]
    rw [hq] at HQ
    clear hv hq
    go_enter Try.func14, Try.ntmps14
    go_wp2_with (go_at_call 30; refine (HQ.out _).mono ?_; rintro e w1 ⟨rfl, rfl⟩)
    go_ret2
    exact ⟨rfl, Below.refl _ _⟩
  | true =>
    have hv : nearU n q = (bestU q n 128, 0) := by unfold nearU; rw [if_pos ⟨by omega, by omega, hq⟩]
    have HN := Lib.hid (nearestU_any n q hq (by omega) (by omega))
    rw [hv]
    rw [hq] at HQ
    clear hv hq
    generalize bestU q n 128 = B at *
    go_enter Try.func14, Try.ntmps14
    go_wp2_with (first
      | (go_at_call 30; refine (HQ.out _).mono ?_; rintro e w1 ⟨rfl, rfl⟩)
      | (go_at_call 34; refine (HN.out _).mono ?_; rintro e w1 ⟨rfl, hb⟩))
    go_ret2
    exact ⟨rfl, hb⟩

end Go.Proofs.Ytfkjgafmaplggaa
