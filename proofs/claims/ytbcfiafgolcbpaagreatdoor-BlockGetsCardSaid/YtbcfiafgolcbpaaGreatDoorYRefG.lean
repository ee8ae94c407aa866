/- The reference's (praxinoscoperef12): Get. -/
import Derived.Test.YtbcfiafgolcbpaaGreatDoorYRefP
import Derived.Test.YtbcfiafgolcbpaaGreatDoorYPlain
namespace Go.Proofs.YtbcfiafgolcbpaaGreatDoor
open Go.RowKit Go.Shelf
set_option linter.unusedVariables false

/-- between two rounds of the reference's loop: the block so far -/
structure GInv (w : World) (dc : Int) (zs : List UInt8) (A : Nat) (fst : Bool) (b0 p0 : Nat) (R : GotY) (x : Nat) (W : World) : Prop where
  below : Below w.heap.size w W
  res : W.heap[w.heap.size]? = some (.cells #[.int .i64 0, .slice none 0 0] 27 (0, 0))
  xb : ∃ v, W.heap[w.heap.size + 1]? = some (.cells #[.int .i64 dc, v] 27 (0, 0)) ∧ W.ownsRow (w.heap.size + 2) 66 2 v x (cellsQ (psY zs A fst b0 x))
  pl : plY zs A fst b0 p0 x ≤ 64
  rem : remY zs A fst b0 p0 dc x = R
  at_ : x = 0 ∨ A + offY zs A fst b0 x ≤ 8 * zs.length
theorem GInv.later {w : World} {dc : Int} {zs : List UInt8} {A : Nat} {fst : Bool} {b0 p0 : Nat} {R : GotY} {x : Nat} {W W' : World} (h : GInv w dc zs A fst b0 p0 R x W) (hb : Below W.heap.size W W') : GInv w dc zs A fst b0 p0 R x W' := by
  obtain ⟨h1, h2, ⟨v, h3, h4⟩, h5, h6, h7⟩ := h
  exact ⟨h1.trans (hb.mono h1.size), (hb.block _ (Array.getElem?_eq_some_iff.1 h2).1).trans h2, ⟨v, (hb.block _ (Array.getElem?_eq_some_iff.1 h3).1).trans h3, ownsRow_barN (S := fun _ => False) h4 (bar_of_below hb) (fun _ _ e => e)⟩, h5, h6, h7⟩

theorem r1read_far {n₀ : Nat} {w : World} {sv : Value} {zs : List UInt8} (hB : Byt n₀ w sv zs) (A : Nat) (hA : 8 * zs.length < A) (hl : zs.length ≤ 1099511627776) :
    Calls Tryz.prog 37 #[sv, .int .i64 (A : Int), .int .i64 8] w fun e w' => e = .returned (.tuple #[.int .i64 0, .int .i64 5]) ∧ w = w' := by
  have HC := Lib.hid (rcount_any hB)
  obtain ⟨a, cap, rfl, hl', _⟩ := hB
  go_enter Tryz.func37, Tryz.ntmps37
  go_wp2_with (go_at_call 56; refine HC.out.mono ?_; rintro e w' ⟨rfl, rfl⟩)
  go_ret2
  exact ⟨rfl, rfl⟩
theorem set_secondG {W : World} {g : Nat} {a b v : Value} {t : TypeId} (h : W.heap[g]? = some (.cells #[a, b] t (0, 0))) : (W.setCell ⟨g, 1, none⟩ v).heap[g]? = some (.cells #[a, v] t (0, 0)) := by
  rw [heap_setCell_same W g 1 _ _ v h]
  rfl
theorem GInv.next {w : World} {dc : Int} {zs : List UInt8} {A : Nat} {fst : Bool} {b0 p0 : Nat} {R : GotY} {x : Nat} {W : World} (h : GInv w dc zs A fst b0 p0 R x W) {r lv : Int} {av : Option Addr} {cv : Nat} {w6 : World} {v5 : Value}
    (hv : W.heap[w.heap.size + 1]? = some (.cells #[.int .i64 dc, .slice av x cv] 27 (0, 0))) (hrow : W.ownsRow (w.heap.size + 2) 66 2 (.slice av x cv) x (cellsQ (psY zs A fst b0 x)))
    (hap : AppendedP (W.alloc (.cells #[.int .i64 r, .int .i64 lv] 66 (0, 0))) w6 (w.heap.size + 2) (.slice av x cv) v5 (x + 1) (psY zs A fst b0 x ++ [(r, lv)]))
    (hps : psY zs A fst b0 (x + 1) = psY zs A fst b0 x ++ [(r, lv)]) (hpl : plY zs A fst b0 p0 (x + 1) ≤ 64) (hrem : R = remY zs A fst b0 p0 dc (x + 1)) (hat : A + offY zs A fst b0 (x + 1) ≤ 8 * zs.length) :
    w6.heap[w.heap.size + 1]? = some (.cells #[.int .i64 dc, .slice av x cv] 27 (0, 0)) ∧ w.heap.size + 1 < w6.heap.size ∧ GInv w dc zs A fst b0 p0 R (x + 1) (w6.setCell ⟨w.heap.size + 1, 1, none⟩ v5) := by
  obtain ⟨h1, h2, _, _, _, _⟩ := h
  obtain ⟨o1, g1, _⟩ := hap
  have hl1 := (Array.getElem?_eq_some_iff.1 hv).1
  have key : ∀ k, k < w.heap.size + 2 → w6.heap[k]? = W.heap[k]? := fun k hk => by
    rw [g1.block k (by simp; omega) (fun e => by have := (hrow.lt k e.symm).1; omega)]
    exact Below.heap_alloc _ _ _ (by omega)
  have hv6 := (key _ (by omega)).trans hv
  have hl6 := (Array.getElem?_eq_some_iff.1 hv6).1
  refine ⟨hv6, hl6, ?_, ?_, ⟨v5, set_secondG hv6, ?_⟩, hpl, hrem.symm, .inr hat⟩
  · exact ((h1.alloc (by omega) _).grown g1 (by simp; omega) (fun k e => by have := (hrow.lt k e).1; omega)).setCell (p := ⟨w.heap.size + 1, 1, none⟩) (by simp) _
  · rw [heap_setCell_other _ _ _ _ (by simp)]
    exact (key _ (by omega)).trans h2
  · rw [hps]
    exact ownsRow_barN (S := fun k => k = w.heap.size + 1) o1 (Bar.setCell (S := fun k => k = w.heap.size + 1) (Bar.refl _ w6) (p := ⟨w.heap.size + 1, 1, none⟩) (fun _ => rfl) v5) (fun k e => by have := (o1.lt k e).1; omega)

set_option maxRecDepth 100000 in
set_option maxHeartbeats 4000000 in
theorem r12get_any {n₁ : Nat} {w : World} {sv : Value} {zs : List UInt8} (hB : Byt n₁ w sv zs) (hn1 : n₁ ≤ w.heap.size) (hl : zs.length ≤ 1000000) (x : Int) (intra : Bool) (hx : x ≤ 9223372036854775807) :
    Calls Tryz.prog 13 #[sv, .int .i64 x, .bool intra] w fun e w' => ∃ v, e = .returned (.tuple #[blkV (gotY zs x intra).dc v, .int .i64 (gotY zs x intra).many, .int .i64 (gotY zs x intra).err]) ∧ w'.ownsRow w.heap.size 66 2 v (gotY zs x intra).ps.length (cellsQ (gotY zs x intra).ps) ∧ Below w.heap.size w w' := by
  have HB := Lib.hid (fun (W : World) (hb : Below w.heap.size w W) => hB.below (hb.mono hn1))
  have HF := Lib.hid (fun b W => r12first_any b W)
  have h10 := World.alloc_heap_new w (.cells #[.int .i64 0, .slice none 0 0] 27 (0, 0))
  obtain ⟨e0, e1, f0, f1⟩ := pair_cells h10
  have hb1 : Below w.heap.size w (w.alloc (.cells #[.int .i64 0, .slice none 0 0] 27 (0, 0))) := (Below.refl _ w).alloc (Nat.le_refl _) _
  by_cases h0 : x < 0
  · have e : gotY zs x intra = badY 3 := by unfold gotY; rw [if_pos h0]
    rw [e]
    obtain ⟨a, cap, rfl, _, _⟩ := hB
    go_enter Tryz.func13, Tryz.ntmps13
    go_wp2_with fail
    refine bodyPost_ret (v := .tuple #[.agg #[.int .i64 0, .slice none 0 0], .int .i64 0, .int .i64 3]) (by simp [results, Tryz.f13, go_sem]) rfl ⟨.slice none 0 0, rfl, World.ownsRow_nil _ _ _ _, ?_⟩
    exact hb1
  · obtain ⟨A, rfl⟩ : ∃ A : Nat, x = A := ⟨x.toNat, by omega⟩
    have hA0 : (0 : Int) ≤ A := by omega
    rw [gotY_nat]
    have hb2 : Below w.heap.size w ((w.alloc (.cells #[.int .i64 0, .slice none 0 0] 27 (0, 0))).alloc (.cells #[.int .i64 0, .slice none 0 0] 27 (0, 0))) := hb1.alloc (by simp) _
    have h20 : ((w.alloc (.cells #[.int .i64 0, .slice none 0 0] 27 (0, 0))).alloc (.cells #[.int .i64 0, .slice none 0 0] 27 (0, 0))).heap[w.heap.size]? = some (.cells #[.int .i64 0, .slice none 0 0] 27 (0, 0)) := heap_keep h10 _
    have h21 : ((w.alloc (.cells #[.int .i64 0, .slice none 0 0] 27 (0, 0))).alloc (.cells #[.int .i64 0, .slice none 0 0] 27 (0, 0))).heap[w.heap.size + 1]? = some (.cells #[.int .i64 0, .slice none 0 0] 27 (0, 0)) := heap_new _ (by simp) _
    have hz2 : ((w.alloc (.cells #[.int .i64 0, .slice none 0 0] 27 (0, 0))).alloc (.cells #[.int .i64 0, .slice none 0 0] 27 (0, 0))).heap.size = w.heap.size + 2 := by simp
    have hsv := hB
    obtain ⟨sa, scap, rfl, _, _⟩ := hsv
    clear e0 e1 f0 f1 hb1 h10 h0
    cases intra with
    | false =>
      simp only [Bool.false_eq_true, if_false]
      obtain ⟨R, hR⟩ : ∃ R, remY zs A true 0 0 0 0 = R := ⟨_, rfl⟩
      rw [hR]
      have hx0 : ((A + offY zs A true 0 0 : Nat) : Int) ≤ 9223372036854775807 := by simpa [offY] using hx
      go_enter Tryz.func13, Tryz.ntmps13
      go_wp2_with (go_at_call 36; refine (HF.out _ _).mono ?_; rintro e w' ⟨rfl, rfl⟩)
      generalize (w.alloc (.cells #[.int .i64 0, .slice none 0 0] 27 (0, 0))).alloc (.cells #[.int .i64 0, .slice none 0 0] 27 (0, 0)) = w2 at *
      go_loopw [10, 11] (fun bi pl wr => ∃ k : Nat, bi = .int .i64 (offY zs A true 0 k : Nat) ∧ pl = .int .i64 (plY zs A true 0 0 k : Nat) ∧ GInv w 0 zs A true 0 0 R k wr) (fun bi _ _ => 8 * zs.length - (A + (intOf bi).toNat))
      case atStart => exact ⟨0, rfl, rfl, hb2, h20, ⟨.slice none 0 0, h21, World.ownsRow_nil _ _ _ _⟩, by simp [plY], hR, .inl rfl⟩
      case round =>
        obtain ⟨k, rfl, rfl, hI⟩ := hrel
        obtain ⟨fs, hfs⟩ : ∃ fs, ((k : Int) == 0) = fs := ⟨_, rfl⟩
        have hgk : got fs zs ((A + offY zs A true 0 k : Nat) : Int) = gY zs A true 0 k := by
          unfold gY
          rw [← hfs]
          congr 1
          rw [Bool.true_and, Bool.eq_iff_iff, beq_iff_eq, beq_iff_eq]
          omega
        have hin : ((A + offY zs A true 0 k : Nat) : Int) ≤ 9223372036854775807 := by
          rcases hI.at_ with rfl | h
          · exact hx0
          · omega
        have hin2 : (A : Int) + (offY zs A true 0 k : Nat) = ((A + offY zs A true 0 k : Nat) : Int) := by omega
        have hwr : IntKind.i64.wrap ((A : Int) + (offY zs A true 0 k : Nat)) = ((A + offY zs A true 0 k : Nat) : Int) := by rw [IntKind.wrap_i64]; omega
        have HG := Lib.hid (r8get_any (w := wr) (HB.out wr hI.below) (Nat.le_trans hn1 hI.below.size) (by omega) _ hin fs)
        rw [hgk] at HG
        have hgr := gY_run (zs := zs) (A := A) (fst := true) (b0 := 0) (x := k)
        have hgb := gY_bad (zs := zs) (A := A) (fst := true) (b0 := 0) (x := k)
        have hgm := gY_many (zs := zs) (A := A) (fst := true) (b0 := 0) (x := k)
        have hpx := plY_succ (zs := zs) (A := A) (fst := true) (b0 := 0) (p0 := 0) k
        have hps := psY_succ (zs := zs) (A := A) (fst := true) (b0 := 0) k
        have hox := offY_succ (zs := zs) (A := A) (fst := true) (b0 := 0) k
        have hpl := hI.pl
        have hk65 : k < 65 := by have := plY_ge (zs := zs) (A := A) (fst := true) (b0 := 0) (p0 := 0) k; omega
        have hre := remY_err (zs := zs) (A := A) (fst := true) (b0 := 0) (p0 := 0) 0 hk65
        have hro := remY_over (zs := zs) (A := A) (fst := true) (b0 := 0) (p0 := 0) 0 hk65
        have hrr := remY_run (zs := zs) (A := A) (fst := true) (b0 := 0) (p0 := 0) 0 hk65
        have hrn := remY_next (zs := zs) (A := A) (fst := true) (b0 := 0) (p0 := 0) 0 hk65
        rw [hI.rem] at hre hro hrr hrn
        obtain ⟨g, hg⟩ : ∃ g, gY zs A true 0 k = g := ⟨_, rfl⟩
        rw [hg] at HG hgr hgb hgm hpx hps hox hre hro hrr hrn
        clear hgk hg
        obtain ⟨r, lv, ov, mn, er⟩ := g
        simp only at hgr hgb hgm hpx hps hox hre hro hrr hrn
        obtain ⟨v, hv, hrow⟩ := hI.xb
        obtain ⟨av, cv, rfl, _⟩ := rowP_own hrow
        obtain ⟨d0, d1, _, _⟩ := pair_cells (show wr.heap[w.heap.size + 1]? = _ from hv)
        have HI := Lib.hid hI
        have HPx := Lib.hid hpx
        have HPs := Lib.hid hps
        have HOx := Lib.hid hox
        have Hre := Lib.hid hre
        have Hro := Lib.hid hro
        have Hrr := Lib.hid hrr
        have Hrn := Lib.hid hrn
        have Hgm := Lib.hid hgm
        have hl1 : w.heap.size + 1 < wr.heap.size := (Array.getElem?_eq_some_iff.1 hv).1
        clear hI hv hrow hpx hps hox hre hro hrr hrn hgm
        generalize hat : ((A + offY zs A true 0 k : Nat) : Int) = at_ at *
        go_wp2_with fail
        refine HG.out.mono ?_
        rintro e w3 ⟨rfl, b3⟩
        have hi3 := HI.out.later b3
        have hi4 := hi3.later ((Below.refl _ w3).alloc (Nat.le_refl _) (.cells #[.int .i64 r, .int .i64 lv] 66 (0, 0)))
        obtain ⟨p0, p1⟩ := two_cells w3 (.int .i64 r) (.int .i64 lv) 66
        have hlt4 : w3.heap.size < (w3.alloc (.cells #[.int .i64 r, .int .i64 lv] 66 (0, 0))).heap.size := by simp
        clear b3 d0 d1 HG
        generalize hw4 : w3.alloc (.cells #[.int .i64 r, .int .i64 lv] 66 (0, 0)) = w4 at *
        obtain ⟨v4, hv4, hrow4⟩ := hi4.xb
        obtain ⟨av4, cv4, rfl, _⟩ := rowP_own hrow4
        have hr4 := hi4.res
        obtain ⟨e0, e1, f0, f1⟩ := pair_cells hr4
        obtain ⟨d0, d1, g0, g1⟩ := pair_cells (show w4.heap[w.heap.size + 1]? = _ from hv4)
        have hl4 : w.heap.size + 1 < w4.heap.size := (Array.getElem?_eq_some_iff.1 hv4).1
        have hl40 : w.heap.size < w4.heap.size := by omega
        have HI4 := Lib.hid hi4
        have HRow := Lib.hid hrow4
        have HV4 := Lib.hid hv4
        have HB4 := Lib.hid hi4.below
        clear hi3 hi4 hr4 hv4 hrow4
        by_cases he : er = 0
        · subst he
          obtain ⟨hm1, hm2⟩ := Hgm.out rfl
          cases ov with
          | true =>
            have hR1 := Hro.out rfl rfl
            have hwr2 : IntKind.i64.wrap ((offY zs A true 0 k : Int) + mn) = (offY zs A true 0 k : Int) + mn := by rw [IntKind.wrap_i64]; omega
            have HR1 := Lib.hid hR1
            clear hR1
            go_wp2_with fail
            rw [HR1.out]
            refine bodyPost_ret (v := .tuple #[.agg #[.int .i64 0, .slice av4 k cv4], .int .i64 ((offY zs A true 0 k : Int) + mn), .int .i64 0]) (by simp [results, Tryz.f13, go_sem, e0, e1]) rfl ⟨.slice av4 k cv4, rfl, ?_, ?_⟩
            · simp only [psY_length]
              exact ownsRow_baseN (ownsRow_barN (S := fun k => k = w.heap.size) HRow.out (Bar.setCell (S := fun k => k = w.heap.size) (Bar.setCell (S := fun k => k = w.heap.size) (Bar.refl _ w4) (p := ⟨w.heap.size, 0, none⟩) (fun _ => rfl) (.int .i64 0)) (p := ⟨w.heap.size, 1, none⟩) (fun _ => rfl) (.slice av4 k cv4)) (fun k e => by have := (HRow.out.lt k e).1; omega)) (by omega)
            · exact (HB4.out.setCell (p := ⟨w.heap.size, 0, none⟩) (Nat.le_refl _) _).setCell (p := ⟨w.heap.size, 1, none⟩) (Nat.le_refl _) _
          | false =>
            obtain ⟨hr0, hr63, hlv⟩ := hgr rfl rfl
            by_cases hlong : 63 < (plY zs A true 0 0 k : Int) + r
            · have HR1 := Lib.hid (Hrr.out rfl rfl hlong)
              go_wp2_with fail
              rw [HR1.out]
              refine bodyPost_ret (v := .tuple #[.agg #[.int .i64 0, .slice none 0 0], .int .i64 0, .int .i64 11]) (by simp [results, Tryz.f13, go_sem, e0, e1]) rfl ⟨.slice none 0 0, rfl, World.ownsRow_nil _ _ _ _, ?_⟩
              exact (HB4.out.setCell (p := ⟨w.heap.size, 0, none⟩) (Nat.le_refl _) _).setCell (p := ⟨w.heap.size, 1, none⟩) (Nat.le_refl _) _
            · obtain ⟨nr, rfl⟩ : ∃ nr : Nat, r = nr := ⟨r.toNat, by omega⟩
              have HRn := Lib.hid (Hrn.out rfl rfl (by omega))
              have HPl1 : Hid (((plY zs A true 0 0 k : Int) + nr + 1) = (plY zs A true 0 0 (k + 1) : Nat)) := by show _ = _; rw [HPx.out, Int.toNat_natCast]; omega
              have HPl2 : Hid (plY zs A true 0 0 (k + 1) ≤ 64) := by show _ ≤ _; rw [HPx.out, Int.toNat_natCast]; omega
              have HOf : Hid (((offY zs A true 0 k : Int) + mn) = (offY zs A true 0 (k + 1) : Nat)) := by show _ = _; rw [HOx.out]; omega
              have HAt2 : Hid (A + offY zs A true 0 (k + 1) ≤ 8 * zs.length) := by show _ ≤ _; rw [HOx.out]; omega
              have hwr2 : IntKind.i64.wrap ((offY zs A true 0 k : Int) + mn) = (offY zs A true 0 k : Int) + mn := by rw [IntKind.wrap_i64]; omega
              have hsrc := srcP_one w4 nr lv
              have HSrc := Lib.hid hsrc
              have HRow5 := Lib.hid (HRow.out.alloc (.cells #[.int .i64 (nr : Int), .int .i64 lv] 66 (0, 0)))
              clear hsrc
              go_wp2_with (at_builtin; refine wpList_append_p rfl (.tmp 80) (.tmp 82) rfl (w.heap.size + 2) (.slice av4 k cv4) k (psY zs A true 0 k) rfl HRow5.out (some ⟨w4.heap.size, 0, none⟩) 1 1 [((nr : Int), lv)] rfl HSrc.out (fun e => nomatch e) (by omega) (by simp; omega) ?_; intro v5 w6 hap; have HAp := Lib.hid hap; clear hap; refine Hid.out ?_)
              refine Lib.hid ?_
              obtain ⟨n1, n2, n3⟩ := HI4.out.next HV4.out HRow.out HAp.out HPs.out HPl2.out HRn.out HAt2.out
              obtain ⟨a5, c5, rfl, _⟩ := rowP_own HAp.out.1
              obtain ⟨t0, t1, t2, t3⟩ := pair_cells (show w6.heap[w.heap.size + 1]? = _ from n1)
              have N := Lib.hid n3
              clear n1 n3
              go_wp2_with fail
              go_roundw
              case rel => exact ⟨k + 1, by rw [HOf.out], by rw [HPl1.out], N.out⟩
              case measure =>
                have := HOf.out
                have := HAt2.out
                simp only [intOf]
                omega
        · have HR1 := Lib.hid (Hre.out he)
          have hq : (er != 0) = true := by simpa using he
          go_wp2_with fail
          rw [HR1.out]
          refine bodyPost_ret (v := .tuple #[.agg #[.int .i64 0, .slice none 0 0], .int .i64 0, .int .i64 er]) (by simp [results, Tryz.f13, go_sem, e0, e1]) rfl ⟨.slice none 0 0, rfl, World.ownsRow_nil _ _ _ _, ?_⟩
          exact (HB4.out.setCell (p := ⟨w.heap.size, 0, none⟩) (Nat.le_refl _) _).setCell (p := ⟨w.heap.size, 1, none⟩) (Nat.le_refl _) _
    | true =>
      simp only [if_true]
      have HRd : Hid (∀ W, Below w.heap.size w W → Calls Tryz.prog 37 #[.slice sa zs.length scap, .int .i64 (A : Int), .int .i64 8] W fun e W' => e = .returned (.tuple #[.int .i64 (if 8 * zs.length < A + 8 then 0 else (num zs A 8 : Nat)), .int .i64 (if 8 * zs.length < A + 8 then 5 else 0)]) ∧ W = W') := fun W hb => by
        by_cases hA : A ≤ 8 * zs.length
        · exact r1read_any (HB.out W hb) (A : Int) A rfl 8 (by omega) hA (by omega)
        · rw [if_pos (by omega), if_pos (by omega)]
          exact r1read_far (HB.out W hb) A (by omega) (by omega)
      have HCo := Lib.hid (fun n W => r12code_any n W)
      obtain ⟨e0, e1, f0, f1⟩ := pair_cells h20
      obtain ⟨q0, q1, v0, v1⟩ := pair_cells h21
      have HB2 := Lib.hid hb2
      unfold codeY
      by_cases h8 : 8 * zs.length < A + 8
      · rw [if_pos h8]
        simp only [if_pos h8] at HRd
        simp only [ne_eq, show ¬ ((5 : Int) = 0) by decide, not_false_eq_true, if_true]
        have hl20 : w.heap.size < ((w.alloc (.cells #[.int .i64 0, .slice none 0 0] 27 (0, 0))).alloc (.cells #[.int .i64 0, .slice none 0 0] 27 (0, 0))).heap.size := by omega
        go_enter Tryz.func13, Tryz.ntmps13
        go_wp2_with (go_at_call 36; refine (HF.out _ _).mono ?_; rintro e w' ⟨rfl, rfl⟩)
        generalize (w.alloc (.cells #[.int .i64 0, .slice none 0 0] 27 (0, 0))).alloc (.cells #[.int .i64 0, .slice none 0 0] 27 (0, 0)) = w2 at *
        refine (HRd.out w2 HB2.out).mono ?_
        rintro e w' ⟨rfl, rfl⟩
        go_wp2_with fail
        refine bodyPost_ret (v := .tuple #[.agg #[.int .i64 0, .slice none 0 0], .int .i64 0, .int .i64 5]) (by simp [results, Tryz.f13, go_sem, e0, e1]) rfl ⟨.slice none 0 0, rfl, World.ownsRow_nil _ _ _ _, ?_⟩
        exact (HB2.out.setCell (p := ⟨w.heap.size, 0, none⟩) (Nat.le_refl _) _).setCell (p := ⟨w.heap.size, 1, none⟩) (Nat.le_refl _) _
      · simp only [if_neg h8] at HRd ⊢
        have hl20 : w.heap.size < ((w.alloc (.cells #[.int .i64 0, .slice none 0 0] 27 (0, 0))).alloc (.cells #[.int .i64 0, .slice none 0 0] 27 (0, 0))).heap.size := by omega
        have hl21 : w.heap.size + 1 < ((w.alloc (.cells #[.int .i64 0, .slice none 0 0] 27 (0, 0))).alloc (.cells #[.int .i64 0, .slice none 0 0] 27 (0, 0))).heap.size := by omega
        generalize ((num zs A 8 : Nat) : Int) = d at *
        have HCd := Lib.hid (HCo.out d)
        cases hd : dcOk d with
        | false =>
          rw [hd] at HCd
          simp only [if_true, ne_eq, show ¬ ((10 : Int) = 0) by decide, not_false_eq_true]
          go_enter Tryz.func13, Tryz.ntmps13
          go_wp2_with (go_at_call 36; refine (HF.out _ _).mono ?_; rintro e w' ⟨rfl, rfl⟩)
          generalize (w.alloc (.cells #[.int .i64 0, .slice none 0 0] 27 (0, 0))).alloc (.cells #[.int .i64 0, .slice none 0 0] 27 (0, 0)) = w2 at *
          refine (HRd.out w2 HB2.out).mono ?_
          rintro e w' ⟨rfl, rfl⟩
          go_wp2_with (go_at_call 38; refine (HCd.out _).mono ?_; rintro e w' ⟨rfl, rfl⟩)
          refine bodyPost_ret (v := .tuple #[.agg #[.int .i64 0, .slice none 0 0], .int .i64 0, .int .i64 10]) (by simp [results, Tryz.f13, go_sem, e0, e1]) rfl ⟨.slice none 0 0, rfl, World.ownsRow_nil _ _ _ _, ?_⟩
          exact (HB2.out.setCell (p := ⟨w.heap.size, 0, none⟩) (Nat.le_refl _) _).setCell (p := ⟨w.heap.size, 1, none⟩) (Nat.le_refl _) _
        | true =>
          rw [hd] at HCd
          simp only [Bool.true_eq_false, if_false, ne_eq, not_true_eq_false]
          obtain ⟨R, hR⟩ : ∃ R, remY zs A false 8 1 d 0 = R := ⟨_, rfl⟩
          rw [hR]
          have hx0 : ((A + offY zs A false 8 0 : Nat) : Int) ≤ 9223372036854775807 := by simp [offY]; omega
          have HRh := Lib.hid (fun (_ : Unit) => hR)
          have HX0 := Lib.hid (fun (_ : Unit) => hx0)
          clear hR hx0 hd
          go_enter Tryz.func13, Tryz.ntmps13
          go_wp2_with (go_at_call 36; refine (HF.out _ _).mono ?_; rintro e w' ⟨rfl, rfl⟩)
          generalize (w.alloc (.cells #[.int .i64 0, .slice none 0 0] 27 (0, 0))).alloc (.cells #[.int .i64 0, .slice none 0 0] 27 (0, 0)) = w2 at *
          refine (HRd.out w2 HB2.out).mono ?_
          rintro e w' ⟨rfl, rfl⟩
          have k21 : (w2.setCell ⟨w.heap.size + 1, 0, none⟩ (.int .i64 d)).heap[w.heap.size + 1]? = some (.cells #[.int .i64 d, .slice none 0 0] 27 (0, 0)) := by
            rw [heap_setCell_same _ (w.heap.size + 1) 0 _ _ _ h21]
            rfl
          have k20 := (heap_setCell_other w2 ⟨w.heap.size + 1, 0, none⟩ w.heap.size (.int .i64 d) (by simp)).trans h20
          have kb := hb2.setCell (p := ⟨w.heap.size + 1, 0, none⟩) (by simp) (.int .i64 d)
          have K := Lib.hid (And.intro k20 (And.intro k21 kb))
          clear k20 k21 kb hb2 h20 h21 HB2
          go_wp2_with (go_at_call 38; refine (HCd.out _).mono ?_; rintro e w' ⟨rfl, rfl⟩)
          obtain ⟨h20, h21, hb2⟩ := K.out
          generalize w2.setCell ⟨w.heap.size + 1, 0, none⟩ (.int .i64 d) = w5 at *
          clear e0 e1 f0 f1 q0 q1 v0 v1 hl20 hl21 K
          have hR := HRh.out ()
          have hx0 := HX0.out ()
          go_loopw [10, 11] (fun bi pl wr => ∃ k : Nat, bi = .int .i64 (offY zs A false 8 k : Nat) ∧ pl = .int .i64 (plY zs A false 8 1 k : Nat) ∧ GInv w d zs A false 8 1 R k wr) (fun bi _ _ => 8 * zs.length - (A + (intOf bi).toNat))
          case atStart => exact ⟨0, rfl, rfl, hb2, h20, ⟨.slice none 0 0, h21, World.ownsRow_nil _ _ _ _⟩, by simp [plY], hR, .inl rfl⟩
          case round =>
            obtain ⟨k, rfl, rfl, hI⟩ := hrel
            have hgk : got false zs ((A + offY zs A false 8 k : Nat) : Int) = gY zs A false 8 k := rfl
            have hin : ((A + offY zs A false 8 k : Nat) : Int) ≤ 9223372036854775807 := by
              rcases hI.at_ with rfl | h
              · exact hx0
              · omega
            clear hR hx0
            have hin2 : (A : Int) + (offY zs A false 8 k : Nat) = ((A + offY zs A false 8 k : Nat) : Int) := by omega
            have hwr : IntKind.i64.wrap ((A : Int) + (offY zs A false 8 k : Nat)) = ((A + offY zs A false 8 k : Nat) : Int) := by rw [IntKind.wrap_i64]; omega
            have HG := Lib.hid (r8get_any (w := wr) (HB.out wr hI.below) (Nat.le_trans hn1 hI.below.size) (by omega) _ hin false)
            rw [hgk] at HG
            have hgr := gY_run (zs := zs) (A := A) (fst := false) (b0 := 8) (x := k)
            have hgb := gY_bad (zs := zs) (A := A) (fst := false) (b0 := 8) (x := k)
            have hgm := gY_many (zs := zs) (A := A) (fst := false) (b0 := 8) (x := k)
            have hpx := plY_succ (zs := zs) (A := A) (fst := false) (b0 := 8) (p0 := 1) k
            have hps := psY_succ (zs := zs) (A := A) (fst := false) (b0 := 8) k
            have hox := offY_succ (zs := zs) (A := A) (fst := false) (b0 := 8) k
            have hpl := hI.pl
            have hk65 : k < 65 := by have := plY_ge (zs := zs) (A := A) (fst := false) (b0 := 8) (p0 := 1) k; omega
            have hre := remY_err (zs := zs) (A := A) (fst := false) (b0 := 8) (p0 := 1) d hk65
            have hro := remY_over (zs := zs) (A := A) (fst := false) (b0 := 8) (p0 := 1) d hk65
            have hrr := remY_run (zs := zs) (A := A) (fst := false) (b0 := 8) (p0 := 1) d hk65
            have hrn := remY_next (zs := zs) (A := A) (fst := false) (b0 := 8) (p0 := 1) d hk65
            rw [hI.rem] at hre hro hrr hrn
            obtain ⟨g, hg⟩ : ∃ g, gY zs A false 8 k = g := ⟨_, rfl⟩
            rw [hg] at HG hgr hgb hgm hpx hps hox hre hro hrr hrn
            clear hgk hg
            obtain ⟨r, lv, ov, mn, er⟩ := g
            simp only at hgr hgb hgm hpx hps hox hre hro hrr hrn
            obtain ⟨v, hv, hrow⟩ := hI.xb
            obtain ⟨av, cv, rfl, _⟩ := rowP_own hrow
            obtain ⟨d0, d1, _, _⟩ := pair_cells (show wr.heap[w.heap.size + 1]? = _ from hv)
            have HI := Lib.hid hI
            have HPx := Lib.hid hpx
            have HPs := Lib.hid hps
            have HOx := Lib.hid hox
            have Hre := Lib.hid hre
            have Hro := Lib.hid hro
            have Hrr := Lib.hid hrr
            have Hrn := Lib.hid hrn
            have Hgm := Lib.hid hgm
            have hl1 : w.heap.size + 1 < wr.heap.size := (Array.getElem?_eq_some_iff.1 hv).1
            clear hI hv hrow hpx hps hox hre hro hrr hrn hgm
            generalize hat : ((A + offY zs A false 8 k : Nat) : Int) = at_ at *
            go_wp2_with fail
            refine HG.out.mono ?_
            rintro e w3 ⟨rfl, b3⟩
            have hi3 := HI.out.later b3
            have hi4 := hi3.later ((Below.refl _ w3).alloc (Nat.le_refl _) (.cells #[.int .i64 r, .int .i64 lv] 66 (0, 0)))
            obtain ⟨p0, p1⟩ := two_cells w3 (.int .i64 r) (.int .i64 lv) 66
            have hlt4 : w3.heap.size < (w3.alloc (.cells #[.int .i64 r, .int .i64 lv] 66 (0, 0))).heap.size := by simp
            clear b3 d0 d1 HG
            generalize hw4 : w3.alloc (.cells #[.int .i64 r, .int .i64 lv] 66 (0, 0)) = w4 at *
            obtain ⟨v4, hv4, hrow4⟩ := hi4.xb
            obtain ⟨av4, cv4, rfl, _⟩ := rowP_own hrow4
            have hr4 := hi4.res
            obtain ⟨e0, e1, f0, f1⟩ := pair_cells hr4
            obtain ⟨d0, d1, g0, g1⟩ := pair_cells (show w4.heap[w.heap.size + 1]? = _ from hv4)
            have hl4 : w.heap.size + 1 < w4.heap.size := (Array.getElem?_eq_some_iff.1 hv4).1
            have hl40 : w.heap.size < w4.heap.size := by omega
            have HI4 := Lib.hid hi4
            have HRow := Lib.hid hrow4
            have HV4 := Lib.hid hv4
            have HB4 := Lib.hid hi4.below
            clear hi3 hi4 hr4 hv4 hrow4
            by_cases he : er = 0
            · subst he
              obtain ⟨hm1, hm2⟩ := Hgm.out rfl
              cases ov with
              | true =>
                have hR1 := Hro.out rfl rfl
                have hwr2 : IntKind.i64.wrap ((offY zs A false 8 k : Int) + mn) = (offY zs A false 8 k : Int) + mn := by rw [IntKind.wrap_i64]; omega
                have HR1 := Lib.hid hR1
                clear hR1
                go_wp2_with fail
                rw [HR1.out]
                refine bodyPost_ret (v := .tuple #[.agg #[.int .i64 d, .slice av4 k cv4], .int .i64 ((offY zs A false 8 k : Int) + mn), .int .i64 0]) (by simp [results, Tryz.f13, go_sem, e0, e1]) rfl ⟨.slice av4 k cv4, rfl, ?_, ?_⟩
                · simp only [psY_length]
                  exact ownsRow_baseN (ownsRow_barN (S := fun k => k = w.heap.size) HRow.out (Bar.setCell (S := fun k => k = w.heap.size) (Bar.setCell (S := fun k => k = w.heap.size) (Bar.refl _ w4) (p := ⟨w.heap.size, 0, none⟩) (fun _ => rfl) (.int .i64 d)) (p := ⟨w.heap.size, 1, none⟩) (fun _ => rfl) (.slice av4 k cv4)) (fun k e => by have := (HRow.out.lt k e).1; omega)) (by omega)
                · exact (HB4.out.setCell (p := ⟨w.heap.size, 0, none⟩) (Nat.le_refl _) _).setCell (p := ⟨w.heap.size, 1, none⟩) (Nat.le_refl _) _
              | false =>
                obtain ⟨hr0, hr63, hlv⟩ := hgr rfl rfl
                by_cases hlong : 63 < (plY zs A false 8 1 k : Int) + r
                · have HR1 := Lib.hid (Hrr.out rfl rfl hlong)
                  go_wp2_with fail
                  rw [HR1.out]
                  refine bodyPost_ret (v := .tuple #[.agg #[.int .i64 0, .slice none 0 0], .int .i64 0, .int .i64 11]) (by simp [results, Tryz.f13, go_sem, e0, e1]) rfl ⟨.slice none 0 0, rfl, World.ownsRow_nil _ _ _ _, ?_⟩
                  exact (HB4.out.setCell (p := ⟨w.heap.size, 0, none⟩) (Nat.le_refl _) _).setCell (p := ⟨w.heap.size, 1, none⟩) (Nat.le_refl _) _
                · obtain ⟨nr, rfl⟩ : ∃ nr : Nat, r = nr := ⟨r.toNat, by omega⟩
                  have HRn := Lib.hid (Hrn.out rfl rfl (by omega))
                  have HPl1 : Hid (((plY zs A false 8 1 k : Int) + nr + 1) = (plY zs A false 8 1 (k + 1) : Nat)) := by show _ = _; rw [HPx.out, Int.toNat_natCast]; omega
                  have HPl2 : Hid (plY zs A false 8 1 (k + 1) ≤ 64) := by show _ ≤ _; rw [HPx.out, Int.toNat_natCast]; omega
                  have HOf : Hid (((offY zs A false 8 k : Int) + mn) = (offY zs A false 8 (k + 1) : Nat)) := by show _ = _; rw [HOx.out]; omega
                  have HAt2 : Hid (A + offY zs A false 8 (k + 1) ≤ 8 * zs.length) := by show _ ≤ _; rw [HOx.out]; omega
                  have hwr2 : IntKind.i64.wrap ((offY zs A false 8 k : Int) + mn) = (offY zs A false 8 k : Int) + mn := by rw [IntKind.wrap_i64]; omega
                  have hsrc := srcP_one w4 nr lv
                  have HSrc := Lib.hid hsrc
                  have HRow5 := Lib.hid (HRow.out.alloc (.cells #[.int .i64 (nr : Int), .int .i64 lv] 66 (0, 0)))
                  clear hsrc
                  go_wp2_with (at_builtin; refine wpList_append_p rfl (.tmp 80) (.tmp 82) rfl (w.heap.size + 2) (.slice av4 k cv4) k (psY zs A false 8 k) rfl HRow5.out (some ⟨w4.heap.size, 0, none⟩) 1 1 [((nr : Int), lv)] rfl HSrc.out (fun e => nomatch e) (by omega) (by simp; omega) ?_; intro v5 w6 hap; have HAp := Lib.hid hap; clear hap; refine Hid.out ?_)
                  refine Lib.hid ?_
                  obtain ⟨n1, n2, n3⟩ := HI4.out.next HV4.out HRow.out HAp.out HPs.out HPl2.out HRn.out HAt2.out
                  obtain ⟨a5, c5, rfl, _⟩ := rowP_own HAp.out.1
                  obtain ⟨t0, t1, t2, t3⟩ := pair_cells (show w6.heap[w.heap.size + 1]? = _ from n1)
                  have N := Lib.hid n3
                  clear n1 n3
                  go_wp2_with fail
                  go_roundw
                  case rel => exact ⟨k + 1, by rw [HOf.out], by rw [HPl1.out], N.out⟩
                  case measure =>
                    have := HOf.out
                    have := HAt2.out
                    simp only [intOf]
                    omega
            · have HR1 := Lib.hid (Hre.out he)
              have hq : (er != 0) = true := by simpa using he
              go_wp2_with fail
              rw [HR1.out]
              refine bodyPost_ret (v := .tuple #[.agg #[.int .i64 0, .slice none 0 0], .int .i64 0, .int .i64 er]) (by simp [results, Tryz.f13, go_sem, e0, e1]) rfl ⟨.slice none 0 0, rfl, World.ownsRow_nil _ _ _ _, ?_⟩
              exact (HB4.out.setCell (p := ⟨w.heap.size, 0, none⟩) (Nat.le_refl _) _).setCell (p := ⟨w.heap.size, 1, none⟩) (Nat.le_refl _) _

end Go.Proofs.YtbcfiafgolcbpaaGreatDoor
