/- The kit's CopyBlock; the law's over (praxinoscopelaw12). -/
import Derived.Test.YtbcfiafgolcbpaaGreatDoorYLaw
namespace Go.Proofs.YtbcfiafgolcbpaaGreatDoor
open Go.RowKit Go.Shelf
set_option linter.unusedVariables false

theorem two_setC {W : World} {g : Nat} {a b u v : Value} {t : TypeId} (h : W.heap[g]? = some (.cells #[a, b] t (0, 0))) : ((W.setCell ⟨g, 0, none⟩ u).setCell ⟨g, 1, none⟩ v).heap[g]? = some (.cells #[u, v] t (0, 0)) := by
  have h1 := heap_setCell_same W g 0 _ _ u h
  have h2 := heap_setCell_same _ g 1 _ _ v h1
  rw [h2]
  rfl

set_option maxRecDepth 100000 in
set_option maxHeartbeats 2000000 in
theorem copyBlock_any {n₀ : Nat} {w : World} {av : Option Addr} {len cap : Nat} {ps : List (Int × Int)} (hR : RowP n₀ w av len cap ps) (hn : n₀ ≤ w.heap.size) (hlen : len ≤ 1000000) (dc : Int) :
    Calls Tryz.prog 17 #[blkV dc (.slice av len cap)] w fun e w' => ∃ v, e = .returned (blkV dc v) ∧ w'.ownsRow w.heap.size 66 2 v len (cellsQ ps) ∧ Below w.heap.size w w' := by
  have HNc := Lib.hid hR.nocap
  have hbx := ((Below.refl w.heap.size w).alloc (Nat.le_refl _) (.cells #[.int .i64 dc, .slice av len cap] 27 (0, 0))).alloc (by simp) (.cells #[.int .i64 0, .slice none 0 0] 27 (0, 0))
  have HSr := Lib.hid (hR.below (hbx.mono hn)).src
  obtain ⟨x0, x1⟩ := two_cells w (.int .i64 dc) (.slice av len cap) 27
  have HBx := Lib.hid hbx
  have hz : ((w.alloc (.cells #[.int .i64 dc, .slice av len cap] 27 (0, 0))).alloc (.cells #[.int .i64 0, .slice none 0 0] 27 (0, 0))).heap.size = w.heap.size + 1 + 1 := by simp
  have HE : Hid ((((w.alloc (.cells #[.int .i64 dc, .slice av len cap] 27 (0, 0))).alloc (.cells #[.int .i64 0, .slice none 0 0] 27 (0, 0))).alloc (.cells #[] 66 (0, 0))).ownsRow (w.heap.size + 2) 66 2 (.slice (some ⟨w.heap.size + 1 + 1, 0, none⟩) 0 0) 0 (cellsQ [])) := by
    have h := own_emptyP ((w.alloc (.cells #[.int .i64 dc, .slice av len cap] 27 (0, 0))).alloc (.cells #[.int .i64 0, .slice none 0 0] 27 (0, 0)))
    rw [hz] at h
    exact h
  have k0 := heap_keep (heap_keep (World.alloc_heap_new w (.cells #[.int .i64 dc, .slice av len cap] 27 (0, 0))) (.cells #[.int .i64 0, .slice none 0 0] 27 (0, 0))) (.cells #[] 66 (0, 0))
  have k1 : (((w.alloc (.cells #[.int .i64 dc, .slice av len cap] 27 (0, 0))).alloc (.cells #[.int .i64 0, .slice none 0 0] 27 (0, 0))).alloc (.cells #[] 66 (0, 0))).heap[w.heap.size + 1]? = some (.cells #[.int .i64 0, .slice none 0 0] 27 (0, 0)) := heap_keep (heap_new _ (by simp) _) _
  have HK := Lib.hid (And.intro k0 k1)
  clear hz k0 k1
  clear hR hbx
  go_enter Tryz.func17, Tryz.ntmps17
  go_wp2_with (at_builtin; go_loud (refine wpList_append_p rfl (.tmp 3) (.tmp 5) rfl (w.heap.size + 2) _ 0 [] rfl HE.out av len cap ps rfl (HSr.out.alloc _) HNc.out (by omega) (by simp) ?_); intro v1 w1 hap; have HAp := Lib.hid hap; clear hap; refine Hid.out ?_)
  refine Lib.hid ?_
  obtain ⟨o1, g1, _⟩ := HAp.out
  have hob : ∀ k, (Value.slice (some ⟨w.heap.size + 1 + 1, 0, none⟩) 0 0).ownBlock = some k → k = w.heap.size + 2 := fun k e => by
    simp only [Value.ownBlock, Option.some.injEq] at e
    omega
  have n0 := (g1.block w.heap.size (by simp <;> omega) (fun e => by have := hob _ e.symm; omega)).trans HK.out.1
  have n1 := (g1.block (w.heap.size + 1) (by simp <;> omega) (fun e => by have := hob _ e.symm; omega)).trans HK.out.2
  rw [Nat.zero_add, List.nil_append] at o1
  obtain ⟨a1, c1, rfl, _⟩ := rowP_own o1
  obtain ⟨d0, d1, g0, g1'⟩ := pair_cells n0
  obtain ⟨e0, e1, f0, f1⟩ := pair_cells n1
  have hl0 := (Array.getElem?_eq_some_iff.1 n0).1
  have hl1 := (Array.getElem?_eq_some_iff.1 n1).1
  have HO := Lib.hid o1
  have HB1 : Hid (Below w.heap.size w w1) := (HBx.out.alloc (by simp; omega) _).grown g1 (by simp; omega) (fun k e => by have := hob _ e; omega)
  have m1 := two_setC (u := .int .i64 dc) (v := .slice a1 len c1) ((heap_setCell_other w1 ⟨w.heap.size, 1, none⟩ (w.heap.size + 1) (.slice a1 len c1) (by simp)).trans n1)
  obtain ⟨q0, q1, _, _⟩ := pair_cells m1
  clear n0 n1 g1 o1 x0 x1 m1
  go_wp2_with fail
  refine bodyPost_ret (v := .agg #[.int .i64 dc, .slice a1 len c1]) (by simp [results, Tryz.f17, go_sem, q0, q1]) rfl ⟨.slice a1 len c1, rfl, ?_, ?_⟩
  · have hb := Bar.setCell (S := fun k => k < w.heap.size + 2) (Bar.setCell (S := fun k => k < w.heap.size + 2) (Bar.setCell (S := fun k => k < w.heap.size + 2) (Bar.refl (fun k => k < w.heap.size + 2) w1) (p := ⟨w.heap.size, 1, none⟩) (fun _ => by simp) (.slice a1 len c1)) (p := ⟨w.heap.size + 1, 0, none⟩) (fun _ => by simp) (.int .i64 dc)) (p := ⟨w.heap.size + 1, 1, none⟩) (fun _ => by simp) (.slice a1 len c1)
    exact ownsRow_baseN (ownsRow_barN HO.out hb (fun k e => by have := (HO.out.lt k e).1; omega)) (by omega)
  · exact ((HB1.out.setCell (p := ⟨w.heap.size, 1, none⟩) (Nat.le_refl _) _).setCell (p := ⟨w.heap.size + 1, 0, none⟩) (by simp) _).setCell (p := ⟨w.heap.size + 1, 1, none⟩) (by simp) _

set_option maxRecDepth 100000 in
set_option maxHeartbeats 2000000 in
theorem over12_any {w : World} {base n : Nat} {v : Value} {ps : List (Int × Int)} (h : w.ownsRow base 66 2 v n (cellsQ ps)) (hn : n ≤ 1000000) (dc : Int) :
    Calls Tryz.prog 15 #[blkV dc v] w fun e w' => e = .returned (.tuple #[]) ∧ Bar (fun k => v.ownBlock = some k) w w' := by
  rcases id h.2 with ⟨rfl, rfl⟩ | ⟨g, cap, cur, rfl, _, hg, hc, hm, hcs, _⟩
  · obtain ⟨x0, x1⟩ := two_cells w (.int .i64 dc) (.slice none 0 0) 27
    have hb0 : Bar (fun k => (Value.slice none 0 0).ownBlock = some k) w (w.alloc (.cells #[.int .i64 dc, .slice none 0 0] 27 (0, 0))) := (Bar.refl _ w).alloc _
    go_enter Tryz.func15, Tryz.ntmps15
    go_wp2_with fail
    generalize w.alloc (.cells #[.int .i64 dc, .slice none 0 0] 27 (0, 0)) = w1 at *
    go_loopw [2] (fun i wr => i = .int .i64 0 ∧ w1 = wr) (fun _ _ => 0)
    case atStart => exact ⟨rfl, rfl⟩
    case round =>
      obtain ⟨rfl, rfl⟩ := hrel
      go_wp2_with fail
      go_end0
      exact ⟨rfl, hb0⟩
  · obtain ⟨x0, x1⟩ := two_cells w (.int .i64 dc) (.slice (some ⟨g, 0, none⟩) n cap) 27
    have hb0 : Bar (fun k => k = g) w (w.alloc (.cells #[.int .i64 dc, .slice (some ⟨g, 0, none⟩) n cap] 27 (0, 0))) := (Bar.refl _ w).alloc _
    have hgl := (Array.getElem?_eq_some_iff.1 hg).1
    have hg0 := heap_keep hg (.cells #[.int .i64 dc, .slice (some ⟨g, 0, none⟩) n cap] 27 (0, 0))
    have hlt0 : w.heap.size < (w.alloc (.cells #[.int .i64 dc, .slice (some ⟨g, 0, none⟩) n cap] 27 (0, 0))).heap.size := by simp
    have HB0 := Lib.hid hb0
    have HG0 := Lib.hid hg0
    clear h hb0 hg hg0
    go_enter Tryz.func15, Tryz.ntmps15
    go_wp2_with fail
    generalize w.alloc (.cells #[.int .i64 dc, .slice (some ⟨g, 0, none⟩) n cap] 27 (0, 0)) = w1 at *
    go_loopw [2] (fun i wr => ∃ (j : Nat) (cu : Array Value), i = .int .i64 j ∧ j ≤ n ∧ wr.heap[g]? = some (.cells cu 66 (0, 0)) ∧ cu.size = cur.size ∧ wr.cell? ⟨w.heap.size, 1, none⟩ = some (.slice (some ⟨g, 0, none⟩) n cap) ∧ Bar (fun k => k = g) w wr) (fun i _ => n - (intOf i).toNat)
    case atStart => exact ⟨0, cur, rfl, by omega, HG0.out, rfl, x1, HB0.out⟩
    case round =>
      obtain ⟨j, cu, rfl, hj, hgr, hcu, hbox, hbar⟩ := hrel
      by_cases hjn : j < n
      · have q1 : (j : Int) < (n : Int) := by omega
        have q2 : (0 : Int) ≤ (j : Int) := by omega
        obtain ⟨u0, c0⟩ : ∃ u, wr.cell? ⟨g, j * 2, none⟩ = some u := ⟨cu[j * 2]'(by omega), by simp [World.cell?, hgr, show j * 2 < cu.size by omega]⟩
        obtain ⟨u1, c1⟩ : ∃ u, wr.cell? ⟨g, j * 2 + 1, none⟩ = some u := ⟨cu[j * 2 + 1]'(by omega), by simp [World.cell?, hgr, show j * 2 + 1 < cu.size by omega]⟩
        have f0 : wr.frozen? ⟨g, j * 2, none⟩ = false := Lib.frozen_of_heap hgr _
        have f1 : wr.frozen? ⟨g, j * 2 + 1, none⟩ = false := Lib.frozen_of_heap hgr _
        have hlt : g < wr.heap.size := (Array.getElem?_eq_some_iff.1 hgr).1
        have HGr := Lib.hid hgr
        have HBar := Lib.hid hbar
        have HCu := Lib.hid hcu
        clear hgr hbar hcu
        have hbx : w.heap.size ≠ g := by omega
        have k1 := heap_setCell_same wr g (j * 2) _ _ (.int .i64 (-7)) HGr.out
        have k2 := heap_setCell_same _ g (j * 2 + 1) _ _ (.int .i64 99) k1
        have k3 : ((wr.setCell ⟨g, j * 2, none⟩ (.int .i64 (-7))).setCell ⟨g, j * 2 + 1, none⟩ (.int .i64 99)).cell? ⟨w.heap.size, 1, none⟩ = some (.slice (some ⟨g, 0, none⟩) n cap) :=
          (World.cell?_of_block ((heap_setCell_other _ _ _ _ (by simpa using hbx)).trans (heap_setCell_other _ _ _ _ (by simpa using hbx)))).trans hbox
        have K := Lib.hid (And.intro k2 k3)
        clear k1 k2 k3
        go_wp2_with fail
        refine ⟨⟨j + 1, _, by congr 1, by omega, K.out.1, ?_, K.out.2, Bar.setCell (S := fun k => k = g) (Bar.setCell (S := fun k => k = g) HBar.out (p := ⟨g, j * 2, none⟩) (fun _ => rfl) _) (p := ⟨g, j * 2 + 1, none⟩) (fun _ => rfl) _⟩, by simp only [intOf]; omega⟩
        simpa using HCu.out
      · obtain rfl : j = n := by omega
        have HBar := Lib.hid hbar
        clear hgr hbar hcu
        go_wp2_with fail
        go_end0
        exact ⟨rfl, HBar.out.trans (Bar.refl (fun _ => False) _) (fun _ _ e => e.elim) |> fun hb => ⟨hb.os, hb.tape, hb.output, hb.size, fun k hk hn => hb.block k hk (fun e => hn (by subst e; rfl))⟩⟩

end Go.Proofs.YtbcfiafgolcbpaaGreatDoor
