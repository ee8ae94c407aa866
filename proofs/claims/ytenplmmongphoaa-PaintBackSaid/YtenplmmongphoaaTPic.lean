/- paint: a picture's bytes within a block that may hold more; what a paint changes of it. -/
import Derived.Test.YtenplmmongphoaaBytR
namespace Go.Proofs.Ytenplmmongphoaa
open Go.RowKit Go.Shelf Go.Sort
set_option linter.unusedVariables false

/-- bytes in a block, and what stands ahead of them and behind -/
def PicW (W : World) (g : Nat) (pre : List Value) (zs : List UInt8) (post : List Value) : Prop := W.heap[g]? = some (.cells (pre ++ (u8s zs ++ post)).toArray 5 (0, 0))
theorem PicW.lt {W : World} {g : Nat} {pre post : List Value} {zs : List UInt8} (h : PicW W g pre zs post) : g < W.heap.size := (Array.getElem?_eq_some_iff.1 h).1
theorem PicW.cell {W : World} {g : Nat} {pre post : List Value} {zs : List UInt8} (h : PicW W g pre zs post) {k : Nat} (hk : k < zs.length) : W.cell? ⟨g, pre.length + k, none⟩ = some (.int .u8 ((zs[k]?.getD 0).toNat)) := by
  unfold PicW at h
  have e : (pre ++ (u8s zs ++ post))[pre.length + k]? = some (.int .u8 ((zs[k]?.getD 0).toNat)) := by
    rw [List.getElem?_append_right (by omega), List.getElem?_append_left (by simp; omega)]
    simp [u8s, hk]
  simp only [World.cell?, h]
  simpa using e
theorem PicW.frozen {W : World} {g : Nat} {pre post : List Value} {zs : List UInt8} (h : PicW W g pre zs post) (k : Nat) : W.frozen? ⟨g, k, none⟩ = false := by
  unfold PicW at h
  simp [World.frozen?, h]
theorem PicW.set {W : World} {g : Nat} {pre post : List Value} {zs : List UInt8} (h : PicW W g pre zs post) {k : Nat} (hk : k < zs.length) (z : UInt8) : PicW (W.setCell ⟨g, pre.length + k, none⟩ (.int .u8 z.toNat)) g pre (zs.set k z) post := by
  have := heap_setCell_same W g (pre.length + k) _ _ (.int .u8 z.toNat) h
  unfold PicW
  rw [this]
  congr 2
  apply Array.ext'
  simp only [Array.toList_setIfInBounds]
  rw [List.set_append_right _ _ (by omega), show pre.length + k - pre.length = k by omega, List.set_append_left _ _ (by simp; omega)]
  simp [u8s, List.map_set]
theorem PicW.other {W : World} {g : Nat} {pre post : List Value} {zs : List UInt8} (h : PicW W g pre zs post) {p : Addr} (hp : g ≠ p.block) (v : Value) : PicW (W.setCell p v) g pre zs post := (heap_setCell_other W p g v hp).trans h
theorem PicW.bar {S : Nat → Prop} {W W' : World} {g : Nat} {pre post : List Value} {zs : List UInt8} (h : PicW W g pre zs post) (hb : Bar S W W') (hg : ¬ S g) : PicW W' g pre zs post := (hb.block g h.lt hg).trans h
theorem PicW.below {n : Nat} {W W' : World} {g : Nat} {pre post : List Value} {zs : List UInt8} (h : PicW W g pre zs post) (hb : Below n W W') (hg : g < n) : PicW W' g pre zs post := (hb.block g hg).trans h
/-- the bytes of a slice of it -/
theorem PicW.byt {W : World} {g n : Nat} {pre post : List Value} {zs : List UInt8} (h : PicW W g pre zs post) (hn : g < n) (hl : zs.length ≤ 1000000) (cap : Nat) : Byt n W (.slice (some ⟨g, pre.length, none⟩) zs.length cap) zs :=
  ⟨_, cap, rfl, by omega, .inr ⟨g, pre.length, rfl, hn, fun j hj => h.cell hj⟩⟩
/-- a lent row -/
theorem picW_lent {base : Nat} {W : World} {v : Value} {zs : List UInt8} (h : Lent base W v zs) : ∃ g cap rest, v = .slice (some ⟨g, 0, none⟩) zs.length cap ∧ base ≤ g ∧ zs.length ≤ cap ∧ cap ≤ 9223372036854775807 ∧ (zs.length + 4) + rest.length = cap ∧ PicW W g [] zs (u8s tail4 ++ rest) := by
  obtain ⟨g, cap, rfl, hg, hl, h2⟩ := h
  rcases h2 with ⟨h2, -⟩ | ⟨g', cap', cur, e, hb, hh, h1, h3, h4, h5⟩
  · cases h2
  · cases e
    refine ⟨g, cap, cur.toList.drop (zs.length + 4), rfl, hg, by omega, h3, by simp; omega, ?_⟩
    unfold PicW
    rw [hh]
    congr 2
    apply Array.ext'
    have e2 : cur.toList = cur.toList.take (zs.length + 4) ++ cur.toList.drop (zs.length + 4) := (List.take_append_drop _ _).symm
    simp only [Nat.mul_one] at h5
    simp only [List.nil_append]
    conv => lhs; rw [e2, h5]
    simp [u8s]
theorem lent_picW {base : Nat} {W : World} {g cap : Nat} {zs : List UInt8} {rest : List Value} (hg : base ≤ g) (hc : cap ≤ 9223372036854775807) (hl : (zs.length + 4) + rest.length = cap) (h : PicW W g [] zs (u8s tail4 ++ rest)) : Lent base W (.slice (some ⟨g, 0, none⟩) zs.length cap) zs := by
  refine ⟨g, cap, rfl, hg, by simp [tail4], .inr ⟨g, cap, _, rfl, hg, h, by omega, hc, by simp [tail4]; omega, ?_⟩⟩
  simp only [List.nil_append]
  have e : (u8s zs ++ (u8s tail4 ++ rest)) = u8s (zs ++ tail4) ++ rest := by simp [u8s]
  rw [e]
  have e3 : (u8s (zs ++ tail4)).length = (zs.length + 4) * 1 := by simp [tail4]
  show List.take ((zs.length + 4) * 1) (u8s (zs ++ tail4) ++ rest) = u8s (zs ++ tail4)
  rw [← e3]
  exact List.take_left ..

end Go.Proofs.Ytenplmmongphoaa
