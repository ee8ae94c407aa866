/- Bytes in a block of their own (general). -/
import Derived.Test.YtenplmmongphoaaZArr
import Derived.Test.YtenplmmongphoaaLPlain
namespace Go.Proofs.Ytenplmmongphoaa
open Go.RowKit Go.Shelf Go.Sort
set_option linter.unusedVariables false

/-- bytes in a block of their own -/
def BytR (w : World) (g : Nat) (zs : List UInt8) : Prop := w.heap[g]? = some (.cells (u8s zs).toArray 5 (0, 0))
theorem BytR.lt {w : World} {g : Nat} {zs : List UInt8} (h : BytR w g zs) : g < w.heap.size := (Array.getElem?_eq_some_iff.1 h).1
theorem BytR.cell {w : World} {g : Nat} {zs : List UInt8} (h : BytR w g zs) {k : Nat} (hk : k < zs.length) : w.cell? ⟨g, k, none⟩ = some (.int .u8 (zs[k]?.getD 0).toNat) := by
  unfold BytR at h
  simp [World.cell?, h, u8s, hk]
theorem BytR.frozen {w : World} {g : Nat} {zs : List UInt8} (h : BytR w g zs) (k : Nat) : w.frozen? ⟨g, k, none⟩ = false := by
  unfold BytR at h
  simp [World.frozen?, h]
theorem BytR.set {w : World} {g : Nat} {zs : List UInt8} (h : BytR w g zs) (k : Nat) (z : UInt8) : BytR (w.setCell ⟨g, k, none⟩ (.int .u8 z.toNat)) g (zs.set k z) := by
  have := heap_setCell_same w g k _ _ (.int .u8 z.toNat) h
  unfold BytR
  rw [this]
  simp [u8s, List.map_set]
theorem BytR.other {w : World} {g : Nat} {zs : List UInt8} (h : BytR w g zs) {p : Addr} (hp : g ≠ p.block) (v : Value) : BytR (w.setCell p v) g zs := (heap_setCell_other w p g v hp).trans h
theorem BytR.below {n : Nat} {w w' : World} {g : Nat} {zs : List UInt8} (h : BytR w g zs) (hb : Below n w w') (hg : g < n) : BytR w' g zs := (hb.block g hg).trans h
theorem BytR.bar {S : Nat → Prop} {w w' : World} {g : Nat} {zs : List UInt8} (h : BytR w g zs) (hb : Bar S w w') (hg : ¬ S g) : BytR w' g zs := (hb.block g h.lt hg).trans h
theorem BytR.own {w : World} {g : Nat} {zs : List UInt8} (h : BytR w g zs) {n : Nat} (hn : zs.length = n) (hl : n ≤ 1000000) {base : Nat} (hg : base ≤ g) : w.ownsRow base 5 1 (.slice (some ⟨g, 0, none⟩) n n) n (u8s zs) := by
  subst hn
  have hmx : (1000000 : Nat) ≤ maxLen := by decide
  exact ⟨by simp, .inr ⟨g, zs.length, _, rfl, hg, h, Nat.le_refl _, by omega, by simp, by rw [List.take_of_length_le (by simp)]⟩⟩
def zeroB64 : List UInt8 := List.replicate 64 0
theorem made64b (w : World) : (Instr.makeSlice 22 (.int .i64 64) (.int .i64 64)).run Try.prog w = .ok (.slice (some ⟨w.heap.size, 0, none⟩) 64 64) (w.alloc (.cells (u8s zeroB64).toArray 5 (0, 0))) := by kernel_rfl
theorem bytR_new (w : World) (zs : List UInt8) : BytR (w.alloc (.cells (u8s zs).toArray 5 (0, 0))) w.heap.size zs := World.alloc_heap_new _ _
theorem BytR.byt {w : World} {g : Nat} {zs : List UInt8} (h : BytR w g zs) {n : Nat} (hn : zs.length = n) (hl : n ≤ 1000000) : Byt w.heap.size w (.slice (some ⟨g, 0, none⟩) n n) zs := by
  have h' := h
  subst hn
  exact byt_own (h.own rfl hl (Nat.zero_le _)) (by omega) (Nat.le_refl _)
/-- bytes, so many of them told -/
def upU (F : Nat → UInt8) (k : Nat) : List UInt8 := (List.range 64).map fun j => if j < k then F j else 0
theorem upU_length (F : Nat → UInt8) (k : Nat) : (upU F k).length = 64 := by simp [upU]
theorem upU_get (F : Nat → UInt8) (k : Nat) {j : Nat} (hj : j < 64) : (upU F k)[j]? = some (if j < k then F j else 0) := by simp [upU, hj]
theorem upU_zero (F : Nat → UInt8) : upU F 0 = zeroB64 := listB_ext (upU_length _ _) rfl (fun j hj => by
  rw [upU_get _ _ hj, if_neg (by omega)]
  unfold zeroB64
  rw [List.getElem?_replicate, if_pos hj])
theorem upU_step (F : Nat → UInt8) {k : Nat} (hk : k < 64) : (upU F k).set k (F k) = upU F (k + 1) := listB_ext (n := 64) (by simp [upU]) (upU_length _ _) (fun j hj => by
  rw [upU_get _ _ hj, List.getElem?_set]
  by_cases h : k = j
  · rw [if_pos h, if_pos (by rw [upU_length]; omega), if_pos (by omega), h]
  · rw [if_neg h, upU_get _ _ hj]
    by_cases h2 : j < k
    · rw [if_pos h2, if_pos (by omega)]
    · rw [if_neg h2, if_neg (by omega)])

end Go.Proofs.Ytenplmmongphoaa
