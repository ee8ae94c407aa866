/- Contracts of slices.Clone at bytes, of (*bits.Pen).Bytes, of the kit's SameBytes and OverBytes. -/
import Derived.Test.YtmampneedmodeaaDoorText
import Derived.Laws.BytesArg
import Derived.Lib.LazyBuf
namespace Go.Proofs.YtmampneedmodeaaDoor
open Go.RowKit Go.Shelf
set_option linter.unusedVariables false

theorem byt_own {w : World} {base n₀ : Nat} {v : Value} {zs : List UInt8} (h : w.ownsRow base 5 1 v zs.length (u8s zs)) (hl : zs.length ≤ 1152921504606846975) (hn : w.heap.size ≤ n₀) : Byt n₀ w v zs := by
  rcases id h.2 with ⟨rfl, hz⟩ | ⟨g, cap, cur, rfl, _, hg, _⟩
  · have : zs = [] := List.eq_nil_of_length_eq_zero hz
    subst this
    exact ⟨none, 0, rfl, hl, .inl rfl⟩
  · refine ⟨_, cap, rfl, hl, .inr ⟨g, 0, rfl, Nat.lt_of_lt_of_le (Array.getElem?_eq_some_iff.1 hg).1 hn, fun j hj => ?_⟩⟩
    have := h.cellAt j (by omega)
    simp only [Nat.zero_add]
    rw [this]
    simp [hj]

theorem conv_byt {n₀ : Nat} {w : World} {sv : Value} {zs : List UInt8} (hB : Byt n₀ w sv zs) : (convert 22 9 sv).run Tryd.prog w = .ok (.string ⟨zs.toArray⟩) w := by
  obtain ⟨a, cap, rfl, hl, hz⟩ := hB
  rcases hz with rfl | ⟨b, off, rfl, _, hc⟩
  · cases a with
    | none => exact run_convert_bytes_nil w 22 5 Tryd.underlying22 Tryd.underlying5 0 cap 9 Tryd.underlying9
    | some x =>
      rw [run_convert_bytes_string w 22 9 5 _ _ _ Tryd.underlying22 Tryd.underlying5 Tryd.underlying9]
      have := run_bytesToString (P := Tryd.prog) w x 0 cap [] (by simp [loadCells, loadCellsFrom])
      simp only [List.foldl_nil] at this
      exact this
  · have h := run_convert_bytes_arg (P := Tryd.prog) w 22 5 Tryd.underlying22 Tryd.underlying5 b off zs.length cap (zs.map fun z => (z.toNat : Int)) (by simp)
      (fun i hi => by rw [hc i hi]; simp [hi]) 9 Tryd.underlying9
    rw [h]
    simp [strOfNums, Function.comp_def]

def Cloned (w w' : World) (e : Ending) (zs : List UInt8) : Prop := ∃ v, e = .returned v ∧ w'.ownsRow w.heap.size 5 1 v zs.length (u8s zs) ∧ Below w.heap.size w w'

end Go.Proofs.YtmampneedmodeaaDoor
