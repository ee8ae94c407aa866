/- The contract of the law QueueNew: it returns true, and nothing that lay is changed. -/
import Derived.Test.YtmampneedmodeaaDoorQKnown
import Derived.Test.YtmampneedmodeaaDoorPick
namespace Go.Proofs.YtmampneedmodeaaDoor
open Go.RowKit Go.Shelf
set_option linter.unusedVariables false

/-- bytes that came in, with their block -/
def Row8 (n₀ : Nat) (w : World) (a : Option Addr) (len cap : Nat) (zs : List UInt8) : Prop :=
  zs.length = len ∧ len ≤ cap ∧ cap ≤ 9223372036854775807 ∧ (cap = 0 ∨ ∃ b off, a = some ⟨b, off, none⟩ ∧ b < n₀ ∧ ∀ j, j < len → w.cell? ⟨b, off + j, none⟩ = some (.int .u8 ((zs[j]?.getD 0).toNat)))
theorem row8_of_row {w : World} {a : Option Addr} {len cap : Nat} {z : List Int} (h : IsRow .u8 w a len cap z) : ∃ zs, Row8 w.heap.size w a len cap zs := by
  rcases h with ⟨rfl, rfl, rfl, rfl⟩ | ⟨x, rfl, hlc, hm, hz, hc, hw⟩
  · exact ⟨[], rfl, Nat.le_refl _, by omega, .inl rfl⟩
  · have hlen : ((z.take len).map fun n => UInt8.ofNat n.toNat).length = len := by simp; omega
    refine ⟨(z.take len).map fun n => UInt8.ofNat n.toNat, hlen, hlc, by unfold maxLen at hm; omega, ?_⟩
    by_cases h0 : cap = 0
    · exact .inl h0
    · right
      obtain ⟨b, off, spot⟩ := x
      have hc0 := hc 0 (by omega)
      have hspot : spot = none := by simpa [Addr.add] using World.cell?_spot hc0
      subst hspot
      refine ⟨b, off, rfl, by simpa [Addr.add] using cell_lt hc0, fun j hj => ?_⟩
      have hcj := hc j (by omega)
      have hadd : (⟨b, off, none⟩ : Addr).add j = ⟨b, off + j, none⟩ := by unfold Addr.add; split <;> simp_all
      rw [hadd] at hcj
      rw [hcj]
      have hm : z[j]'(by omega) ∈ z := List.getElem_mem _
      have hb := wf_u8 (hw _ hm)
      have e1 : z.getD j 0 = z[j]'(by omega) := by simp [List.getD_eq_getElem?_getD, show j < z.length by omega]
      rw [e1]
      have e2 : (((z.take len).map fun n => UInt8.ofNat n.toNat)[j]?.getD 0) = UInt8.ofNat (z[j]'(by omega)).toNat := by
        simp [hj, show j < z.length by omega]
      rw [e2, UInt8.toNat_ofNat', Nat.mod_eq_of_lt (by simp; omega)]
      congr 2
      omega
theorem Row8.later {n₀ : Nat} {w w' : World} {a : Option Addr} {len cap : Nat} {zs : List UInt8} (h : Row8 n₀ w a len cap zs) (hb : Below n₀ w w') : Row8 n₀ w' a len cap zs := by
  obtain ⟨h1, h2, h3, h4⟩ := h
  refine ⟨h1, h2, h3, h4.imp id fun ⟨b, off, e, hlt, hc⟩ => ⟨b, off, e, hlt, fun j hj => ?_⟩⟩
  exact (hb.cell (p := ⟨b, off + j, none⟩) hlt).trans (hc j hj)
theorem Row8.bytA {n₀ g : Nat} {w : World} {a : Option Addr} {len cap : Nat} {zs : List UInt8} (h : Row8 n₀ w a len cap zs) (hn : n₀ ≤ w.heap.size) (hg : n₀ ≤ g) : BytA w g (.slice a len cap) zs := by
  obtain ⟨rfl, h2, h3, h4⟩ := h
  exact ⟨a, cap, rfl, h2, h3, h4.imp id fun ⟨b, off, e, hlt, hc⟩ => ⟨b, off, e, fun _ => ⟨by omega, by omega⟩, hc⟩⟩
theorem Row8.byt {n₀ k : Nat} {w : World} {a : Option Addr} {len cap : Nat} {zs : List UInt8} (h : Row8 n₀ w a len cap zs) (hn : n₀ ≤ w.heap.size) (hk : k ≤ len) (hl : k ≤ 1152921504606846975) : Byt w.heap.size w (.slice a k cap) (zs.take k) := by
  obtain ⟨rfl, h2, h3, h4⟩ := h
  have e : (zs.take k).length = k := by simp; omega
  refine ⟨a, cap, by rw [e], by rw [e]; exact hl, ?_⟩
  rcases h4 with rfl | ⟨b, off, rfl, hlt, hc⟩
  · left; exact List.eq_nil_of_length_eq_zero (by omega)
  · right
    refine ⟨b, off, rfl, by omega, fun j hj => ?_⟩
    rw [e] at hj
    rw [hc j (by omega), List.getElem?_take, if_pos hj]

theorem new_fed (A ys : List UInt8) (m : Nat) : fedL ⟨m, A, 8 * A.length, false⟩ ys = ys.take m := by
  simp only [fedL, Bool.false_eq_true, if_false]
  congr 1
  omega
theorem new_feedQ (A ys : List UInt8) (m : Nat) : feedQ ⟨m, A, 8 * A.length, false⟩ ys = ⟨m, A ++ ys.take m, 8 * A.length, false⟩ := by
  rw [feedQ, new_fed]
theorem new_drop (A ys : List UInt8) (m n : Nat) (h : n = min m ys.length) : ys.take n = (A ++ ys.take m).drop (8 * A.length / 8) := by
  rw [show 8 * A.length / 8 = A.length by omega, List.drop_left, h]
  apply List.ext_getElem?
  intro i
  simp only [List.getElem?_take]
  by_cases h1 : i < m
  · by_cases h2 : i < ys.length
    · rw [if_pos (by omega), if_pos h1]
    · rw [if_neg (by omega), if_pos h1, List.getElem?_eq_none (by omega)]
  · rw [if_neg (by omega), if_neg h1]

end Go.Proofs.YtmampneedmodeaaDoor
