/- A slice of bytes that came in, as the contracts take it. -/
import Derived.Test.YtpmdeoiajnfabaaRead
import Derived.OpenShut
namespace Go.Proofs.Ytpmdeoiajnfabaa
open Go.RowKit
set_option linter.unusedVariables false

/-- a slice of integers that came in: nil, or a row of cells -/
def IsRow (k : IntKind) (w : World) (a : Option Addr) (len cap : Nat) (zs : List Int) : Prop :=
  (a = none ∧ len = 0 ∧ cap = 0 ∧ zs = []) ∨
  ∃ x, a = some x ∧ len ≤ cap ∧ cap ≤ maxLen ∧ zs.length = cap ∧ (∀ i, i < zs.length → w.cell? (x.add i) = some (.int k (zs.getD i 0))) ∧ ∀ n ∈ zs, (Lit.int k n).wf = true

theorem wf_u8 {n : Int} (h : (Lit.int .u8 n).wf = true) : 0 ≤ n ∧ n ≤ 255 := bounds_u8 h
theorem wf_i64 {n : Int} (h : (Lit.int .i64 n).wf = true) : -9223372036854775808 ≤ n ∧ n ≤ 9223372036854775807 := bounds_i64 h
theorem cell_lt {w : World} {p : Addr} {v : Value} (h : w.cell? p = some v) : p.block < w.heap.size := by
  false_or_by_contra
  rename_i hn
  have : w.heap[p.block]? = none := Array.getElem?_eq_none (by omega)
  simp [World.cell?, this] at h

theorem byt_of_row {w : World} {a : Option Addr} {len cap : Nat} {z : List Int} (h : IsRow .u8 w a len cap z) (hl : len ≤ 1152921504606846975) :
    ∃ zs : List UInt8, zs.length = len ∧ Byt w.heap.size w (.slice a len cap) zs := by
  rcases h with ⟨rfl, rfl, rfl, rfl⟩ | ⟨x, rfl, hlc, _, hz, hc, hw⟩
  · exact ⟨[], rfl, none, 0, rfl, by simp, .inl rfl⟩
  · have hlen : ((z.take len).map fun n => UInt8.ofNat n.toNat).length = len := by simp; omega
    refine ⟨(z.take len).map fun n => UInt8.ofNat n.toNat, hlen, some x, cap, by rw [hlen], by rw [hlen]; exact hl, ?_⟩
    by_cases h0 : len = 0
    · left; subst h0; simp
    · right
      obtain ⟨b, off, spot⟩ := x
      have hc0 := hc 0 (by omega)
      have hspot : spot = none := by simpa [Addr.add] using World.cell?_spot hc0
      subst hspot
      refine ⟨b, off, rfl, by simpa [Addr.add] using cell_lt hc0, fun j hj => ?_⟩
      rw [hlen] at hj
      have hcj := hc j (by omega)
      have hadd : (⟨b, off, none⟩ : Addr).add j = ⟨b, off + j, none⟩ := by unfold Addr.add; split <;> simp_all
      rw [hadd] at hcj
      rw [hcj]
      have hm : z[j]'(by omega) ∈ z := List.getElem_mem _
      have hb := wf_u8 (hw _ hm)
      have e1 : z.getD j 0 = z[j]'(by omega) := by simp [List.getD_eq_getElem?_getD, show j < z.length by omega]
      rw [e1]
      have e2 : (((z.take len).map fun n => UInt8.ofNat n.toNat)[j]?.getD 0) = UInt8.ofNat (z[j]'(by omega)).toNat := by
        simp [hj, show j < z.length by omega]
      rw [e2, UInt8.toNat_ofNat', Nat.mod_eq_of_lt (by simp; omega)]
      congr 2
      omega

theorem Byt.later {w W : World} {sv : Value} {zs : List UInt8} (h : Byt w.heap.size w sv zs) (hb : Below w.heap.size w W) : Byt W.heap.size W sv zs := by
  obtain ⟨a, cap, e, hl, hz⟩ := h.below hb
  refine ⟨a, cap, e, hl, hz.imp id fun ⟨b, off, ea, hlt, hc⟩ => ⟨b, off, ea, ?_, hc⟩⟩
  have := hb.size
  omega

end Go.Proofs.Ytpmdeoiajnfabaa
