/- The contract of (*queue.Queue).Feed. -/
import Derived.Test.YtmampneedmodeaaDoorQRing
namespace Go.Proofs.YtmampneedmodeaaDoor
open Go.RowKit Go.Shelf
set_option linter.unusedVariables false

/-- the slice value sv holds the bytes zs, and not in block g -/
def BytA (w : World) (g : Nat) (sv : Value) (zs : List UInt8) : Prop :=
  ∃ a cap, sv = .slice a zs.length cap ∧ zs.length ≤ cap ∧ cap ≤ 9223372036854775807 ∧
    (cap = 0 ∨ ∃ b off, a = some ⟨b, off, none⟩ ∧ (zs ≠ [] → b ≠ g ∧ b < w.heap.size) ∧ ∀ j, j < zs.length → w.cell? ⟨b, off + j, none⟩ = some (.int .u8 ((zs[j]?.getD 0).toNat)))

theorem keep4 {w w' : World} {b g m c n : Nat} (h : w'.heap[b]? = w.heap[b]?)
    (hS : w.cell? ⟨b, 4, none⟩ = some (Value.slice (some ⟨g, 0, none⟩) m m) ∧ w.cell? ⟨b, 1, none⟩ = some (.int .i64 m) ∧ w.cell? ⟨b, 2, none⟩ = some (.int .i64 c) ∧ w.cell? ⟨b, 3, none⟩ = some (.int .i64 n)) :
    w'.cell? ⟨b, 4, none⟩ = some (Value.slice (some ⟨g, 0, none⟩) m m) ∧ w'.cell? ⟨b, 1, none⟩ = some (.int .i64 m) ∧ w'.cell? ⟨b, 2, none⟩ = some (.int .i64 c) ∧ w'.cell? ⟨b, 3, none⟩ = some (.int .i64 n) := by
  simp only [World.cell?, h] at hS ⊢
  exact hS
theorem src_cells {w w' : World} {bb off m k : Nat} {ys : List UInt8} (hc : ∀ j, j < ys.length → w.cell? ⟨bb, off + j, none⟩ = some (.int .u8 ((ys[j]?.getD 0).toNat))) (hk : ys ≠ [] → w'.heap[bb]? = w.heap[bb]?) :
    ∀ j v, (u8s ((ys.drop m).take k))[j]? = some v → w'.cell? ((⟨bb, off + m, none⟩ : Addr).add j) = some v := by
  intro j v hv
  have hadd : (⟨bb, off + m, none⟩ : Addr).add j = ⟨bb, off + (m + j), none⟩ := by unfold Addr.add; split <;> simp_all [Nat.add_assoc]
  simp only [u8s, List.getElem?_map, List.getElem?_take, List.getElem?_drop] at hv
  by_cases hj : j < k
  · rw [if_pos hj] at hv
    by_cases hl : m + j < ys.length
    · rw [List.getElem?_eq_getElem hl] at hv
      simp at hv
      rw [hadd, World.cell?_of_block (hk (fun e => by rw [e] at hl; simp at hl)), hc _ hl, List.getElem?_eq_getElem hl]
      simp [hv]
    · rw [List.getElem?_eq_none (by omega)] at hv; simp at hv
  · rw [if_neg hj] at hv; simp at hv

theorem info1_byte : (Tryd.prog.info? 5).map (·.size) = some 1 := by kernel_rfl
theorem u8s_one {zs : List UInt8} : ∀ v ∈ u8s zs, v.oneCell' = true := by
  intro u hu; simp at hu; obtain ⟨z, _, rfl⟩ := hu; rfl

/-- what Feed takes -/
def fedL (q : Qs) (zs : List UInt8) : List UInt8 := if q.ended then [] else zs.take (q.most - (q.all.length - q.gone / 8))
def feedQ (q : Qs) (zs : List UInt8) : Qs := { q with all := q.all ++ fedL q zs }
def feedE (q : Qs) : Int := if q.ended then 20 else 0
end Go.Proofs.YtmampneedmodeaaDoor
