/- The contract of the law QueueRead: it returns true, and nothing that lay is changed. -/
import Derived.Test.YtmampneedmodeaaDoorQActs
import Derived.Test.YtmampneedmodeaaDoorAppendSrc
namespace Go.Proofs.YtmampneedmodeaaDoor
open Go.RowKit Go.Shelf
set_option linter.unusedVariables false

theorem rem_bt (zs : List UInt8) (k : Nat) : (wrap64 (((zs[k / 8]?.getD 0).toNat : Int) / 2 ^ (7 - k % 8))).tmod 2 = (bt zs k : Int) := by
  have hb : (zs[k / 8]?.getD 0).toNat < 256 := UInt8.toNat_lt _
  have e : (((zs[k / 8]?.getD 0).toNat : Int) / 2 ^ (7 - k % 8)) = (((zs[k / 8]?.getD 0).toNat / 2 ^ (7 - k % 8) : Nat) : Int) := by
    rw [Int.natCast_ediv]; simp
  have hle : (zs[k / 8]?.getD 0).toNat / 2 ^ (7 - k % 8) ≤ (zs[k / 8]?.getD 0).toNat := Nat.div_le_self _ _
  rw [e]
  unfold bt
  rw [List.getD_eq_getElem?_getD]
  generalize (zs[k / 8]?.getD 0).toNat / 2 ^ (7 - k % 8) = q at *
  rw [IntWalk.wrap64_in _ ⟨by omega, by omega⟩, Int.tmod_eq_emod_of_nonneg (by omega)]
  omega
theorem bt_drop (zs : List UInt8) (G k : Nat) : bt (zs.drop (G / 8)) (G % 8 + k) = bt zs (G + k) := by
  unfold bt
  rw [show (G + k) % 8 = (G % 8 + k) % 8 by omega, List.getD_eq_getElem?_getD, List.getD_eq_getElem?_getD, List.getElem?_drop, show G / 8 + (G % 8 + k) / 8 = (G + k) / 8 by omega]

theorem Row8.src {n₀ : Nat} {w : World} {a : Option Addr} {len cap : Nat} {zs : List UInt8} (h : Row8 n₀ w a len cap zs) {n : Nat} (hn : n ≤ len) : Src w a n (u8s (zs.take n)) := by
  obtain ⟨h1, h2, h3, h4⟩ := h
  refine ⟨by simp; omega, ?_⟩
  rcases h4 with rfl | ⟨b, off, rfl, hlt, hc⟩
  · left; omega
  · right
    refine ⟨_, rfl, fun j u hu => ?_⟩
    have hadd : (⟨b, off, none⟩ : Addr).add j = ⟨b, off + j, none⟩ := by unfold Addr.add; split <;> simp_all
    have hj : j < n := by
      false_or_by_contra
      rw [List.getElem?_eq_none (by simp; omega)] at hu
      cases hu
    rw [hadd, hc j (by omega)]
    simp only [u8s, List.getElem?_map, List.getElem?_take, if_pos hj] at hu
    rw [List.getElem?_eq_getElem (by omega)] at hu ⊢
    simpa using hu
theorem Row8.nocap {n₀ : Nat} {w : World} {a : Option Addr} {len cap : Nat} {zs : List UInt8} (h : Row8 n₀ w a len cap zs) : a = none → cap = 0 := by
  rcases h.2.2.2 with h | ⟨b, off, rfl, _⟩
  · exact fun _ => h
  · exact fun e => by cases e

theorem row_form {w : World} {base n : Nat} {e : TypeId} {v : Value} {xs : List Value} (h : w.ownsRow base e 1 v n xs) : ∃ av cap, v = .slice av n cap := by
  rcases h.2 with ⟨rfl, rfl⟩ | ⟨g, cap, cur, rfl, _⟩
  · exact ⟨_, _, rfl⟩
  · exact ⟨_, _, rfl⟩

theorem ownsRow_bar {S : Nat → Prop} {w w' : World} {base n : Nat} {e : TypeId} {v : Value} {xs : List Value} (h : w.ownsRow base e 1 v n xs) (hb : Bar S w w') (hS : ∀ k, v.ownBlock = some k → ¬ S k) : w'.ownsRow base e 1 v n xs := by
  have hlt := h.lt
  refine ⟨h.1, ?_⟩
  rcases h.2 with hn | ⟨g', cap, cur, rfl, hbb, hg, rest⟩
  · exact .inl hn
  · exact .inr ⟨g', cap, cur, rfl, hbb, (hb.block g' (hlt g' rfl).2 (hS g' rfl)).trans hg, rest⟩
end Go.Proofs.YtmampneedmodeaaDoor
