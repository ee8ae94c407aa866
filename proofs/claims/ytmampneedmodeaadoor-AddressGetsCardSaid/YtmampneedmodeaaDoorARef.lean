/- Contracts of the reference's address (praxinoscoperef04): Codes, numbers, Get, Put, Next, Row. -/
import Derived.Test.YtmampneedmodeaaDoorAGet
namespace Go.Proofs.YtmampneedmodeaaDoor
open Go.RowKit Go.Shelf
set_option linter.unusedVariables false

set_option maxRecDepth 100000 in
set_option maxHeartbeats 1000000 in
theorem r4codes_any (w : World) :
    Calls Tryd.prog 30 #[] w fun e w' => e = .returned (.slice (some ⟨w.heap.size, 0, none⟩) 35 35) ∧ w' = w.alloc (.cells (strV codes4).toArray 9 (0, 0)) := by
  go_enter Tryd.func30, Tryd.ntmps30
  go_wp2_with (with_reducible refine stop_slice 54 35 _ rfl ?_; refine Hid.out ?_)
  refine Lib.hid ?_
  refine Great.wpList_buildSliceTo rfl 54 9 35 _ rfl _ rfl _ rfl Tryd.underlying54x (strV codes4).toArray (by kernel_rfl) ?_
  go_wp2
  go_ret
  exact ⟨rfl, rfl⟩
theorem rowV_new (w : World) (xs : List Value) (t : TypeId) (n : Nat) (hn : xs.length = n) (hl : n ≤ 1000) : RowV (w.alloc (.cells xs.toArray t (0, 0))).heap.size (w.alloc (.cells xs.toArray t (0, 0))) (some ⟨w.heap.size, 0, none⟩) n n xs := by
  subst hn
  refine ⟨rfl, Nat.le_refl _, by omega, .inr ⟨w.heap.size, 0, rfl, by simp, fun j u hu => ?_⟩⟩
  have h := src_row w xs t j u hu
  have hadd : (⟨w.heap.size, 0, none⟩ : Addr).add j = ⟨w.heap.size, 0 + j, none⟩ := by unfold Addr.add; split <;> simp_all
  rwa [hadd] at h

theorem src_one (w : World) (x : Value) (t : TypeId) : Src (w.alloc (.cells #[x] t (0, 0))) (some ⟨w.heap.size, 0, none⟩) 1 [x] := ⟨rfl, .inr ⟨_, rfl, src_row w [x] t⟩⟩
theorem intV_snoc (n : Nat) : intV ((List.range n).map fun (k : Nat) => (k : Int)) ++ [.int .i64 (n : Int)] = intV ((List.range (n + 1)).map fun (k : Nat) => (k : Int)) := by simp [List.range_succ]
set_option maxRecDepth 100000 in
set_option maxHeartbeats 1000000 in
theorem r4numbers_any (w : World) :
    Calls Tryd.prog 31 #[] w fun e w' => ∃ v, e = .returned v ∧ w'.ownsRow w.heap.size 3 1 v 35 (intV nums4) ∧ Below w.heap.size w w' := by
  obtain ⟨i2, hi2', hz20, hz21, hz22⟩ := info_parts Tryd.info3y
  go_enter Tryd.func31, Tryd.ntmps31
  go_wp2_with fail
  go_loopw [1, 2] (fun v i wr => ∃ k : Nat, i = .int .i64 k ∧ k ≤ 35 ∧ wr.ownsRow w.heap.size 3 1 v k (intV ((List.range k).map fun (k : Nat) => (k : Int))) ∧ Below w.heap.size w wr) (fun _ i _ => 35 - (intOf i).toNat)
  case atStart => exact ⟨0, rfl, by omega, World.ownsRow_nil _ _ _ _, Below.refl _ _⟩
  case round =>
    obtain ⟨k, rfl, hk, ho, hb⟩ := hrel
    have HO := Lib.hid ho
    have HB := Lib.hid hb
    have hs := hb.size
    clear ho hb
    by_cases hk2 : k < 35
    · go_wp2_with (at_builtin; go_loud (refine wpList_append_v rfl _ _ 38 3 i2 (.int .i64 0) 8 rfl Tryd.underlying38y hi2' hz20 hz21 hz22 rfl w.heap.size _ k _ rfl (HO.out.alloc _) (some ⟨wr.heap.size, 0, none⟩) 1 1 [.int .i64 k] rfl (src_one _ _ _) (fun e => nomatch e) (by simp [Value.oneCell']) (by omega) (by omega) (by simp; omega) ?_); intro v1 w1 hap; have HA := Lib.hid hap; clear hap)
      go_roundw
      case rel =>
        refine ⟨k + 1, by go_num, by omega, ?_, ?_⟩
        · rw [← intV_snoc]
          exact HA.out.1
        · exact (HB.out.alloc (by omega) _).grown HA.out.2.1 (by simp; omega) (fun j e => (HO.out.lt j e).1)
      case measure => simp [intOf]; omega
    · have hkn : k = 35 := by omega
      subst hkn
      go_wp2
      go_ret
      exact ⟨_, rfl, HO.out, HB.out⟩

end Go.Proofs.YtmampneedmodeaaDoor
