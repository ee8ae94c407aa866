/- The reference pen's Bytes: its contract. -/
import Derived.Test.YtglnmaekhpaffaaRef4
import Derived.Test.YtglnmaekhpaffaaQueue
namespace Go.Proofs.Ytglnmaekhpaffaa
open Go.RowKit Go.Shelf
set_option linter.unusedVariables false

theorem below_undrew2 {n : Nat} {a b : World} (h : Below n a b) : Below n a b.drew := ⟨h.os, h.tape, h.output, h.size, h.block⟩
theorem row_of_block {w : World} {base g : Nat} {zs : List UInt8} (h : w.heap[g]? = some (.cells (u8s zs).toArray 5 (0, 0))) (hb : base ≤ g) (hl : zs.length ≤ 9223372036854775807) : w.ownsRow base 5 1 (.slice (some ⟨g, 0, none⟩) zs.length zs.length) zs.length (u8s zs) :=
  ⟨by simp, .inr ⟨g, zs.length, _, rfl, hb, h, Nat.le_refl _, by unfold maxLen; omega, by simp, by rw [Nat.mul_one]; exact List.take_of_length_le (by simp)⟩⟩
theorem block_cell {w : World} {g j : Nat} {zs : List UInt8} (h : w.heap[g]? = some (.cells (u8s zs).toArray 5 (0, 0))) (hj : j < zs.length) : w.cell? ⟨g, j, none⟩ = some (.int .u8 ((zs.getD j 0).toNat)) ∧ w.frozen? ⟨g, j, none⟩ = false := by
  constructor
  · simp [World.cell?, h, hj]
  · simp [World.frozen?, h]
theorem block_set {w : World} {g j : Nat} {zs : List UInt8} (h : w.heap[g]? = some (.cells (u8s zs).toArray 5 (0, 0))) (u : UInt8) : (w.setCell ⟨g, j, none⟩ (.int .u8 u.toNat)).heap[g]? = some (.cells (u8s (zs.set j u)).toArray 5 (0, 0)) := by
  rw [heap_setCell_same _ _ _ _ _ _ h]
  simp [u8s, List.map_set]

theorem lay_eq2 (z : UInt8) (x : Bool) (c : Nat) : bits .or .u8 (z.toNat : Int) ((x.toNat : Int) % 256 * 2 ^ (7 - c % 8) % 256) = ((lay z x c).toNat : Int) := by
  rw [← lay_eq]
  congr 1
  have hp : x.toNat * 2 ^ (7 - c % 8) < 256 := by
    have : 2 ^ (7 - c % 8) ≤ 2 ^ 7 := Nat.pow_le_pow_right (by omega) (by omega)
    cases x <;> simp <;> omega
  have e : ((x.toNat : Int) * 2 ^ (7 - c % 8)) = ((x.toNat * 2 ^ (7 - c % 8) : Nat) : Int) := by simp
  have e2 : (x.toNat : Int) % 256 = (x.toNat : Int) := by cases x <;> rfl
  rw [e2, e]
  generalize x.toNat * 2 ^ (7 - c % 8) = q at *
  rw [IntWalk.wrap64_in _ ⟨by omega, by omega⟩]

set_option maxRecDepth 100000 in
set_option maxHeartbeats 2000000 in
theorem refBytes_any {w : World} {b : Nat} {g : Option Nat} {L : List Bool} (h : IsRef w b g L) :
    Calls Try.prog 19 #[.pointer (some ⟨b, 0, none⟩)] w fun e w' => ∃ zs, Packed zs L ∧ Cloned w w' e zs := by
  obtain ⟨i0, hi, hz0, hz1, hz2⟩ := info_parts Try.info5
  have hblt := h.lt.1
  obtain ⟨v, rfl, hb, hrow, hl24⟩ := h
  obtain ⟨cv, fv⟩ := ref_cell hb
  obtain ⟨av, capv, rfl, hcells⟩ : ∃ av capv, v = .slice av L.length capv ∧ (L = [] ∨ ∃ gk, av = some ⟨gk, 0, none⟩ ∧ gk < w.heap.size ∧ ∀ i, i < L.length → w.cell? ⟨gk, i, none⟩ = some (.int .i64 ((L.getD i false).toNat))) := by
    rcases id hrow.2 with ⟨rfl, e⟩ | ⟨gk, cap, cur, rfl, _, hgk, _⟩
    · exact ⟨none, 0, by rw [e], .inl (List.eq_nil_of_length_eq_zero e)⟩
    · refine ⟨_, cap, rfl, .inr ⟨gk, rfl, (Array.getElem?_eq_some_iff.1 hgk).1, fun i hil => ?_⟩⟩
      rw [hrow.cellAt i (by omega)]
      simp [hil, List.getD_eq_getElem?_getD]
  have HC := Lib.hid hcells
  clear hb hrow hcells
  go_enter Try.func19, Try.ntmps19
  go_wp2_with (at_make; refine wpList_make_full _ rfl _ _ 37 rfl w.heap.size 5 i0 (.int .u8 0) 1 Try.underlying37 hi hz0 hz1 .i64 .i64 _ _ ((L.length + 7) / 8) rfl rfl ?m1 ?m2 ?m3 ?m4 (Nat.le_refl _) ?_)
  case m1 => omega
  case m2 => omega
  case m3 => rw [hz2]; omega
  case m4 => unfold maxLen; omega
  intro w1 hown hgrow
  have hs := hgrow.size
  have hrow := row_block hown
  rw [made_u8] at hrow
  have hb1 : Below w.heap.size w w1 := ⟨hgrow.os, hgrow.tape, hgrow.output, hgrow.size, fun k hk => hgrow.block k hk (by simp)⟩
  have HR := Lib.hid hrow
  clear hown hgrow hrow
  go_wp2_with fail
  go_loopw [4] (fun i wr => ∃ (j : Nat) (zs : List UInt8), i = .int .i64 j ∧ j ≤ L.length ∧ PackedTo zs L j ∧ wr.heap[w.heap.size]? = some (.cells (u8s zs).toArray 5 (0, 0)) ∧ Below w.heap.size w wr) (fun i _ => L.length - (intOf i).toNat)
  case atStart => exact ⟨0, List.replicate ((L.length + 7) / 8) 0, rfl, by omega, packedTo_zero L, HR.out, hb1⟩
  case round =>
    obtain ⟨j, zs, rfl, hj, hp, hg, hB⟩ := hrel
    have hzl := hp.1
    have cv' := (hB.cell (p := ⟨b, 0, none⟩) hblt).trans cv
    have HP := Lib.hid hp
    have HG := Lib.hid hg
    have HB := Lib.hid hB
    by_cases hj2 : j < L.length
    · rcases HC.out with e | ⟨gk, rfl, hgk, hcl⟩
      · rw [e] at hj2; simp at hj2
      have ck := (hB.cell (p := ⟨gk, j, none⟩) hgk).trans (hcl j hj2)
      obtain ⟨co, fo⟩ := block_cell hg (j := j / 8) (by omega)
      have HS := Lib.hid (packedTo_step hp hj2)
      have HX := Lib.hid (block_set hg (j := j / 8) (lay (zs.getD (j / 8) 0) (L.getD j false) j))
      have HV := Lib.hid (lay_eq2 (zs.getD (j / 8) 0) (L.getD j false) j)
      have hj8 : j / 8 < (L.length + 7) / 8 := by omega
      generalize L.getD j false = x at *
      generalize zs.getD (j / 8) 0 = z at *
      clear hp hg hB HC hcl
      go_wp2_with fail
      go_region
      rw [HV.out]
      have HBn : Hid (Below w.heap.size w (wr.setCell ⟨w.heap.size, j / 8, none⟩ (.int .u8 (lay z x j).toNat))) := HB.out.trans (((Bar.refl (fun k => k = w.heap.size) wr).setCell (fun _ => rfl) _).below HB.out.size (fun k hk e => by omega))
      generalize wr.setCell ⟨w.heap.size, j / 8, none⟩ (.int .u8 (lay z x j).toNat) = wn at *
      go_wp2
      go_roundw
      case rel => exact ⟨j + 1, zs.set (j / 8) (lay z x j), by go_num, by omega, HS.out, HX.out, below_undrew2 HBn.out⟩
      case measure => simp [intOf]; omega
    · have hjn : j = L.length := by omega
      subst j
      clear hp hg hB
      go_wp2
      go_ret
      refine ⟨zs, packedTo_all HP.out, _, rfl, ?_, HB.out⟩
      rw [← hzl]
      exact row_of_block HG.out (Nat.le_refl _) (by omega)

end Go.Proofs.Ytglnmaekhpaffaa
