/- Blocks of 64 numbers, and rows of numbers that a call owns: general (moved out of scan's texts). -/
import Derived.Test.YtpmdeoiajnfabaaZArr
namespace Go.Proofs.Ytpmdeoiajnfabaa
open Go.RowKit Go.Shelf
set_option linter.unusedVariables false

/-- numbers in a row that the call owns -/
def OwnI (w : World) (base : Nat) (v : Value) (xs : List Int) : Prop := ∃ t, w.ownsRow base t 1 v xs.length (intV xs)
theorem ownI_nil (w : World) (base : Nat) : OwnI w base (.slice none 0 0) [] := ⟨0, World.ownsRow_nil _ _ _ _⟩
theorem made64 (w : World) : (Instr.makeSlice 22 (.int .i64 64) (.int .i64 64)).run Try.prog w = .ok (.slice (some ⟨w.heap.size, 0, none⟩) 64 64) (w.alloc (.cells (numsA zeros64) 3 (0, 0))) := by kernel_rfl
theorem ints64_new (w : World) (t : TypeId) (b : List Int) : Below w.heap.size w (w.alloc (.cells (numsA b) t)) := (Below.refl _ w).alloc (Nat.le_refl _) _
theorem OwnI.cellsAt {w : World} {base : Nat} {v : Value} {xs : List Int} (h : OwnI w base v xs) : CellsAt w v (intV xs) := by
  obtain ⟨t, h⟩ := h
  exact cellsAt_own h
theorem cellsAt_nil (w : World) : CellsAt w (.slice none 0 0) (intV []) := ⟨none, 0, rfl, .inl rfl⟩
theorem NumsAt.cellsAt {w : World} {g : Nat} {t : TypeId} {b : List Int} (h : NumsAt w g t b) (hb : b.length = 64) : CellsAt w (.slice (some ⟨g, 0, none⟩) 64 64) (intV b) := cellsAt_own (h.own hb (Nat.zero_le _))
theorem NumsAt.rowV {w : World} {g : Nat} {t : TypeId} {b : List Int} (h : NumsAt w g t b) (hb : b.length = 64) : RowV w.heap.size w (some ⟨g, 0, none⟩) 64 64 (intV b) := by
  obtain ⟨a, c, e, hr⟩ := rowV_own4 (h.own hb (Nat.zero_le _))
  cases e
  exact hr
/-- one number of a row that the call owns is written -/
theorem own_put {w : World} {base n : Nat} {t : TypeId} {v : Value} {xs : List Int} (h : w.ownsRow base t 1 v n (intV xs)) {k : Nat} (hk : k < n) (d : Int) :
    ∃ g cap, v = .slice (some ⟨g, 0, none⟩) n cap ∧ base ≤ g ∧ w.cell? ⟨g, k, none⟩ = some (.int .i64 (xs[k]?.getD 0)) ∧ w.frozen? ⟨g, k, none⟩ = false ∧ (w.setCell ⟨g, k, none⟩ (.int .i64 d)).ownsRow base t 1 v n (intV (xs.set k d)) := by
  have hl : xs.length = n := by have := h.1; simpa using this
  rcases h.2 with ⟨_, h0⟩ | ⟨g, cap, cur, rfl, hb, hg, hc, hm, hs, ht⟩
  · omega
  · rw [Nat.mul_one] at hs ht
    have hck : cur[k]? = some (.int .i64 (xs[k]?.getD 0)) := by
      have e1 : (cur.toList.take n)[k]? = cur[k]? := by rw [List.getElem?_take_of_lt hk, Array.getElem?_toList]
      rw [← e1, ht]
      simp [show k < xs.length by omega]
    refine ⟨g, cap, rfl, hb, ?_, ?_, ?_⟩
    · rw [Lib.cell_of_heap hg]
      exact hck
    · exact Lib.frozen_of_heap hg k
    · refine ⟨by simp [hl], .inr ⟨g, cap, _, rfl, hb, heap_setCell_same w g k cur t _ hg, hc, hm, by simp [hs], ?_⟩⟩
      rw [Nat.mul_one, Array.toList_setIfInBounds, List.take_set]
      rw [ht]
      simp [List.map_set]

theorem overZ_any {w : World} {base n : Nat} {t : TypeId} {v : Value} {xs : List Value} (h : w.ownsRow base t 1 v n xs) (hl : n ≤ 1000000000) :
    Calls Try.prog 15 #[v] w fun e w' => e = .returned (.tuple #[]) ∧ Bar (fun k => v.ownBlock = some k) w w' := by
  rcases id h.2 with ⟨rfl, _⟩ | ⟨g, cap, cur, rfl, _⟩
  · refine (overInts_nil w).mono ?_
    rintro e w' ⟨rfl, rfl⟩
    exact ⟨rfl, Bar.refl _ _⟩
  · refine (overInts_some (cells0_own h) hl).mono ?_
    rintro e w' ⟨rfl, hb⟩
    exact ⟨rfl, ⟨hb.os, hb.tape, hb.output, hb.size, fun k hk hn => hb.block k hk (fun e => hn (by rw [e]; rfl))⟩⟩

/-! ### a slice turned to an array -/
theorem wpList_arrZ {P : Program} {ops : Array Oper} {rest : List Oper} {o : Oper} {a : Act} {w : World} {Q : Exit → Act → World → Prop} (hgd : o.guard = none) (t : TypeId) (x : Operand) (ho : o.op = .sliceToArrayPointer t x) (p : Option Addr) (len cap n : Nat) (e : TypeId)
    (hx : a.eval x = .slice p len cap) (hu : P.underlying t = some (.array n e)) (hn : n ≤ len) (h : wpList P ops Q rest (a.put o.dst (.pointer p)) w) : wpList P ops Q (o :: rest) a w := by
  refine wpList_valZ hgd ?_ h
  unfold execOp
  simp [ho, hx, Instr.arrayAt, Sem.run_bind, run_underlying hu, show ¬ len < n by omega]
theorem RowV.addCells {n₀ : Nat} {w : World} {b off len cap : Nat} {vs : List Value} (hc : ∀ j u, vs[j]? = some u → w.cell? ⟨b, off + j, none⟩ = some u) : ∀ j u, vs[j]? = some u → w.cell? ((⟨b, off, none⟩ : Addr).add j) = some u := by
  intro j u hu
  have hadd : (⟨b, off, none⟩ : Addr).add j = ⟨b, off + j, none⟩ := by unfold Addr.add; split <;> simp_all
  rw [hadd]
  exact hc j u hu

end Go.Proofs.Ytpmdeoiajnfabaa
