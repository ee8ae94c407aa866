/- Acts that came in as an argument: how their reading is opened. -/
import Derived.Test.YtglnmaekhpaffaaActs
import Derived.ProofKit
import Derived.Deep.Slices
import Derived.ChangeArms
namespace Go.Proofs.Ytglnmaekhpaffaa
open Go.RowKit Go.ChangeShapes Go.WideShapes
set_option linter.unusedVariables false

theorem cellsOfAct : Try.prog.cellsOf 33 = 4 := by kernel_rfl
theorem cells1 : Try.prog.cellsOf 4 = 1 ∧ Try.prog.cellsOf 3 = 1 ∧ Try.prog.cellsOf 9 = 1 := ⟨by kernel_rfl, by kernel_rfl, by kernel_rfl⟩

theorem add_two (a : Addr) (i j : Nat) (h : a.spot = none) : (a.add i).add j = ⟨a.block, a.off + i + j, none⟩ := by
  obtain ⟨b, off, spot⟩ := a
  simp at h
  subst h
  have h1 : (⟨b, off, none⟩ : Addr).add i = ⟨b, off + i, none⟩ := by unfold Addr.add; split <;> simp_all
  rw [h1]
  unfold Addr.add; split <;> simp_all

section
variable {H : Type} {enc : TypeId × Value → H} {W : World}

theorem act_of_trod {n : Nat} {cs : List Value} {x : DataW H × List MemPlace} (h : DataW.trod enc Try.prog W 0 (fun _ => true) true n 33 cs = some x) :
    ∃ y : Act4, y.ok ∧ cs = [.bool y.c, .int .i64 y.n, .int .i64 y.k, .string y.s] := by
  obtain ⟨ys, m, _, _, hlen, hyl, hf⟩ := DataW.trod_struct Try.underlying33 h
  rw [cellsOfAct] at hlen
  match cs, hlen with
  | [v0, v1, v2, v3], _ =>
    match ys, hyl with
    | [y0, y1, y2, y3], _ =>
      have g0 : DataW.trod enc Try.prog W 0 (fun _ => true) true m 4 (([v0, v1, v2, v3].drop 0).take (Try.prog.cellsOf 4)) = some y0 := hf 0 _ rfl
      have g1 : DataW.trod enc Try.prog W 0 (fun _ => true) true m 3 (([v0, v1, v2, v3].drop 1).take (Try.prog.cellsOf 3)) = some y1 := hf 1 _ rfl
      have g2 : DataW.trod enc Try.prog W 0 (fun _ => true) true m 3 (([v0, v1, v2, v3].drop 2).take (Try.prog.cellsOf 3)) = some y2 := hf 2 _ rfl
      have g3 : DataW.trod enc Try.prog W 0 (fun _ => true) true m 9 (([v0, v1, v2, v3].drop 3).take (Try.prog.cellsOf 9)) = some y3 := hf 3 _ rfl
      obtain ⟨k0, k1, k2⟩ := cells1
      rw [k0] at g0
      rw [k1] at g1 g2
      rw [k2] at g3
      obtain ⟨c, e0, _⟩ := DataW.trod_bool Try.underlying4 g0
      obtain ⟨i, e1, _, wi⟩ := DataW.trod_int Try.underlying3 g1
      obtain ⟨k, e2, _, wk⟩ := DataW.trod_int Try.underlying3 g2
      obtain ⟨s, e3, _, hs⟩ := DataW.trod_string Try.underlying9 g3
      simp at e0 e1 e2 e3
      subst e0 e1 e2 e3
      exact ⟨⟨c, i, k, s⟩, ⟨(wf_i64 wi).2, by unfold maxLen at hs; omega⟩, rfl⟩

theorem acts_of_trod {fuel : Nat} {a : Option Addr} {len cap : Nat} {x : DataW H × List MemPlace} (h : DataW.trod enc Try.prog W 0 (fun _ => true) true fuel 22 [.slice a len cap] = some x) :
    ∃ xs : List Act4, xs.length = len ∧ IsActs W.heap.size W (.slice a len cap) xs := by
  rcases Go.Deep.open_slice Try.underlying22 h with ⟨hcs, _⟩ | ⟨a', len', cap', m, n, D, Pl, hcs, _, hl, hm, hmm, _, hi⟩
  · simp at hcs
    obtain ⟨rfl, rfl, rfl⟩ := hcs
    exact ⟨[], rfl, none, 0, rfl, by simp, by simp, .inl rfl⟩
  · simp at hcs
    obtain ⟨rfl, rfl, rfl⟩ := hcs
    simp at hmm
    subst hmm
    have hex : ∀ i, ∃ y : Act4, i < len → y.ok ∧ ∀ t, t < 4 → W.cell? ((a'.add (i * 4)).add t) = some (y.cell t) := by
      intro i
      by_cases hil : i < len
      · obtain ⟨cs', hc, ht⟩ := hi i (by omega)
        rw [cellsOfAct] at hc
        obtain ⟨y, hy, rfl⟩ := act_of_trod ht
        obtain ⟨_, _, hat⟩ := World.cells?_some hc
        refine ⟨y, fun _ => ⟨hy, fun t ht4 => ?_⟩⟩
        rw [hat t ht4]
        match t, ht4 with
        | 0, _ => rfl
        | 1, _ => rfl
        | 2, _ => rfl
        | 3, _ => rfl
      · exact ⟨default, fun h => absurd h hil⟩
    obtain ⟨f, hf⟩ := Classical.axiomOfChoice hex
    have hget : ∀ i, i < len → ((List.range len).map f)[i]?.getD default = f i := fun i hil => by simp [hil]
    refine ⟨(List.range len).map f, by simp, some a', m, by simp, by simp; unfold maxLen at hm; omega, fun y hy => ?_, ?_⟩
    · simp at hy
      obtain ⟨i, hil, rfl⟩ := hy
      exact (hf i hil).1
    · by_cases h0 : len = 0
      · left; subst h0; rfl
      · right
        have hc0 := (hf 0 (by omega)).2 0 (by omega)
        obtain ⟨b, off, spot⟩ := a'
        have hspot : spot = none := by simpa [Addr.add] using World.cell?_spot hc0
        subst hspot
        refine ⟨b, off, rfl, by rw [add_two _ _ _ rfl] at hc0; exact cell_lt hc0, fun i hil t ht => ?_⟩
        simp at hil
        have := (hf i hil).2 t ht
        rw [add_two _ _ _ rfl] at this
        rw [hget i hil]
        exact this
end

end Go.Proofs.Ytglnmaekhpaffaa
