/- Acts of a queue that came in as an argument: how their reading is opened. -/
import Derived.Test.YtglnmaekhpaffaaQActs
import Derived.ProofKit
import Derived.Deep.Slices
import Derived.ChangeArms
import Derived.OpenShut
namespace Go.Proofs.Ytglnmaekhpaffaa
open Go.RowKit Go.ChangeShapes Go.WideShapes
set_option linter.unusedVariables false

theorem cellsOfQAct : Try.prog.cellsOf 50 = 3 := by kernel_rfl
theorem qcells1 : Try.prog.cellsOf 3 = 1 ∧ Try.prog.cellsOf 37 = 1 := ⟨by kernel_rfl, by kernel_rfl⟩

theorem add_twoQ (a : Addr) (i j : Nat) (h : a.spot = none) : (a.add i).add j = ⟨a.block, a.off + i + j, none⟩ := by
  obtain ⟨b, off, spot⟩ := a
  simp at h
  subst h
  have h1 : (⟨b, off, none⟩ : Addr).add i = ⟨b, off + i, none⟩ := by unfold Addr.add; split <;> simp_all
  rw [h1]
  unfold Addr.add; split <;> simp_all

section
variable {H : Type} {enc : TypeId × Value → H} {W : World}

theorem qrow_of_trod {n : Nat} {v : Value} {x : DataW H × List MemPlace} (h : DataW.trod enc Try.prog W 0 (fun _ => true) true n 37 [v] = some x) :
    ∃ a len cap zs, v = .slice a len cap ∧ Row8 W.heap.size W a len cap zs := by
  rcases open_ints Try.underlying37 Try.underlying5 (by kernel_rfl) h with ⟨hcs, _⟩ | ⟨x, l, c, zs, hcs, _, hl, hm, hz, _, hcell, hwz⟩
  · simp at hcs
    subst hcs
    obtain ⟨zs, h⟩ := row8_of_row (w := W) (z := []) (.inl ⟨rfl, rfl, rfl, rfl⟩)
    exact ⟨_, _, _, zs, rfl, h⟩
  · simp at hcs
    subst hcs
    obtain ⟨ys, h⟩ := row8_of_row (w := W) (a := some x) (len := l) (cap := c) (z := zs) (.inr ⟨_, rfl, hl, hm, by simpa using hz, hcell, hwz⟩)
    exact ⟨_, _, _, ys, rfl, h⟩

theorem qact_of_trod {n : Nat} {cs : List Value} {x : DataW H × List MemPlace} (h : DataW.trod enc Try.prog W 0 (fun _ => true) true n 50 cs = some x) :
    ∃ y : QAct, y.ok W.heap.size W ∧ cs = [.int .i64 y.kind, .int .i64 y.n, .slice y.a y.len y.cap] := by
  obtain ⟨ys, m, _, _, hlen, hyl, hf⟩ := DataW.trod_struct Try.underlying50 h
  rw [cellsOfQAct] at hlen
  match cs, hlen with
  | [v0, v1, v2], _ =>
    match ys, hyl with
    | [y0, y1, y2], _ =>
      have g0 : DataW.trod enc Try.prog W 0 (fun _ => true) true m 3 (([v0, v1, v2].drop 0).take (Try.prog.cellsOf 3)) = some y0 := hf 0 _ rfl
      have g1 : DataW.trod enc Try.prog W 0 (fun _ => true) true m 3 (([v0, v1, v2].drop 1).take (Try.prog.cellsOf 3)) = some y1 := hf 1 _ rfl
      have g2 : DataW.trod enc Try.prog W 0 (fun _ => true) true m 37 (([v0, v1, v2].drop 2).take (Try.prog.cellsOf 37)) = some y2 := hf 2 _ rfl
      obtain ⟨k1, k2⟩ := qcells1
      rw [k1] at g0 g1
      rw [k2] at g2
      obtain ⟨i, e1, _, wi⟩ := DataW.trod_int Try.underlying3 g0
      obtain ⟨k, e2, _, wk⟩ := DataW.trod_int Try.underlying3 g1
      obtain ⟨a, len, cap, zs, e3, hr⟩ := qrow_of_trod g2
      simp at e1 e2 e3
      subst e1 e2 e3
      exact ⟨⟨i, k, a, len, cap, zs⟩, ⟨wf_i64 wi, wf_i64 wk, hr⟩, rfl⟩

theorem qacts_of_trod {fuel : Nat} {a : Option Addr} {len cap : Nat} {x : DataW H × List MemPlace} (h : DataW.trod enc Try.prog W 0 (fun _ => true) true fuel 41 [.slice a len cap] = some x) :
    ∃ xs : List QAct, xs.length = len ∧ IsQActs W.heap.size W (.slice a len cap) xs := by
  rcases Go.Deep.open_slice Try.underlying41 h with ⟨hcs, _⟩ | ⟨a', len', cap', m, n, D, Pl, hcs, _, hl, hm, hmm, _, hi⟩
  · simp at hcs
    obtain ⟨rfl, rfl, rfl⟩ := hcs
    exact ⟨[], rfl, none, 0, rfl, by simp, by simp, .inl rfl⟩
  · simp at hcs
    obtain ⟨rfl, rfl, rfl⟩ := hcs
    simp at hmm
    subst hmm
    have hex : ∀ i, ∃ y : QAct, i < len → y.ok W.heap.size W ∧ ∀ t, t < 3 → W.cell? ((a'.add (i * 3)).add t) = some (y.cell t) := by
      intro i
      by_cases hil : i < len
      · obtain ⟨cs', hc, ht⟩ := hi i (by omega)
        rw [cellsOfQAct] at hc
        obtain ⟨y, hy, rfl⟩ := qact_of_trod ht
        obtain ⟨_, _, hat⟩ := World.cells?_some hc
        refine ⟨y, fun _ => ⟨hy, fun t ht3 => ?_⟩⟩
        rw [hat t ht3]
        match t, ht3 with
        | 0, _ => rfl
        | 1, _ => rfl
        | 2, _ => rfl
      · exact ⟨default, fun h => absurd h hil⟩
    obtain ⟨f, hf⟩ := Classical.axiomOfChoice hex
    have hget : ∀ i, i < len → ((List.range len).map f)[i]?.getD default = f i := fun i hil => by simp [hil]
    refine ⟨(List.range len).map f, by simp, some a', m, by simp, by simp; unfold maxLen at hm; omega, fun y hy => ?_, ?_⟩
    · simp at hy
      obtain ⟨i, hil, rfl⟩ := hy
      exact (hf i hil).1
    · by_cases h0 : len = 0
      · left; subst h0; rfl
      · right
        have hc0 := (hf 0 (by omega)).2 0 (by omega)
        obtain ⟨b, off, spot⟩ := a'
        have hspot : spot = none := by simpa [Addr.add] using World.cell?_spot hc0
        subst hspot
        refine ⟨b, off, rfl, by rw [add_twoQ _ _ _ rfl] at hc0; exact cell_lt hc0, fun i hil t ht => ?_⟩
        simp at hil
        have := (hf i hil).2 t ht
        rw [add_twoQ _ _ _ rfl] at this
        rw [hget i hil]
        exact this
end

end Go.Proofs.Ytglnmaekhpaffaa
