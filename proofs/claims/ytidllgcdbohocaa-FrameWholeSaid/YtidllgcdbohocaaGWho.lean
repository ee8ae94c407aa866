/- FrameWhole: marks; where blocks lie, by their numbers. -/
import Derived.Test.YtidllgcdbohocaaGMap
import Derived.Test.YtidllgcdbohocaaGLaw2
namespace Go.Proofs.Ytidllgcdbohocaa
open Go.RowKit Go.Shelf Go.Sort
set_option linter.unusedVariables false

/-- block b holds, for each of n bytes, whether it was marked ahead of T -/
def SeenW (c n b T : Nat) (W : World) : Prop := ∃ cs t, W.heap[b]? = some (.cells cs t (0, 0)) ∧ ∀ k, k < n → cs[k]? = some (.bool (decide (kR c k < T)))
theorem SeenW.at {c n b T : Nat} {W W' : World} (h : SeenW c n b T W) (e : W'.heap[b]? = W.heap[b]?) : SeenW c n b T W' := by obtain ⟨cs, t, h1, h2⟩ := h; exact ⟨cs, t, e.trans h1, h2⟩
theorem SeenW.lt {c n b T : Nat} {W : World} (h : SeenW c n b T W) : b < W.heap.size := by obtain ⟨cs, t, h1, h2⟩ := h; exact (Array.getElem?_eq_some_iff.1 h1).1
theorem SeenW.cell {c n b T : Nat} {W : World} (h : SeenW c n b T W) {k : Nat} (hk : k < n) : W.cell? ⟨b, k, none⟩ = some (.bool (decide (kR c k < T))) ∧ W.frozen? ⟨b, k, none⟩ = false := by
  obtain ⟨cs, t, h1, h3⟩ := h
  refine ⟨?_, ?_⟩
  · unfold World.cell?
    simp only
    rw [h1]
    exact h3 k hk
  · unfold World.frozen?
    simp only
    rw [h1]
    simp
theorem SeenW.mark {c n b T : Nat} {W : World} (h : SeenW c n b T W) {x : Nat} (hx : kR c x = T) (hu : ∀ k, k < n → kR c k = T → k = x) : SeenW c n b (T + 1) (W.setCell ⟨b, x, none⟩ (.bool true)) := by
  obtain ⟨cs, t, h1, h3⟩ := h
  refine ⟨_, t, heap_setCell_same W b x _ _ _ h1, fun k hk => ?_⟩
  by_cases e : k = x
  · subst e
    rw [show decide (kR c k < T + 1) = true by simp; omega]
    have := (Array.getElem?_eq_some_iff.1 (h3 k hk)).1
    rw [Array.getElem?_setIfInBounds_self]
    simp
    omega
  · have hne : kR c k ≠ T := fun h => e (hu k hk h)
    rw [show decide (kR c k < T + 1) = decide (kR c k < T) by simp; omega]
    rw [← h3 k hk]
    simp [Ne.symm e]

set_option maxRecDepth 100000 in
set_option maxHeartbeats 2000000 in
theorem marks13_any {c n b T : Nat} (hn : n ≤ 1000000) (at_ st : Nat) (hat : at_ ≤ 1000000) (hst : st ≤ 352) (K : Nat → Nat) (hK : ∀ j, j < 64 → at_ + j / 8 * st + j % 8 = K j ∧ K j < n ∧ kR c (K j) = T + j ∧ ∀ k, k < n → kR c k = T + j → k = K j) (W : World) (h : SeenW c n b T W) :
    Calls Try.prog 25 #[.slice (some ⟨b, 0, none⟩) n n, .int .i64 (at_ : Int), .int .i64 (st : Int)] W fun e W' => e = .returned (.bool true) ∧ SeenW c n b (T + 64) W' ∧ Bar (fun k => k = b) W W' := by
  have HK := Lib.hid hK
  have HS := Lib.hid h
  clear hK h
  go_enter Try.func25, Try.ntmps25
  go_wp2_with fail
  go_loopw [7] (fun i wr => ∃ j : Nat, i = .int .i64 j ∧ j ≤ 64 ∧ SeenW c n b (T + j) wr ∧ Bar (fun k => k = b) W wr) (fun i _ => 64 - (intOf i).toNat)
  case atStart => exact ⟨0, rfl, by omega, HS.out, Bar.refl _ _⟩
  case round =>
    obtain ⟨j, rfl, hj, hs, hb⟩ := hrel
    have HB := Lib.hid hb
    have HSj := Lib.hid hs
    clear hb
    by_cases hj2 : j < 64
    · have hj3 : (j : Int) < 64 := by omega
      obtain ⟨k1, k2, k3, k4⟩ := HK.out j hj2
      obtain ⟨c0, f0⟩ := hs.cell k2
      rw [show decide (kR c (K j) < T + j) = false by simp; omega] at c0
      have K3 := Lib.hid k3
      have K4 := Lib.hid k4
      have hq : j / 8 * st ≤ 7 * 352 := Nat.mul_le_mul (by omega) hst
      have hq0 : (0 : Int) ≤ (j : Int) / 8 * (st : Int) := by
        have := Int.natCast_nonneg (j / 8 * st)
        simpa using this
      have hq1 : (j : Int) / 8 * (st : Int) ≤ 2464 := by
        have : ((j / 8 * st : Nat) : Int) ≤ 2464 := by omega
        simpa using this
      have hkk : (at_ : Int) + (j : Int) / 8 * (st : Int) + (j : Int) % 8 = ((K j : Nat) : Int) := by rw [← k1]; simp
      have hn2 : ((K j : Nat) : Int) < (n : Int) := by omega
      clear hs k1 k3 k4 hq
      generalize K j = kk at *
      go_wp2
      exact ⟨⟨j + 1, by go_num, by omega, HSj.out.mark K3.out K4.out, HB.out.setCell (p := ⟨b, kk, none⟩) (fun _ => rfl) _⟩, by simp [intOf]; omega⟩
    · obtain rfl : j = 64 := by omega
      go_wp2
      go_ret
      exact ⟨rfl, HSj.out, HB.out⟩


/-- the group ahead of group g: 0 ahead of the first one -/
def pgF (F : Int) (g : Nat) : Int := if g = 0 then 0 else (gL F)[g - 1]?.getD 0
theorem pgF_succ (F : Int) (g : Nat) : pgF F (g + 1) = (gL F)[g]?.getD 0 := by unfold pgF; rw [if_neg (by omega)]; rfl
theorem pgF_next {F : Int} (hF : F = 0 ∨ F = 1) {g : Nat} (hg : g < (gL F).length) : nX F (pgF F g) = (gL F)[g]?.getD 0 ∧ nE F (pgF F g) = 0 := by
  rcases hF with rfl | rfl
  · exact (by decide +kernel : ∀ g : Fin 3, nX 0 (pgF 0 g.val) = (gL 0)[g.val]?.getD 0 ∧ nE 0 (pgF 0 g.val) = 0) ⟨g, hg⟩
  · exact (by decide +kernel : ∀ g : Fin 12, nX 1 (pgF 1 g.val) = (gL 1)[g.val]?.getD 0 ∧ nE 1 (pgF 1 g.val) = 0) ⟨g, hg⟩
theorem pgF_last {F : Int} (hF : F = 0 ∨ F = 1) : nX F (pgF F (gL F).length) = 0 ∧ nE F (pgF F (gL F).length) = 0 := by
  rcases hF with rfl | rfl
  · decide +kernel
  · decide +kernel

/-- where block i of macroblock m of group g lies, and all its samples -/
theorem pA_ix {F : Int} {c : Nat} (hF : (F = 0 ∧ c = 1) ∨ (F = 1 ∧ c = 2)) {g m i : Nat} (hg : g < 3 * (c * c)) (hm : m < 33) (hi : i < 6) :
    ∃ at_ st : Nat, at_ ≤ 1000000 ∧ st ≤ 352 ∧ pA F ((gL F)[g]?.getD 0) ((m : Int) + 1) ((i : Int) + 1) = (at_ : Int) ∧ pW F ((gL F)[g]?.getD 0) ((m : Int) + 1) ((i : Int) + 1) = (st : Int) ∧ pE F ((gL F)[g]?.getD 0) ((m : Int) + 1) ((i : Int) + 1) = 0 ∧
      ∀ j, j < 64 → at_ + j / 8 * st + j % 8 = ixc c g m i j := by
  have hcc : c = 1 ∨ c = 2 := by rcases hF with ⟨-, h⟩ | ⟨-, h⟩ <;> simp [h]
  have hG : isF F = true ∧ isG F ((gL F)[g]?.getD 0) = true ∧ ((gL F)[g]?.getD 0 - 1) % 2 = ((g % c : Nat) : Int) ∧ ((gL F)[g]?.getD 0 - 1) / 2 = ((g / c : Nat) : Int) := by
    rcases hF with ⟨rfl, rfl⟩ | ⟨rfl, rfl⟩
    · exact (by decide +kernel : ∀ g : Fin 3, isF 0 = true ∧ isG 0 ((gL 0)[g.val]?.getD 0) = true ∧ ((gL 0)[g.val]?.getD 0 - 1) % 2 = ((g.val % 1 : Nat) : Int) ∧ ((gL 0)[g.val]?.getD 0 - 1) / 2 = ((g.val / 1 : Nat) : Int)) ⟨g, hg⟩
    · exact (by decide +kernel : ∀ g : Fin 12, isF 1 = true ∧ isG 1 ((gL 1)[g.val]?.getD 0) = true ∧ ((gL 1)[g.val]?.getD 0 - 1) % 2 = ((g.val % 2 : Nat) : Int) ∧ ((gL 1)[g.val]?.getD 0 - 1) / 2 = ((g.val / 2 : Nat) : Int)) ⟨g, hg⟩
  obtain ⟨h1, h2, h3, h4⟩ := hG
  generalize (gL F)[g]?.getD 0 = G at *
  have e0 : cE F G ((m : Int) + 1) = 0 := by unfold cE; rw [if_pos h1, if_pos h2, if_pos (by omega)]
  obtain ⟨p1, p2, p3⟩ : pE F G ((m : Int) + 1) ((i : Int) + 1) = 0 ∧ pA F G ((m : Int) + 1) ((i : Int) + 1) = atP (sW F) (sH F) (cX F G ((m : Int) + 1)) (cY F G ((m : Int) + 1)) ((i : Int) + 1) ∧ pW F G ((m : Int) + 1) ((i : Int) + 1) = if (i : Int) + 1 ≤ 4 then sW F else sW F / 2 := by
    have e1 : pE F G ((m : Int) + 1) ((i : Int) + 1) = 0 := by unfold pE; rw [if_pos e0, if_pos (by omega)]
    exact ⟨e1, by unfold pA; rw [if_pos e1], by unfold pW; rw [if_pos e1]⟩
  have x1 : cX F G ((m : Int) + 1) = 16 * ((m : Int) % 11) + 176 * ((g % c : Nat) : Int) := by unfold cX; rw [if_pos e0, h3]; omega
  have y1 : cY F G ((m : Int) + 1) = 16 * ((m : Int) / 11) + 48 * ((g / c : Nat) : Int) := by unfold cY; rw [if_pos e0, h4]; omega
  obtain ⟨q1, -⟩ := ixc_there hcc hg hm hi (show 0 < 64 by omega)
  refine ⟨ixc c g m i 0, if i < 4 then 176 * c else 88 * c, ?_, ?_, ?_, ?_, p1, ?_⟩
  · rcases hcc with rfl | rfl <;> omega
  · rcases hcc with rfl | rfl <;> split <;> omega
  · rw [p2, x1, y1]
    clear p2 p3 p1 x1 y1 e0 h1 h2 h3 h4 q1
    unfold atP ixc
    rcases hF with ⟨rfl, rfl⟩ | ⟨rfl, rfl⟩
    · rw [show sW 0 = 176 from rfl, show sH 0 = 144 from rfl]
      by_cases h : i < 4
      · rw [if_pos h, if_pos (by omega)]; omega
      · rw [if_neg h, if_neg (by omega)]; omega
    · rw [show sW 1 = 352 from rfl, show sH 1 = 288 from rfl]
      by_cases h : i < 4
      · rw [if_pos h, if_pos (by omega)]; omega
      · rw [if_neg h, if_neg (by omega)]; omega
  · rw [p3]
    rcases hF with ⟨rfl, rfl⟩ | ⟨rfl, rfl⟩
    · rw [show sW 0 = 176 from rfl]
      by_cases h : i < 4
      · rw [if_pos h, if_pos (by omega)]; omega
      · rw [if_neg h, if_neg (by omega)]; omega
    · rw [show sW 1 = 352 from rfl]
      by_cases h : i < 4
      · rw [if_pos h, if_pos (by omega)]; omega
      · rw [if_neg h, if_neg (by omega)]; omega
  · intro j hj
    clear p2 p3 p1 x1 y1 e0 h1 h2 h3 h4 q1
    unfold ixc
    rcases hcc with rfl | rfl
    · by_cases h : i < 4
      · rw [if_pos h, if_pos h, if_pos h]; omega
      · rw [if_neg h, if_neg h, if_neg h]; omega
    · by_cases h : i < 4
      · rw [if_pos h, if_pos h, if_pos h]; omega
      · rw [if_neg h, if_neg h, if_neg h]; omega

end Go.Proofs.Ytidllgcdbohocaa
