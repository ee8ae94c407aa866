/- paint, plainly: the places of a spot's blocks are apart, and all of them are the picture. -/
import Derived.Test.YtenplmmongphoaaTPlain2
import Derived.Test.YtenplmmongphoaaTRef2
import Derived.Test.YtenplmmongphoaaGIx
namespace Go.Proofs.Ytenplmmongphoaa
open Go.RowKit Go.Shelf
set_option linter.unusedVariables false

/-- a group's number in its picture -/
theorem gL_of {F G : Int} (h : isG F G = true) : ∃ g c : Nat, ((F = 0 ∧ c = 1) ∨ (F = 1 ∧ c = 2)) ∧ g < 3 * (c * c) ∧ (gL F)[g]?.getD 0 = G := by
  unfold isG at h
  simp only [Bool.or_eq_true, Bool.and_eq_true, beq_iff_eq, decide_eq_true_eq] at h
  rcases h with ⟨rfl, h⟩ | ⟨⟨rfl, h1⟩, h2⟩
  · rcases h with (rfl | rfl) | rfl
    · exact ⟨0, 1, .inl ⟨rfl, rfl⟩, by decide, rfl⟩
    · exact ⟨1, 1, .inl ⟨rfl, rfl⟩, by decide, rfl⟩
    · exact ⟨2, 1, .inl ⟨rfl, rfl⟩, by decide, rfl⟩
  · refine ⟨(G - 1).toNat, 2, .inr ⟨rfl, rfl⟩, by omega, ?_⟩
    obtain ⟨n, hn, hn2⟩ : ∃ n : Nat, G = (n : Int) + 1 ∧ n < 12 := ⟨(G - 1).toNat, by omega, by omega⟩
    subst hn
    rw [show ((n : Int) + 1 - 1).toNat = n by omega]
    exact (by decide +kernel : ∀ n : Fin 12, (gL 1)[n.val]?.getD 0 = ((n.val : Nat) : Int) + 1) ⟨n, hn2⟩
/-- where a spot's blocks' samples are -/
theorem psT_num {F : Int} {c : Nat} (hF : (F = 0 ∧ c = 1) ∨ (F = 1 ∧ c = 2)) {g m i j : Nat} (hg : g < 3 * (c * c)) (hm : m < 33) (hi : i < 6) (hj : j < 64) : psT F ((gL F)[g]?.getD 0) ((m : Int) + 1) ((i : Int) + 1) j = ixc c g m i j := by
  obtain ⟨at_, st, -, -, h1, h2, h3, h4⟩ := pA_ix hF hg hm hi
  obtain ⟨h5, -⟩ := psT_at h3 hj
  rw [h1, h2] at h5
  have := h4 j hj
  have e : ((j / 8 : Nat) : Int) * (st : Int) = ((j / 8 * st : Nat) : Int) := by rw [Int.natCast_mul]
  omega
theorem spot_num {F G A : Int} (h : cE F G A = 0) : ∃ c g m : Nat, ((F = 0 ∧ c = 1) ∨ (F = 1 ∧ c = 2)) ∧ g < 3 * (c * c) ∧ m < 33 ∧ sN F = ((38016 * (c * c) : Nat) : Int) ∧ ∀ i j : Nat, i < 6 → j < 64 → psT F G A ((i : Int) + 1) j = ixc c g m i j := by
  unfold cE at h
  have hf : isF F = true := by
    by_cases e : isF F = true
    · exact e
    · rw [if_neg e] at h; omega
  rw [if_pos hf] at h
  have hg : isG F G = true := by
    by_cases e : isG F G = true
    · exact e
    · rw [if_neg e] at h; omega
  rw [if_pos hg] at h
  have ha : 1 ≤ A ∧ A ≤ 33 := by
    by_cases e : 1 ≤ A ∧ A ≤ 33
    · exact e
    · rw [if_neg e] at h; omega
  obtain ⟨g, c, hF, hg2, rfl⟩ := gL_of hg
  obtain ⟨m, rfl, hm⟩ : ∃ m : Nat, A = (m : Int) + 1 ∧ m < 33 := ⟨(A - 1).toNat, by omega, by omega⟩
  refine ⟨c, g, m, hF, hg2, hm, ?_, fun i j hi hj => psT_num hF hg2 hm hi hj⟩
  rcases hF with ⟨rfl, rfl⟩ | ⟨rfl, rfl⟩ <;> rfl
theorem c_of {F : Int} {c : Nat} (hF : (F = 0 ∧ c = 1) ∨ (F = 1 ∧ c = 2)) : c = 1 ∨ c = 2 := by rcases hF with ⟨-, h⟩ | ⟨-, h⟩ <;> simp [h]
/-- the samples of a spot's blocks are apart -/
theorem psT_apart {F G A : Int} (h : cE F G A = 0) {i i' j j' : Nat} (hi : i < 6) (hi' : i' < 6) (hj : j < 64) (hj' : j' < 64) (e : psT F G A ((i : Int) + 1) j = psT F G A ((i' : Int) + 1) j') : i = i' ∧ j = j' := by
  obtain ⟨c, g, m, hF, hg, hm, -, hp⟩ := spot_num h
  rw [hp i j hi hj, hp i' j' hi' hj'] at e
  obtain ⟨-, -, -, a1, a2⟩ := ixc_there (c_of hF) hg hm hi hj
  obtain ⟨-, -, -, b1, b2⟩ := ixc_there (c_of hF) hg hm hi' hj'
  rw [e] at a1 a2
  exact ⟨a1.symm.trans b1, a2.symm.trans b2⟩
theorem psT_lt {F G A : Int} (h : cE F G A = 0) {i j : Nat} (hi : i < 6) (hj : j < 64) {n : Nat} (hn : (n : Int) = sN F) : psT F G A ((i : Int) + 1) j < n := by
  obtain ⟨c, g, m, hF, hg, hm, h3, hp⟩ := spot_num h
  rw [hp i j hi hj]
  obtain ⟨a0, -⟩ := ixc_there (c_of hF) hg hm hi hj
  omega
/-- each byte is of one spot's -/
theorem psT_all {F : Int} {n : Nat} (hn : (n : Int) = sN F) {x : Nat} (hx : x < n) : ∃ G A : Int, ∃ i j : Nat, cE F G A = 0 ∧ (1 ≤ G ∧ G ≤ 12) ∧ i < 6 ∧ j < 64 ∧ psT F G A ((i : Int) + 1) j = x := by
  have hF : ∃ c : Nat, ((F = 0 ∧ c = 1) ∨ (F = 1 ∧ c = 2)) := by
    by_cases h0 : F = 0
    · exact ⟨1, .inl ⟨h0, rfl⟩⟩
    · by_cases h1 : F = 1
      · exact ⟨2, .inr ⟨h1, rfl⟩⟩
      · unfold sN at hn
        rw [if_neg h0, if_neg h1] at hn
        omega
  obtain ⟨c, hF⟩ := hF
  have hsn : n = 38016 * (c * c) := by rcases hF with ⟨rfl, rfl⟩ | ⟨rfl, rfl⟩ <;> (unfold sN at hn; simp at hn; omega)
  obtain ⟨h1, h2, h3, h4, h5⟩ := ixc_of (c_of hF) (show x < 38016 * (c * c) by omega)
  refine ⟨(gL F)[kG c x]?.getD 0, ((kM c x : Nat) : Int) + 1, kI c x, kJ c x, ?_, ?_, h3, h4, (psT_num hF h1 h2 h3 h4).trans h5⟩
  · obtain ⟨at_, st, -, -, -, -, hp, -⟩ := pA_ix hF h1 h2 h3
    exact (pE_zero hp).1
  · rcases hF with ⟨rfl, rfl⟩ | ⟨rfl, rfl⟩
    · exact (by decide +kernel : ∀ g : Fin 3, 1 ≤ (gL 0)[g.val]?.getD 0 ∧ (gL 0)[g.val]?.getD 0 ≤ 12) ⟨_, h1⟩
    · exact (by decide +kernel : ∀ g : Fin 12, 1 ≤ (gL 1)[g.val]?.getD 0 ∧ (gL 1)[g.val]?.getD 0 ≤ 12) ⟨_, h1⟩

end Go.Proofs.Ytenplmmongphoaa
