/- prefix's tree as a whole: its codes, its maps; contracts of Codes and Put. -/
import Derived.Test.YtdadmoefmaojlaaDoorPGrow
namespace Go.Proofs.YtdadmoefmaojlaaDoor
open Go.RowKit Go.Shelf
set_option linter.unusedVariables false

/-- the code at a place, as the maps keep it -/
def codeOf (cs : List ByteArray) (ns : List Int) (i : Nat) : Int × Int × Int := (ns[i]?.getD 0, (numOf (bitsL (cs[i]?.getD ⟨#[]⟩)) : Nat), ((cs[i]?.getD ⟨#[]⟩).size : Nat))
/-- the ends of the first k codes -/
def EndsOk (cs : List ByteArray) (ns : List Int) (k : Nat) (P : List (List Nat)) (f : Int → Option (Int × Int × Int)) : Prop :=
  (∀ i, i < k → f (place P (bitsL (cs[i]?.getD ⟨#[]⟩)) : Nat) = some (codeOf cs ns i)) ∧ ∀ z, (f z).isSome = true → ∃ i, i < k ∧ z = (place P (bitsL (cs[i]?.getD ⟨#[]⟩)) : Nat)
/-- by a number, the first of the first k codes that has it -/
def FirstsOk (cs : List ByteArray) (ns : List Int) (k : Nat) (f : Int → Option (Int × Int × Int)) : Prop := ∀ x, f x = (putI (ns.take k) x).map (codeOf cs ns)

/-- a tree that Make made, in the blocks from n₀ on and below m₁ -/
def IsPT (n₀ m₁ : Nat) (w : World) (b : Nat) (cs : List ByteArray) (ns : List Int) : Prop :=
  ∃ P be bf g fE fF nE nF cF, (b < m₁ ∧ be < m₁ ∧ bf < m₁ ∧ g < m₁ ∧ n₀ ≤ b ∧ n₀ ≤ be ∧ n₀ ≤ bf ∧ n₀ ≤ g) ∧ Nodes n₀ w b (.pointer (some ⟨b, 0, none⟩)) P be bf g ∧ Holds P (cs.map bitsL) ∧ CodesOk cs ∧
    (0 < cs.length ∧ cs.length = ns.length ∧ cs.length ≤ 300) ∧ CMap w be nE fE cs.length ∧ EndsOk cs ns cs.length P fE ∧ CMap w bf nF fF cF ∧ FirstsOk cs ns cs.length fF
theorem IsPT.keep {S : Nat → Prop} {n₀ m₁ : Nat} {w w' : World} {b : Nat} {cs : List ByteArray} {ns : List Int} (h : IsPT n₀ m₁ w b cs ns) (hb : Bar S w w') (hS : ∀ k, n₀ ≤ k → k < m₁ → ¬ S k) : IsPT n₀ m₁ w' b cs ns := by
  obtain ⟨P, be, bf, g, fE, fF, nE, nF, cF, h1, h2, h3, h4, h5, h6, h7, h8, h9⟩ := h
  obtain ⟨a1, a2, a3, a4, a5, a6, a7, a8⟩ := h1
  exact ⟨P, be, bf, g, fE, fF, nE, nF, cF, ⟨a1, a2, a3, a4, a5, a6, a7, a8⟩, h2.keep hb (hS b a5 a1) (hS g a8 a4), h3, h4, h5, h6.bar hb (hS be a6 a2), h7, h8.bar hb (hS bf a7 a3), h9⟩

theorem isPT_made {n₀ m₁ : Nat} {w : World} {b : Nat} {cs : List ByteArray} {ns : List Int} (h : IsPT n₀ m₁ w b cs ns) : Calls Tryd.prog 36 #[.pointer (some ⟨b, 0, none⟩)] w fun e w' => e = .returned (.bool true) ∧ w = w' := by
  obtain ⟨P, be, bf, g, fE, fF, nE, nF, cF, _, h2, _⟩ := h
  obtain ⟨cap, xs, hb, _⟩ := h2.is
  exact pmade_any (p_cells hb).1

set_option maxHeartbeats 1000000 in
theorem codesP_any {n₀ m₁ : Nat} {w : World} {b : Nat} {cs : List ByteArray} {ns : List Int} (h : IsPT n₀ m₁ w b cs ns) :
    Calls Tryd.prog 19 #[.pointer (some ⟨b, 0, none⟩)] w fun e w' => e = .returned (.int .i64 cs.length) ∧ Below w.heap.size w w' := by
  have HM := Lib.hid (isPT_made h)
  obtain ⟨P, be, bf, g, fE, fF, nE, nF, cF, q1, h2, q3, q4, q5, h6, q7⟩ := h
  obtain ⟨cap, xs, hb, _⟩ := h2.is
  obtain ⟨c0, c1, c2, c3⟩ := p_cells hb
  have hlen := fun ty => h6.len ty
  clear hb h2 h6 q1 q3 q4 q5 q7
  go_enter Tryd.func19, Tryd.ntmps19
  go_wp2_with (go_at_call 36; refine HM.out.mono ?_; rintro e w' ⟨rfl, rfl⟩)
  go_ret
  exact ⟨rfl, Below.refl _ _⟩

theorem putI_some {ns : List Int} {x : Int} {i : Nat} (h : putI ns x = some i) : i < ns.length := by
  unfold putI at h
  rw [List.findIdx?_eq_some_iff_getElem] at h
  exact h.1

set_option maxRecDepth 100000 in
set_option maxHeartbeats 2000000 in
theorem putP_any {n₀ m₁ : Nat} {w : World} {b : Nat} {cs : List ByteArray} {ns : List Int} (h : IsPT n₀ m₁ w b cs ns) (x : Int) (hx1 : -9223372036854775808 ≤ x) (hx2 : x ≤ 9223372036854775807) :
    Calls Tryd.prog 17 #[.pointer (some ⟨b, 0, none⟩), .int .i64 x] w fun e w' => e = .returned (.tuple #[.string (putS cs ns x), .int .i64 (putE3 ns x)]) ∧ Below w.heap.size w w' := by
  have HM := Lib.hid (isPT_made h)
  obtain ⟨P, be, bf, g, fE, fF, nE, nF, cF, q1, h2, q3, h4, h5, q6, q7, h8, h9⟩ := h
  obtain ⟨cap, xs, hb, _⟩ := h2.is
  obtain ⟨c0, c1, c2, c3⟩ := p_cells hb
  have hlook := h8.look_ok hx1 hx2
  rw [h9 x, show ns.take cs.length = ns by rw [h5.2.1]; exact List.take_length] at hlook
  clear hb h2 h8 h9 q1 q3 q6 q7
  cases hp : putI ns x with
  | none =>
    rw [hp] at hlook
    have HS : Hid (putS cs ns x = ⟨#[]⟩) := by show putS cs ns x = _; unfold putS; rw [hp]
    have HE : Hid (putE3 ns x = 18) := by show putE3 ns x = _; unfold putE3; rw [hp]
    simp only [Option.map_none, Option.isSome_none, Option.getD_none] at hlook
    clear hp h4 h5
    go_enter Tryd.func17, Tryd.ntmps17
    go_wp2_with (go_at_call 36; refine HM.out.mono ?_; rintro e w' ⟨rfl, rfl⟩)
    go_ret2
    exact ⟨by rw [HS.out, HE.out]; rfl, (Below.refl _ _).alloc (Nat.le_refl _) _⟩
  | some i =>
    have hi : i < cs.length := by rw [h5.2.1]; exact putI_some hp
    have h24 := h4.at_ hi
    rw [hp] at hlook
    have HS : Hid (putS cs ns x = cs[i]) := by show putS cs ns x = _; unfold putS; rw [hp]; simp [hi]
    have HE : Hid (putE3 ns x = 0) := by show putE3 ns x = _; unfold putE3; rw [hp]
    have e1 : codeOf cs ns i = (ns[i]?.getD 0, (numOf (bitsL cs[i]) : Int), (cs[i].size : Int)) := by unfold codeOf; simp [hi]
    simp only [Option.map_some, Option.isSome_some, Option.getD_some, e1] at hlook
    have HT := Lib.hid (fun W => text_any h24.1 h24.2.2 (ns[i]?.getD 0) W)
    clear hp h4 h5 h24 e1
    generalize ns[i]?.getD 0 = y at *
    generalize cs[i] = s at *
    generalize numOf (bitsL s) = z at *
    go_enter Tryd.func17, Tryd.ntmps17
    go_wp2_with (first | (go_at_call 36; refine HM.out.mono ?_; rintro e w' ⟨rfl, rfl⟩) | (go_at_call 41; refine (HT.out _).mono ?_; rintro e w' ⟨rfl, hb⟩))
    go_ret2
    exact ⟨by rw [HS.out, HE.out]; rfl, ((Below.refl _ _).alloc (Nat.le_refl _) _).trans (hb.mono (by simp))⟩

end Go.Proofs.YtdadmoefmaojlaaDoor
