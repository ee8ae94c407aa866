/- A map from ints to codes (prefix's): what it holds, as a function; look-up, store, len. -/
import Derived.Maps.OwnSet
import Derived.Maps.OwnIn
import Derived.Test.YtichkoilhnkmkaaDoorPaths
namespace Go.Proofs.YtichkoilhnkmkaaDoor
open Go.RowKit Go.Shelf
set_option linter.unusedVariables false

theorem Tryd.underlying67m : Tryd.prog.underlying 67 = some (.map 3 71) := by kernel_rfl
theorem Tryd.underlying3m : Tryd.prog.underlying 3 = some (.int .i64) := by kernel_rfl
theorem Tryd.zero71m (w : World) : (zeroValue 71).run Tryd.prog w = .ok (.agg #[.int .i64 0, .int .i64 0, .int .i64 0]) w := by kernel_rfl

abbrev codeV (c : Int × Int × Int) : Value := .agg #[.int .i64 c.1, .int .i64 c.2.1, .int .i64 c.2.2]
def codeD (c : Int × Int × Int) : DataW Unit := .agg [.lit (.int .i64 c.1), .lit (.int .i64 c.2.1), .lit (.int .i64 c.2.2)]
theorem codeD_inj {c c' : Int × Int × Int} (h : codeD c = codeD c') : c = c' := by
  obtain ⟨a, b, d⟩ := c
  obtain ⟨a', b', d'⟩ := c'
  simp [codeD] at h
  simp [h]
/-- how an element reads -/
def codeR (v : Value) : Option (DataW Unit × List MemPlace) :=
  match v with
  | .agg a => match a.toList with
    | [.int .i64 n, .int .i64 x, .int .i64 m] => some (codeD (n, x, m), [])
    | _ => none
  | _ => none
theorem codeR_mk (c : Int × Int × Int) : codeR (codeV c) = some (codeD c, []) := rfl
theorem codeR_inv {v : Value} {c : Int × Int × Int} {ps : List MemPlace} (h : codeR v = some (codeD c, ps)) : v = codeV c := by
  unfold codeR at h
  split at h
  · split at h
    · rename_i a _ n x m e
      simp only [Option.some.injEq, Prod.mk.injEq] at h
      have := codeD_inj h.1
      subst this
      have : a = #[.int .i64 n, .int .i64 x, .int .i64 m] := Array.toList_inj.1 e
      rw [this]
    · cases h
  · cases h
theorem int_wf {x : Int} (h1 : -9223372036854775808 ≤ x) (h2 : x ≤ 9223372036854775807) : (Lit.int .i64 x).wf = true := by
  exact WalkArith.wf_i64 ⟨h1, h2⟩

/-- block b holds a map of at most n entries, c of them, that is the function f -/
def CMap (w : World) (b n : Nat) (f : Int → Option (Int × Int × Int)) (c : Nat) : Prop :=
  ∃ D : DataW Unit, w.ownsMap Tryd.prog 3 codeR b n D ∧ Maps.size D = c ∧
    ∀ x : Int, -9223372036854775808 ≤ x → x ≤ 9223372036854775807 → Maps.has D (.int .i64 x) = (f x).isSome ∧ D.atKey (.int .i64 x) (codeD (0, 0, 0)) = codeD ((f x).getD (0, 0, 0))
theorem CMap.lt {w : World} {b n c : Nat} {f : Int → Option (Int × Int × Int)} (h : CMap w b n f c) : b < w.heap.size := by
  obtain ⟨_, h, _⟩ := h; exact h.lt
theorem CMap.made (w : World) : CMap (w.alloc (.map #[] 0)) w.heap.size 0 (fun _ => none) 0 :=
  ⟨.map [], World.ownsMap_made w _ _ _, rfl, fun x _ _ => ⟨rfl, rfl⟩⟩
theorem CMap.block {w w' : World} {b n c : Nat} {f : Int → Option (Int × Int × Int)} (h : CMap w b n f c) (hb : w'.heap[b]? = w.heap[b]?) : CMap w' b n f c := by
  obtain ⟨D, ⟨es, ck, h1, h2⟩, h3⟩ := h
  exact ⟨D, ⟨es, ck, hb.trans h1, h2⟩, h3⟩
theorem CMap.bar {S : Nat → Prop} {w w' : World} {b n c : Nat} {f : Int → Option (Int × Int × Int)} (h : CMap w b n f c) (hb : Bar S w w') (hS : ¬ S b) : CMap w' b n f c := h.block (hb.block b h.lt hS)
theorem CMap.look {w : World} {b n c : Nat} {f : Int → Option (Int × Int × Int)} (h : CMap w b n f c) {x : Int} (h1 : -9223372036854775808 ≤ x) (h2 : x ≤ 9223372036854775807) :
    (Instr.lookup 67 (.map (some b)) (.int .i64 x) false).run Tryd.prog w = .ok (codeV ((f x).getD (0, 0, 0))) w := by
  obtain ⟨D, hown, _, hf⟩ := h
  obtain ⟨v, ps, hrun, hv⟩ := hown.lookup (Maps.int_keyed Tryd.underlying3m) Tryd.underlying67m (Tryd.zero71m w) (codeR_mk (0, 0, 0)) (Maps.keyOf_int_mk Tryd.underlying3m (int_wf h1 h2))
  rw [(hf x h1 h2).2] at hv
  rw [hrun, codeR_inv hv]
theorem CMap.look_ok {w : World} {b n c : Nat} {f : Int → Option (Int × Int × Int)} (h : CMap w b n f c) {x : Int} (h1 : -9223372036854775808 ≤ x) (h2 : x ≤ 9223372036854775807) :
    (Instr.lookup 67 (.map (some b)) (.int .i64 x) true).run Tryd.prog w = .ok (.tuple #[codeV ((f x).getD (0, 0, 0)), .bool (f x).isSome]) w := by
  obtain ⟨D, hown, _, hf⟩ := h
  obtain ⟨v, ps, hrun, hv⟩ := hown.look_ok (Maps.int_keyed Tryd.underlying3m) Tryd.underlying67m (Tryd.zero71m w) (codeR_mk (0, 0, 0)) (Maps.keyOf_int_mk Tryd.underlying3m (int_wf h1 h2))
  rw [(hf x h1 h2).2] at hv
  rw [hrun, codeR_inv hv, (hf x h1 h2).1]
theorem CMap.len {w : World} {b n c : Nat} {f : Int → Option (Int × Int × Int)} (h : CMap w b n f c) (ty : TypeId) : (Builtin.len_ #[67] ty #[.map (some b)]).run Tryd.prog w = .ok (.int .i64 c) w := by
  obtain ⟨D, hown, hc, _⟩ := h
  rw [hown.len Tryd.underlying67m ty, hc]
def put1 (f : Int → Option (Int × Int × Int)) (x : Int) (c : Int × Int × Int) : Int → Option (Int × Int × Int) := fun z => if z = x then some c else f z
theorem CMap.store {w : World} {b n c : Nat} {f : Int → Option (Int × Int × Int)} (h : CMap w b n f c) (hn : n < 9223372036854775807) {x : Int} (h1 : -9223372036854775808 ≤ x) (h2 : x ≤ 9223372036854775807) (v : Int × Int × Int) :
    ∃ w', (Instr.mapUpdate 67 (.map (some b)) (.int .i64 x) (codeV v)).run Tryd.prog w = .ok () w' ∧ CMap w' b (n + 1) (put1 f x v) (if (f x).isSome then c else c + 1) ∧ w.mapTurned w' b := by
  obtain ⟨D, hown, hc, hf⟩ := h
  have hwf := int_wf h1 h2
  obtain ⟨w', hrun, hown', hturn⟩ := hown.store (Maps.int_keyed Tryd.underlying3m) Tryd.underlying67m (by unfold maxLen; omega) (Maps.keyOf_int_mk Tryd.underlying3m hwf) (codeR_mk v)
  have hkl : WideAt.IsKeyLit (.int .i64 x) := by simp [WideAt.IsKeyLit]
  refine ⟨w', hrun, ⟨_, hown', ?_, fun z hz1 hz2 => ?_⟩, hturn⟩
  · rw [Maps.size_put (hown.tidy (Maps.int_keyed Tryd.underlying3m)), (hf x h1 h2).1, hc]
  · unfold put1
    by_cases e : z = x
    · subst e
      rw [if_pos rfl, Maps.has_put_same hown.isMap hkl, Maps.atKey_put_same hown.isMap hkl]
      exact ⟨rfl, rfl⟩
    · rw [if_neg e, Maps.has_put_other (by simpa using e), Maps.atKey_put_other (by simpa using e)]
      exact hf z hz1 hz2

end Go.Proofs.YtichkoilhnkmkaaDoor
