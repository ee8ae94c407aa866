/- The law PrefixBack returns true for all texts and numbers: codes one behind the other are got as they were put. No conditions. -/
import Derived.Test.YtdadmoefmaojlaaDoorPTree
import Derived.ProofKit
import Derived.Deep.Slices
import Derived.ChangeArms
import Derived.OpenShut
import Derived.Test.YtdadmoefmaojlaaDoorPBackM
import Derived.Test.YtdadmoefmaojlaaDoorPGet
import Derived.Test.YtdadmoefmaojlaaDoorTie
import Derived.Test.YtdadmoefmaojlaaDoorCards
import Derived.LaidMore
import Derived.Lay
import Derived.SevenTiedAt
import Derived.Stop.Joined
import Derived.ShutString
import Derived.ChangeOld
import Derived.SizedLaws
namespace Go.Proofs.YtdadmoefmaojlaaDoor
open Go.RowKit Go.ChangeShapes Go.WideShapes
set_option linter.unusedVariables false

theorem cellsOfStr : Tryd.prog.cellsOf 9 = 1 := by kernel_rfl
theorem add_twoS (a : Addr) (i j : Nat) (h : a.spot = none) : (a.add i).add j = ⟨a.block, a.off + i + j, none⟩ := by
  obtain ⟨b, off, spot⟩ := a
  simp at h
  subst h
  have h1 : (⟨b, off, none⟩ : Addr).add i = ⟨b, off + i, none⟩ := by unfold Addr.add; split <;> simp_all
  rw [h1]
  unfold Addr.add; split <;> simp_all

section
variable {H : Type} {enc : TypeId × Value → H} {W : World}

theorem strs_of_trod {fuel : Nat} {a : Option Addr} {len cap : Nat} {x : DataW H × List MemPlace} (h : DataW.trod enc Tryd.prog W 0 (fun _ => true) true fuel 22 [.slice a len cap] = some x) :
    ∃ xs : List ByteArray, RowV W.heap.size W a len cap (strV xs) ∧ (∀ s ∈ xs, s.size ≤ 9223372036854775807) ∧ (len = 0 ∨ ∃ elems spare, x.1 = .slice elems spare ∧ elems.length = len) := by
  rcases Go.Deep.open_slice Tryd.underlying22x h with ⟨hcs, _⟩ | ⟨a', len', cap', m, n, D, Pl, hcs, _, hl, hm, hmm, hx, hi⟩
  · simp at hcs
    obtain ⟨rfl, rfl, rfl⟩ := hcs
    exact ⟨[], ⟨rfl, Nat.le_refl _, by omega, .inl rfl⟩, by simp, .inl rfl⟩
  · simp at hcs
    obtain ⟨rfl, rfl, rfl⟩ := hcs
    simp at hmm
    subst hmm
    have hex : ∀ i, ∃ y : ByteArray, i < m → y.size ≤ 9223372036854775807 ∧ W.cell? ((a'.add (i * 1)).add 0) = some (.string y) := by
      intro i
      by_cases hil : i < m
      · obtain ⟨cs', hc, ht⟩ := hi i hil
        rw [cellsOfStr] at hc
        obtain ⟨s, hs, hrest⟩ := DataW.trod_string Tryd.underlying9 ht
        subst hs
        obtain ⟨_, _, hat⟩ := World.cells?_some hc
        exact ⟨s, fun _ => ⟨by have := hrest.2; unfold maxLen at this; omega, hat 0 (by omega)⟩⟩
      · exact ⟨⟨#[]⟩, fun h => absurd h hil⟩
    obtain ⟨f, hf⟩ := Classical.axiomOfChoice hex
    refine ⟨(List.range len).map f, ⟨by simp, hl, by unfold maxLen at hm; omega, ?_⟩, fun s hs => ?_, .inr ⟨_, _, by rw [hx], by simp⟩⟩
    · by_cases h0 : m = 0
      · exact .inl h0
      · right
        have hc0 := (hf 0 (by omega)).2
        obtain ⟨b, off, spot⟩ := a'
        have hspot : spot = none := by simpa [Addr.add] using World.cell?_spot hc0
        subst hspot
        refine ⟨b, off, rfl, by rw [add_twoS _ _ _ rfl] at hc0; exact cell_lt hc0, fun j u hu => ?_⟩
        have hj : j < len := by
          false_or_by_contra
          rw [List.getElem?_eq_none (by simp; omega)] at hu
          cases hu
        have h2 := (hf j (by omega)).2
        rw [add_twoS _ _ _ rfl] at h2
        simp [hj] at hu
        subst hu
        simpa using h2
    · simp at hs
      obtain ⟨i, hil, rfl⟩ := hs
      exact (hf i (by omega)).1
theorem bytes_of_trod {fuel : Nat} {a : Option Addr} {len cap : Nat} {x : DataW H × List MemPlace} (h : DataW.trod enc Tryd.prog W 0 (fun _ => true) true fuel 24 [.slice a len cap] = some x) :
    ∃ zs : List UInt8, Row8 W.heap.size W a len cap zs ∧ (len = 0 ∨ ∃ elems spare, x.1 = .slice elems spare ∧ elems.length = len) := by
  have hrow : ∃ zs, Row8 W.heap.size W a len cap zs := by
    rcases open_ints Tryd.underlying24 Tryd.underlying5 (by kernel_rfl) h with ⟨hcs, _⟩ | ⟨x, l, c, zs, hcs, _, hl, hm, hz, _, hcell, hwz⟩
    · simp at hcs
      obtain ⟨rfl, rfl, rfl⟩ := hcs
      exact row8_of_row (w := W) (z := []) (.inl ⟨rfl, rfl, rfl, rfl⟩)
    · simp at hcs
      obtain ⟨rfl, rfl, rfl⟩ := hcs
      exact row8_of_row (w := W) (z := zs) (.inr ⟨_, rfl, hl, hm, by simpa using hz, hcell, hwz⟩)
  obtain ⟨zs, hz⟩ := hrow
  refine ⟨zs, hz, ?_⟩
  rcases Go.Deep.open_slice Tryd.underlying24 h with ⟨hcs, _⟩ | ⟨a', len', cap', m, n, D, Pl, hcs, _, hl, hm, hmm, hx, hi⟩
  · simp at hcs
    exact .inl hcs.2.1
  · simp at hcs
    obtain ⟨rfl, rfl, rfl⟩ := hcs
    exact .inr ⟨_, _, by rw [hx], by simp⟩
theorem Row8.whole {n₀ : Nat} {w : World} {a : Option Addr} {len cap : Nat} {zs : List UInt8} (h : Row8 n₀ w a len cap zs) (hn : n₀ ≤ w.heap.size) (hl : len ≤ 1152921504606846975) : Byt w.heap.size w (.slice a len cap) zs := by
  have h1 := h.1
  subst h1
  have := h.byt hn (Nat.le_refl _) hl
  rwa [List.take_length] at this
theorem cellsOfInt : Tryd.prog.cellsOf 3 = 1 := by kernel_rfl
theorem ints_of_trod {fuel : Nat} {a : Option Addr} {len cap : Nat} {x : DataW H × List MemPlace} (h : DataW.trod enc Tryd.prog W 0 (fun _ => true) true fuel 23 [.slice a len cap] = some x) :
    ∃ xs : List Int, RowV W.heap.size W a len cap (intV xs) ∧ I64s xs := by
  rcases Go.Deep.open_slice Tryd.underlying23y h with ⟨hcs, _⟩ | ⟨a', len', cap', m, n, D, Pl, hcs, _, hl, hm, hmm, _, hi⟩
  · simp at hcs
    obtain ⟨rfl, rfl, rfl⟩ := hcs
    exact ⟨[], ⟨rfl, Nat.le_refl _, by omega, .inl rfl⟩, fun n hn => by simp at hn⟩
  · simp at hcs
    obtain ⟨rfl, rfl, rfl⟩ := hcs
    simp at hmm
    subst hmm
    have hex : ∀ i, ∃ y : Int, (-9223372036854775808 ≤ y ∧ y ≤ 9223372036854775807) ∧ (i < m → W.cell? ((a'.add (i * 1)).add 0) = some (.int .i64 y)) := by
      intro i
      by_cases hil : i < m
      · obtain ⟨cs', hc, ht⟩ := hi i hil
        rw [cellsOfInt] at hc
        obtain ⟨s, hs, _, hwf⟩ := DataW.trod_int Tryd.underlying3 ht
        subst hs
        obtain ⟨_, _, hat⟩ := World.cells?_some hc
        exact ⟨s, wf_i64 hwf, fun _ => hat 0 (by omega)⟩
      · exact ⟨0, by omega, fun h => absurd h hil⟩
    obtain ⟨f, hf'⟩ := Classical.axiomOfChoice hex
    have hf := fun i => (hf' i).2
    refine ⟨(List.range len).map f, ⟨by simp, hl, by unfold maxLen at hm; omega, ?_⟩, fun n hn => by
      rw [List.mem_map] at hn
      obtain ⟨i, _, rfl⟩ := hn
      exact (hf' i).1⟩
    by_cases h0 : m = 0
    · exact .inl h0
    · right
      have hc0 := hf 0 (by omega)
      obtain ⟨b, off, spot⟩ := a'
      have hspot : spot = none := by simpa [Addr.add] using World.cell?_spot hc0
      subst hspot
      refine ⟨b, off, rfl, by rw [add_twoS _ _ _ rfl] at hc0; exact cell_lt hc0, fun j u hu => ?_⟩
      have hj : j < len := by
        false_or_by_contra
        rw [List.getElem?_eq_none (by simp; omega)] at hu
        cases hu
      have h2 := hf j (by omega)
      rw [add_twoS _ _ _ rfl] at h2
      simp [hj] at hu
      subst hu
      simpa using h2
end

end Go.Proofs.YtdadmoefmaojlaaDoor

namespace Go.Proofs.YtdadmoefmaojlaaDoor.lawPBack
open Go.ChangeShapes Go.WideShapes Go.ChangeAt Go.RowKit
set_option linter.unusedVariables false

theorem own : ownKnob Tryd.prog.godebug = none := by kernel_rfl
theorem laidOut : laidOutB Tryd.prog = true := by kernel_rfl

set_option maxRecDepth 100000 in
theorem lifted (os : Os) (started : os.Started) (H : Type) (enc : TypeId × Value → H) :
    ReturnsInHanded {} Tryd.checked os 6 .any (fun w args => (Rows.prefixBackSpec.pre enc Tryd.prog Tryd.f6 Rows.prefixBackRow.domain false w args ∧ laidMetH Tryd.prog Rows.prefixBackRow.laid w) ∧ sizedMet enc Tryd.prog Tryd.f6 (OpenSpec.ofChange Rows.prefixBackSpec) false w args) (Rows.prefixBackSpec.post enc Tryd.prog Tryd.f6 false true false false) := by
  refine returnsInHanded_of_change_and (C := Tryd.checked) (X := fun w _ => laidMetH Tryd.prog Rows.prefixBackRow.laid w) (fun _ _ _ hh h => h.of_heap hh) own started (by kernel_rfl) Tryd.func6
    (ChangeSpec.witness_shaped (enc := enc) (C := Tryd.checked) (os := os) (X := fun w _ => laidMetH Tryd.prog Rows.prefixBackRow.laid w) false (World.laidAll Tryd.prog os Rows.prefixBackRow.laid) #[.slice none 0 0, .slice none 0 0] 8 (World.laidAll_os _ _ _)
      (World.shaped_of_ZipB (by kernel_rfl) (by kernel_rfl)) (by kernel_rfl) (by kernel_rfl) (by kernel_rfl)
      (by rw [MakeChecks.laidMetH_plain _ _ _ (by kernel_rfl)]; exact laidMet_laidAll _ (by kernel_rfl) (by kernel_rfl))) ?_
  intro W base args ds gs before hval0 hW hcnd hsized hL _
  have hval : ∀ (j : Nat) t v, Tryd.f6.params[j]? = some t → args[j]? = some v → Value.okWide Tryd.prog W .any base t v := hval0
  have hW' := hW
  obtain ⟨p, q, hA0, hV, rfl, hfz, hnd⟩ := hW
  have hA : DataW.TrodAll enc Tryd.prog W 0 (fun _ => true) true Tryd.f6.params.toList args.toList ds p := hA0
  rw [Tryd.params6] at hA hval
  obtain ⟨v0, vs0, d0, ds0, p0, q0, hargs, rfl, rfl, h0, r0⟩ := trodAll_cons hA
  obtain ⟨v1, vs1, d1, ds1, p1, q1, rfl, rfl, rfl, h1, r1⟩ := trodAll_cons r0
  obtain ⟨rfl, rfl, rfl⟩ := trodAll_nil r1
  obtain rfl : args = #[v0, v1] := by cases args; simp_all
  obtain ⟨rfl, rfl⟩ := trodVars_none hV
  obtain ⟨a0, len0, cap0, rfl⟩ := okWide_slice Tryd.underlying22x (hval 0 22 v0 rfl rfl)
  have k0 := h0
  have lt0 : ∀ x ∈ p0, x.block < W.heap.size := by obtain ⟨m, hm⟩ := k0; exact DataW.trod_lt m _ _ _ hm
  obtain ⟨xs0, w0, z0, y0⟩ : ∃ xs : List ByteArray, RowV W.heap.size W a0 len0 cap0 (strV xs) ∧ (∀ s ∈ xs, s.size ≤ 9223372036854775807) ∧ (len0 = 0 ∨ ∃ elems spare, d0 = .slice elems spare ∧ elems.length = len0) := by
    obtain ⟨fuel, hf⟩ := h0
    exact strs_of_trod (by simpa [Value.cells] using hf)
  have big0 : xs0.length ≤ 8796093022208 := by
    have e : xs0.length = len0 := by have := w0.1; simpa using this
    rcases y0 with y | ⟨elems, spare, y1, y2⟩
    · omega
    · have this : (elems.length + spare.length) * Tryd.prog.bytesOf 9 ≤ reachBytes := sized_slice hsized (j := 0) (t := 22) (e := 9) (elems := elems) (spare := spare) rfl (by rw [y1]; rfl) Tryd.underlying22x
      rw [show Tryd.prog.bytesOf 9 = 16 by kernel_rfl, show reachBytes = 140737488351232 by kernel_rfl] at this
      omega
  obtain ⟨a1, len1, cap1, rfl⟩ := okWide_slice Tryd.underlying23y (hval 1 23 v1 rfl rfl)
  have k1 := h1
  have lt1 : ∀ x ∈ p1, x.block < W.heap.size := by obtain ⟨m, hm⟩ := k1; exact DataW.trod_lt m _ _ _ hm
  obtain ⟨xs1, w1, _⟩ : ∃ xs : List Int, RowV W.heap.size W a1 len1 cap1 (intV xs) ∧ I64s xs := by
    obtain ⟨fuel, hf⟩ := h1
    exact ints_of_trod (by simpa [Value.cells] using hf)
  clear hA0 hval0
  refine (prefixBack_walk treeI w0 w1 z0).mono fun e W' ⟨he, bel⟩ => ?_
  subst he
  exact ⟨_, rfl, _, _, _, [], _, [], hW', trodAll_mk1 (shut_bool Tryd.underlying4 _), (trodAll_cons_mk (Below.trod laidOut (by kernel_rfl) (of_decide_eq_true (by kernel_rfl)) k0 bel lt0) (trodAll_cons_mk (Below.trod laidOut (by kernel_rfl) (of_decide_eq_true (by kernel_rfl)) k1 bel lt1) trodAll_mk0)), rfl, bel.frame _, fun h => by cases h⟩

/-- THE STATEMENT -/
theorem proved : Rows.PrefixBackSaid :=
  OpenClaim.holds_of_wide 6 Tryd.f6 rfl rfl rfl rfl rfl rfl rfl ⟨rfl, rfl, rfl, rfl, rfl⟩ rfl rfl rfl rfl rfl (by kernel_rfl) Tryd.func6 (by kernel_rfl)
    (of_decide_eq_true (by kernel_rfl)) (by unfold Func.isWrapper; first | (rw [if_pos (by decide +kernel)]; kernel_rfl) | (rw [if_neg (by decide +kernel)]; exact ⟨rfl, rfl⟩))
    (fun os started H enc _ => lifted os started H enc)

/-- THE TIED CARD: the variables that the row lists are tied to the program's text -/
theorem card : Rows.PrefixBackCardSaid :=
  Claim7.holds_tied_plain_at .later [] [.data, .pinned] true (true, "7106249eee656f43feee67275b8797c346c9fd0564c9aaf49550091c153d9f2d") false proved (fun _ h => by cases h) (by kernel_rfl) (fun _ h => by cases h) prefixBack_row_tie rfl ⟨rfl, rfl⟩ (by kernel_rfl) rfl
    (fun f fn hf hfn => by
      obtain rfl : f = 6 := Option.some.inj ((show Tryd.prog.funcNamed "praxinoscope/praxinoscopelaw03.PrefixBack" = some 6 by kernel_rfl).symm.trans hf) |>.symm
      obtain rfl : fn = Tryd.f6 := (Option.some.inj (Tryd.func6.symm.trans hfn)).symm
      exact ⟨by kernel_rfl, fun j t ht => by
        have hm : t ∈ Tryd.f6.params.toList := by simpa using Array.mem_of_getElem? ht
        have hall : (Tryd.f6.params.toList.all fun u => !Tryd.prog.wantsStandIn u) = true := by kernel_rfl
        exact (show Tryd.prog.wantsStandIn t = false by simpa using List.all_eq_true.1 hall t hm)⟩)
    (by kernel_rfl)
#print axioms card
end Go.Proofs.YtdadmoefmaojlaaDoor.lawPBack
