/- Contracts of slices.Clone at bytes, of (*bits.Pen).Bytes, of the kit's SameBytes and OverBytes. -/
import Derived.Test.YtdadmoefmaojlaaDoorText
import Derived.Laws.BytesArg
import Derived.Lib.LazyBuf
namespace Go.Proofs.YtdadmoefmaojlaaDoor
open Go.RowKit Go.Shelf
set_option linter.unusedVariables false

theorem byt_own {w : World} {base n₀ : Nat} {v : Value} {zs : List UInt8} (h : w.ownsRow base 5 1 v zs.length (u8s zs)) (hl : zs.length ≤ 1152921504606846975) (hn : w.heap.size ≤ n₀) : Byt n₀ w v zs := by
  rcases id h.2 with ⟨rfl, hz⟩ | ⟨g, cap, cur, rfl, _, hg, _⟩
  · have : zs = [] := List.eq_nil_of_length_eq_zero hz
    subst this
    exact ⟨none, 0, rfl, hl, .inl rfl⟩
  · refine ⟨_, cap, rfl, hl, .inr ⟨g, 0, rfl, Nat.lt_of_lt_of_le (Array.getElem?_eq_some_iff.1 hg).1 hn, fun j hj => ?_⟩⟩
    have := h.cellAt j (by omega)
    simp only [Nat.zero_add]
    rw [this]
    simp [hj]

theorem conv_byt {n₀ : Nat} {w : World} {sv : Value} {zs : List UInt8} (hB : Byt n₀ w sv zs) : (convert 24 9 sv).run Tryd.prog w = .ok (.string ⟨zs.toArray⟩) w := by
  obtain ⟨a, cap, rfl, hl, hz⟩ := hB
  rcases hz with rfl | ⟨b, off, rfl, _, hc⟩
  · cases a with
    | none => exact run_convert_bytes_nil w 24 5 Tryd.underlying24 Tryd.underlying5 0 cap 9 Tryd.underlying9
    | some x =>
      rw [run_convert_bytes_string w 24 9 5 _ _ _ Tryd.underlying24 Tryd.underlying5 Tryd.underlying9]
      have := run_bytesToString (P := Tryd.prog) w x 0 cap [] (by simp [loadCells, loadCellsFrom])
      simp only [List.foldl_nil] at this
      exact this
  · have h := run_convert_bytes_arg (P := Tryd.prog) w 24 5 Tryd.underlying24 Tryd.underlying5 b off zs.length cap (zs.map fun z => (z.toNat : Int)) (by simp)
      (fun i hi => by rw [hc i hi]; simp [hi]) 9 Tryd.underlying9
    rw [h]
    simp [strOfNums, Function.comp_def]

theorem clone_nil (w : World) : Calls Tryd.prog 47 #[.slice none 0 0] w fun e w' => e = .returned (.slice none 0 0) ∧ w = w' := by
  have he := fun (w : World) => Lib.run_eql_slice_nil (P := Tryd.prog) w 24 5 none 0 0 0 0 Tryd.underlying24
  go_enter Tryd.func47, Tryd.ntmps47
  go_wp2
  go_ret
  exact ⟨rfl, rfl⟩

def Cloned (w w' : World) (e : Ending) (zs : List UInt8) : Prop := ∃ v, e = .returned v ∧ w'.ownsRow w.heap.size 5 1 v zs.length (u8s zs) ∧ Below w.heap.size w w'

set_option maxHeartbeats 1000000 in
theorem clone_some {w : World} {b : Nat} {cap : Nat} {zs : List UInt8} (hr : w.ownsRow b 5 1 (.slice (some ⟨b, 0, none⟩) zs.length cap) zs.length (u8s zs)) (hl : zs.length ≤ 2097152) :
    Calls Tryd.prog 47 #[.slice (some ⟨b, 0, none⟩) zs.length cap] w fun e w' => Cloned w w' e zs := by
  have he := fun (w : World) => Lib.run_eql_slice_nil (P := Tryd.prog) w 24 5 (some ⟨b, 0, none⟩) zs.length cap 0 0 Tryd.underlying24
  obtain ⟨i0, hi, hz0, hz1, hz2⟩ := info_parts Tryd.info5
  go_enter Tryd.func47, Tryd.ntmps47
  go_wp2_with (at_builtin; refine wpList_append_where _ rfl _ _ 24 rfl w.heap.size 5 i0 (.int .u8 0) 1 1 Tryd.underlying24 hi hz0 hz1 hz2 rfl (by decide) (.slice (some ⟨w.heap.size, 0, none⟩) 0 0) 0 [] rfl (World.ownsRow_made w #[] 0 (Nat.le_refl _) (by unfold maxLen; omega) rfl) ⟨b, 0, none⟩ zs.length cap (u8s zs) rfl (by simp) ?c1 ?c2 ?c3 ?c4 ?c5 ?_)
  case c1 =>
    intro j u hu
    exact (hr.alloc _).cells rfl j u hu
  case c2 => intro u hu; simp at hu; obtain ⟨z, _, rfl⟩ := hu; rfl
  case c3 => unfold maxLen; omega
  case c4 => omega
  case c5 => simp
  intro v' w1 hown' hgrow hwh
  have hb : Below w.heap.size w w1 := ((Below.refl _ w).alloc (Nat.le_refl _) _).grown hgrow (by simp) (fun k e => by simp [Value.ownBlock] at e; omega)
  clear hr hwh hgrow
  go_wp2
  go_ret
  exact ⟨v', rfl, hown', hb⟩

set_option maxHeartbeats 1000000 in
theorem bytes_any {w : World} {b : Nat} {g : Option Nat} {L : List Bool} (h : IsPen w b g L) :
    Calls Tryd.prog 28 #[.pointer (some ⟨b, 0, none⟩)] w fun e w' => ∃ zs, Packed zs L ∧ Cloned w w' e zs := by
  have HM := Lib.hid (made_any h)
  obtain ⟨v, zs, rfl, hb, hr, hp, hl⟩ := h
  obtain ⟨c0, c1, c2, f0, f1, f2⟩ := pen_cells hb
  have hz := hp.1
  clear hb
  rcases id hr.2 with ⟨rfl, hn⟩ | ⟨g, cap, cur, rfl, _⟩
  · have : zs = [] := List.eq_nil_of_length_eq_zero hn
    subst this
    have HP : Hid (Packed [] L) := hp
    clear hp hz hr hn
    go_enter Tryd.func28, Tryd.ntmps28
    go_wp2_with (first | (go_at_call 42; refine HM.out.mono ?_; rintro e w' ⟨rfl, rfl⟩) | (go_at_call 47; refine (clone_nil _).mono ?_; rintro e w' ⟨rfl, rfl⟩))
    go_ret
    exact ⟨[], HP.out, .slice none 0 0, rfl, World.ownsRow_nil _ _ _ _, Below.refl _ _⟩
  · have hr' : w.ownsRow g 5 1 (.slice (some ⟨g, 0, none⟩) zs.length cap) zs.length (u8s zs) := by
      refine ⟨hr.1, ?_⟩
      rcases hr.2 with ⟨e, _⟩ | ⟨g', cap', cur', e, _, h⟩
      · simp at e
      · simp at e; obtain ⟨rfl, rfl⟩ := e; exact .inr ⟨g, cap, cur', rfl, Nat.le_refl _, h⟩
    have HC := Lib.hid (clone_some hr' (by omega))
    have HP : Hid (Packed zs L) := hp
    clear hp hz hr hr'
    go_enter Tryd.func28, Tryd.ntmps28
    go_wp2_with (first | (go_at_call 42; refine HM.out.mono ?_; rintro e w' ⟨rfl, rfl⟩) | (go_at_call 47; refine HC.out.mono ?_; rintro e w' ⟨v, rfl, hv⟩))
    go_ret
    exact ⟨zs, HP.out, _, rfl, hv⟩

theorem Wrote.below {w w' : World} {b B : Nat} {g : Option Nat} {L : List Bool} (h : Wrote w w' b g L) (hB : B ≤ w.heap.size) (hb : B ≤ b) (hg : ∀ k, g = some k → B ≤ k) : Below B w w' := by
  obtain ⟨_, _, hbar, _⟩ := h
  exact hbar.below hB fun k hk e => by rcases e with rfl | e
                                       · omega
                                       · have := hg k e; omega
theorem IsPen.later {w w' : World} {b : Nat} {g : Option Nat} {L : List Bool} (h : IsPen w b g L) (hb : Below w.heap.size w w') : IsPen w' b g L :=
  h.bar (bar_of_below (S := fun _ => False) hb) (fun e => e) (fun _ _ e => e)

end Go.Proofs.YtdadmoefmaojlaaDoor
