/- Contracts of the reference's coeff (praxinoscoperef08): Coded, code, Pair, Short, Escape, Put, read, Get. -/
import Derived.Test.YtejcgkplcbapfaaDoorERef
import Derived.Test.YtejcgkplcbapfaaDoorPen
namespace Go.Proofs.YtejcgkplcbapfaaDoor
open Go.RowKit Go.Shelf
set_option linter.unusedVariables false

theorem Tryd.info26e : (Tryd.prog.info? 26).map (fun i => (i.zero, i.size, i.bytes)) = some (some (.agg #[.int .i64 0, .int .i64 0]), 2, 16) := by kernel_rfl
theorem Tryd.underlying45e : Tryd.prog.underlying 45 = some (.slice 26) := by kernel_rfl

/-- the cells of pairs -/
def cellsP (l : List (Nat × Nat)) : List Value := l.flatMap fun c => [.int .i64 (c.1 : Nat), .int .i64 (c.2 : Nat)]
theorem cellsP_append (a b : List (Nat × Nat)) : cellsP (a ++ b) = cellsP a ++ cellsP b := by simp [cellsP]
theorem cellsP_length (l : List (Nat × Nat)) : (cellsP l).length = l.length * 2 := by
  induction l with
  | nil => rfl
  | cons c l ih => simp [cellsP] at ih ⊢; omega
theorem cellsP_at (l : List (Nat × Nat)) {k : Nat} (h : k < l.length) : (cellsP l)[2 * k]? = some (.int .i64 ((l[k]?.getD (0, 0)).1 : Nat)) ∧ (cellsP l)[2 * k + 1]? = some (.int .i64 ((l[k]?.getD (0, 0)).2 : Nat)) := by
  induction l generalizing k with
  | nil => simp at h
  | cons c l ih =>
    have e : cellsP (c :: l) = .int .i64 (c.1 : Nat) :: .int .i64 (c.2 : Nat) :: cellsP l := by simp [cellsP]
    rw [e]
    match k with
    | 0 => simp
    | k + 1 =>
      have := ih (k := k) (by simpa using h)
      rw [show 2 * (k + 1) = 2 * k + 1 + 1 by omega]
      simpa using this
/-- the first pairs' cells, the first codes -/
def pairsTo (c : Nat) : List Value := cellsP (pairs8.take c)
def codesTo (c : Nat) : List Value := strV (codes8.take c)
theorem take_pairs {c : Nat} (h : c < 63) (p : Nat × Nat) (hp : pairAt c = p) : pairsTo c ++ [.int .i64 (p.1 : Nat), .int .i64 (p.2 : Nat)] = pairsTo (c + 1) := by
  unfold pairsTo
  have hl : c < pairs8.length := h
  have : pairs8.take (c + 1) = pairs8.take c ++ [p] := by
    rw [List.take_add_one, List.getElem?_eq_getElem hl]
    rw [← hp]
    unfold pairAt
    rw [List.getElem?_eq_getElem hl]
    rfl
  rw [this, cellsP_append]
  rfl
theorem take_codes {c : Nat} (h : c < 63) (s : ByteArray) (hs : s = codeAt c) : codesTo c ++ [.string s] = codesTo (c + 1) := by
  unfold codesTo
  have hl : c < codes8.length := h
  have : codes8.take (c + 1) = codes8.take c ++ [s] := by
    rw [List.take_add_one, List.getElem?_eq_getElem hl, hs]
    unfold codeAt
    rw [List.getElem?_eq_getElem hl]
    rfl
  rw [this]
  simp

/-! ### Coded -/
def itemOk (s : ByteArray) (run c lv fr i : Nat) : Bool := decide (c < 63 ∧ fr ≤ i ∧ lv ≤ 15 ∧ s.extract fr i = codeAt c ∧ pairAt c = (run, lv))
/-- a row's letters gone through -/
def scanR (s : ByteArray) (run N : Nat) : List UInt8 → Nat → Nat → Nat → Nat → Bool
  | [], i, c, lv, fr => itemOk s run c lv fr i && c + 1 == N
  | b :: l, i, c, lv, fr => if b = 32 then itemOk s run c lv fr i && scanR s run N l (i + 1) (c + 1) (lv + 1) (i + 1) else scanR s run N l (i + 1) c lv fr
/-- how many codes stand ahead of a row -/
def ends8 (r : Nat) : Nat := [0, 15, 22, 27, 31, 34, 37, 39, 41, 43, 45, 47, 48, 49, 50, 51, 52, 53, 54, 55, 56, 57, 58, 59, 60, 61, 62, 63][r]?.getD 63
theorem scan8 : ∀ r : Fin 27, scanR (rowAt8 r) r (ends8 (r + 1)) (rowAt8 r).data.toList 0 (ends8 r) 1 0 = true := by decide +kernel
theorem rows8_small : ∀ r : Fin 27, (rowAt8 r).size ≤ 1000 := by decide +kernel

theorem ownsRow_grown2 {w w' : World} {base n sz : Nat} {e : TypeId} {v : Value} {xs : List Value} {row : Option Nat} (h : w.ownsRow base e sz v n xs) (hg : w.grownBy w' row) (hne : ∀ j, v.ownBlock = some j → row ≠ some j) : w'.ownsRow base e sz v n xs := by
  refine h.kept hg ?_
  cases hv : v.ownBlock with
  | none => exact .inl rfl
  | some j => exact .inr (fun e => hne j hv e.symm)

theorem ownsRow_base2 {w : World} {base base' n sz : Nat} {e : TypeId} {v : Value} {xs : List Value} (h : w.ownsRow base e sz v n xs) (hb : base' ≤ base) : w.ownsRow base' e sz v n xs := by
  refine ⟨h.1, ?_⟩
  rcases h.2 with hn | ⟨g, cap, cur, rfl, hbb, rest⟩
  · exact .inl hn
  · exact .inr ⟨g, cap, cur, rfl, by omega, rest⟩
set_option maxRecDepth 100000 in
set_option maxHeartbeats 4000000 in
theorem r8coded_any (w : World) :
    Calls Tryd.prog 33 #[] w fun e w' => ∃ vp vc, e = .returned (.tuple #[vp, vc]) ∧ w'.ownsRow w.heap.size 26 2 vp 63 (cellsP pairs8) ∧ w'.ownsRow w.heap.size 9 1 vc 63 (strV codes8) ∧ Below w.heap.size w w' := by
  obtain ⟨i1, hi1, hz10, hz11, hz12⟩ := info_parts Tryd.info9
  obtain ⟨i2, hi2, hz20, hz21, hz22⟩ := info_parts Tryd.info26e
  have HR := Lib.hid (r8rows_any w)
  have h1 : Below w.heap.size w (w.alloc (.cells (strV rows8).toArray 9 (0, 0))) := (Below.refl _ w).alloc (Nat.le_refl _) _
  have hsz : (w.alloc (.cells (strV rows8).toArray 9 (0, 0))).heap.size = w.heap.size + 1 := by simp
  have HC : Hid (∀ (k : Nat), k < 27 → (w.alloc (.cells (strV rows8).toArray 9 (0, 0))).cell? ⟨w.heap.size, k, none⟩ = some (.string (rowAt8 k))) := by
    intro k hk
    have hk3 : k < rows8.length := hk
    have h := src_row w (strV rows8) 9 k (.string (rowAt8 k)) (by simp [rowAt8, hk3])
    have hadd : (⟨w.heap.size, 0, none⟩ : Addr).add k = ⟨w.heap.size, 0 + k, none⟩ := by unfold Addr.add; split <;> simp_all
    rwa [hadd, Nat.zero_add] at h
  generalize hw1 : w.alloc (.cells (strV rows8).toArray 9 (0, 0)) = w1 at *
  have HW1 := Lib.hid hw1
  have H1 := Lib.hid h1
  have hb1 : w1.heap.size = w.heap.size + 1 := hsz
  clear hw1 h1 hsz
  go_enter Tryd.func33, Tryd.ntmps33
  go_wp2_with (go_at_call 50; refine HR.out.mono ?_; rintro e w' ⟨rfl, hw'⟩; have hw2 := hw'.symm; subst hw2; refine Hid.out ?_)
  refine Lib.hid ?_
  go_wp2_with fail
  go_loopw [2, 3, 5, 6, 7, 8] (fun vp vc r _ _ _ wr => ∃ k : Nat, k ≤ 27 ∧ r = .int .i64 k ∧ wr.ownsRow (w.heap.size + 1) 26 2 vp (ends8 k) (pairsTo (ends8 k)) ∧ wr.ownsRow (w.heap.size + 1) 9 1 vc (ends8 k) (codesTo (ends8 k)) ∧ (∀ j, vp.ownBlock = some j → vc.ownBlock ≠ some j) ∧ Below w1.heap.size w1 wr)
    (fun _ _ r _ _ _ _ => 27 - (intOf r).toNat)
  case atStart => exact ⟨0, Nat.zero_le _, rfl, World.ownsRow_nil _ _ _ _, World.ownsRow_nil _ _ _ _, (fun j h => by cases h), Below.refl _ _⟩
  case round =>
    obtain ⟨r, hr, rfl, hop, hoc, hne, hB⟩ := hrel
    have HP := Lib.hid hop
    have HCo := Lib.hid hoc
    have HNe := Lib.hid hne
    have HB := Lib.hid hB
    clear hop hoc hne hB
    by_cases hr2 : r < 27
    · have HS0 := Lib.hid (scan8 ⟨r, hr2⟩)
      have hss := rows8_small ⟨r, hr2⟩
      have HCr := Lib.hid (HC.out r hr2)
      simp only at HS0 hss
      generalize rowAt8 r = s at *
      generalize hN : ends8 (r + 1) = N at *
      generalize hM : ends8 r = M at *
      have HN := Lib.hid hN
      clear hN hM
      go_wp2_with fail
      go_loopw [2, 3, 6, 7, 8] (fun vp vc lv fr i wr => ∃ (k c l f : Nat), lv = .int .i64 l ∧ fr = .int .i64 f ∧ i = .int .i64 k ∧ ((k ≤ s.size ∧ scanR s r N (s.data.toList.drop k) k c l f = true) ∨ (k = s.size + 1 ∧ c = N)) ∧ wr.ownsRow (w.heap.size + 1) 26 2 vp c (pairsTo c) ∧ wr.ownsRow (w.heap.size + 1) 9 1 vc c (codesTo c) ∧ (∀ j, vp.ownBlock = some j → vc.ownBlock ≠ some j) ∧ Below w1.heap.size w1 wr)
        (fun _ _ _ _ i _ => s.size + 1 - (intOf i).toNat)
      case atStart => exact ⟨0, M, 1, 0, rfl, rfl, rfl, .inl ⟨Nat.zero_le _, HS0.out⟩, HP.out, HCo.out, HNe.out, HB.out⟩
      case round =>
        obtain ⟨k, c, l, f, rfl, rfl, rfl, hk, hop, hoc, hne, hB⟩ := hrel
        have HP2 := Lib.hid hop
        have HCo2 := Lib.hid hoc
        have HNe2 := Lib.hid hne
        have HB2 := Lib.hid hB
        have hcell := (hB.cell (p := ⟨w.heap.size, r, none⟩) (by simp; omega)).trans HCr.out
        have hbs := hB.size
        clear hop hoc hne hB
        rcases hk with ⟨hk, hsc⟩ | ⟨rfl, rfl⟩
        · by_cases hlt : k < s.size
          · rw [show s.data.toList.drop k = s[k] :: s.data.toList.drop (k + 1) from List.drop_eq_getElem_cons (by simpa using hlt)] at hsc
            unfold scanR at hsc
            by_cases hsp : s[k] = 32
            · rw [if_pos hsp, Bool.and_eq_true] at hsc
              obtain ⟨hok, hsc⟩ := hsc
              have HSc := Lib.hid hsc
              have e1 : ((s[k].toNat : Int) == 32) = true := by rw [hsp]; rfl
              have e2 : ((k : Int) == (s.size : Int)) = false := by rw [beq_eq_false_iff_ne]; omega
              clear hsp hsc
              unfold itemOk at hok
              rw [decide_eq_true_eq] at hok
              obtain ⟨hc63, hfk, hl15, hx, hp⟩ := hok
              have HX := Lib.hid hx
              have HTp := Lib.hid (take_pairs hc63 _ hp)
              have HTc := Lib.hid (take_codes hc63 _ hx)
              have hop0 := fun j e => (HP2.out.lt j e).1
              clear hx hp
              go_wp2_with (first
                | (at_builtin; go_loud (refine wpList_append_where _ rfl _ _ 45 rfl (w.heap.size + 1) 26 i2 (.agg #[.int .i64 0, .int .i64 0]) 2 16 Tryd.underlying45e hi2 hz20 hz21 hz22 rfl (by decide) _ c _ rfl (HP2.out.alloc _) ⟨wr.heap.size, 0, none⟩ 1 1 [.int .i64 (r : Nat), .int .i64 (l : Nat)] rfl rfl (src_two _ _ _ _) two_one (by unfold maxLen; omega) (by omega) (by simp; omega) ?_); intro v2 w2 hown2 hgrow2 hloc2; have HO2 := Lib.hid hown2; have HG2 := Lib.hid hgrow2; have HL2 := Lib.hid hloc2; have HC2 := Lib.hid (ownsRow_grown2 (HCo2.out.alloc _) hgrow2 (fun j h1 h2 => HNe2.out j h2 h1)); have hb2 : Below w1.heap.size w1 w2 := (HB2.out.alloc hbs _).grown hgrow2 (by simp; omega) (fun j e => by have := hop0 j e; omega); have HB3 := Lib.hid hb2; have hbs3 := hb2.size; have hcell2 := (hb2.cell (p := ⟨w.heap.size, r, none⟩) (by simp; omega)).trans HCr.out; clear hown2 hgrow2 hloc2 hb2)
                | (at_builtin; go_loud (refine wpList_append_v rfl _ _ 56 9 i1 (.string ⟨#[]⟩) 16 rfl Tryd.underlying56x hi1 hz10 hz11 hz12 rfl (w.heap.size + 1) _ c _ rfl (HC2.out.alloc _) (some ⟨w2.heap.size, 0, none⟩) 1 1 [.string (s.extract f k)] rfl (src_one _ _ _) (fun e => nomatch e) (by simp [Value.oneCell']) (by omega) (by omega) (by simp; omega) ?_); intro v3 w3 hap; have HA := Lib.hid hap; clear hap))
              obtain ⟨a1, a2, a3⟩ := HA.out
              have hne2 : ∀ j, v2.ownBlock = some j → u3.ownBlock ≠ some j := fun j e e2 => by
                rcases HL2.out j e with h | h
                · exact HNe2.out j h e2
                · have := (HCo2.out.lt j e2).2
                  simp at h
                  omega
              refine ⟨⟨v2, v3, .int .i64 ((l : Int) + 1), .int .i64 ((k : Int) + 1), .int .i64 ((k : Int) + 1), ⟨k + 1, c + 1, l + 1, by go_num, k + 1, by go_num, by go_num, .inl ⟨by omega, HSc.out⟩, ?_, ?_, ?_, ?_⟩, rfl, rfl, rfl, rfl, rfl⟩, ?_⟩
              · rw [← HTp.out]
                exact ownsRow_grown2 (HO2.out.alloc _) a2 (fun j h1 h2 => hne2 j h1 h2)
              · rw [← HTc.out]
                exact a1
              · intro j e e2
                rcases a3 j e2 with h | h
                · exact hne2 j e h
                · have := (HO2.out.lt j e).2
                  simp at h
                  omega
              · have h := (HB3.out.alloc hbs3 _).grown a2 (by simp; omega) (fun j e => by have := (HCo2.out.lt j e).1; omega)
                rwa [hb1] at h
              · first | (simp [intOf]; done) | (simp [intOf]; omega)
            · rw [if_neg hsp] at hsc
              have HSc := Lib.hid hsc
              have e1 : ((s[k].toNat : Int) == 32) = false := by
                rw [beq_eq_false_iff_ne]
                intro e
                apply hsp
                apply UInt8.toNat_inj.1
                rw [show (32 : UInt8).toNat = 32 from rfl]
                omega
              have e2 : ((k : Int) == (s.size : Int)) = false := by rw [beq_eq_false_iff_ne]; omega
              clear hsp hsc
              go_wp2
              go_roundw
              case rel =>
                exact ⟨k + 1, c, l, f, rfl, rfl, by go_num, .inl ⟨by omega, HSc.out⟩, HP2.out, HCo2.out, HNe2.out, HB2.out⟩
              case measure => simp [intOf]; omega
          · obtain rfl : k = s.size := by omega
            rw [show s.data.toList.drop s.size = [] from List.drop_eq_nil_of_le (by simp)] at hsc
            unfold scanR at hsc
            rw [Bool.and_eq_true, beq_iff_eq] at hsc
            obtain ⟨hok, hcN⟩ := hsc
            unfold itemOk at hok
            rw [decide_eq_true_eq] at hok
            obtain ⟨hc63, hfk, hl15, hx, hp⟩ := hok
            have HX := Lib.hid hx
            have HTp := Lib.hid (take_pairs hc63 _ hp)
            have HTc := Lib.hid (take_codes hc63 _ hx)
            have hop0 := fun j e => (HP2.out.lt j e).1
            clear hx hp
            go_wp2_with (first
              | (at_builtin; go_loud (refine wpList_append_where _ rfl _ _ 45 rfl (w.heap.size + 1) 26 i2 (.agg #[.int .i64 0, .int .i64 0]) 2 16 Tryd.underlying45e hi2 hz20 hz21 hz22 rfl (by decide) _ c _ rfl (HP2.out.alloc _) ⟨wr.heap.size, 0, none⟩ 1 1 [.int .i64 (r : Nat), .int .i64 (l : Nat)] rfl rfl (src_two _ _ _ _) two_one (by unfold maxLen; omega) (by omega) (by simp; omega) ?_); intro v2 w2 hown2 hgrow2 hloc2; have HO2 := Lib.hid hown2; have HG2 := Lib.hid hgrow2; have HL2 := Lib.hid hloc2; have HC2 := Lib.hid (ownsRow_grown2 (HCo2.out.alloc _) hgrow2 (fun j h1 h2 => HNe2.out j h2 h1)); have hb2 : Below w1.heap.size w1 w2 := (HB2.out.alloc hbs _).grown hgrow2 (by simp; omega) (fun j e => by have := hop0 j e; omega); have HB3 := Lib.hid hb2; have hbs3 := hb2.size; have hcell2 := (hb2.cell (p := ⟨w.heap.size, r, none⟩) (by simp; omega)).trans HCr.out; clear hown2 hgrow2 hloc2 hb2)
              | (at_builtin; go_loud (refine wpList_append_v rfl _ _ 56 9 i1 (.string ⟨#[]⟩) 16 rfl Tryd.underlying56x hi1 hz10 hz11 hz12 rfl (w.heap.size + 1) _ c _ rfl (HC2.out.alloc _) (some ⟨w2.heap.size, 0, none⟩) 1 1 [.string (s.extract f s.size)] rfl (src_one _ _ _) (fun e => nomatch e) (by simp [Value.oneCell']) (by omega) (by omega) (by simp; omega) ?_); intro v3 w3 hap; have HA := Lib.hid hap; clear hap))
            obtain ⟨a1, a2, a3⟩ := HA.out
            have hne2 : ∀ j, v2.ownBlock = some j → u3.ownBlock ≠ some j := fun j e e2 => by
              rcases HL2.out j e with h | h
              · exact HNe2.out j h e2
              · have := (HCo2.out.lt j e2).2
                simp at h
                omega
            refine ⟨⟨v2, v3, .int .i64 ((l : Int) + 1), .int .i64 ((s.size : Int) + 1), .int .i64 ((s.size : Int) + 1), ⟨s.size + 1, c + 1, l + 1, by go_num, s.size + 1, by go_num, by go_num, .inr ⟨rfl, hcN⟩, ?_, ?_, ?_, ?_⟩, rfl, rfl, rfl, rfl, rfl⟩, ?_⟩
            · rw [← HTp.out]
              exact ownsRow_grown2 (HO2.out.alloc _) a2 (fun j h1 h2 => hne2 j h1 h2)
            · rw [← HTc.out]
              exact a1
            · intro j e e2
              rcases a3 j e2 with h | h
              · exact hne2 j e h
              · have := (HO2.out.lt j e).2
                simp at h
                omega
            · have h := (HB3.out.alloc hbs3 _).grown a2 (by simp; omega) (fun j e => by have := (HCo2.out.lt j e).1; omega)
              rwa [hb1] at h
            · first | (simp [intOf]; done) | (simp [intOf]; omega)
        · go_wp2
          go_roundw
          case rel => exact ⟨r + 1, by omega, by go_num, by rw [HN.out]; exact HP2.out, by rw [HN.out]; exact HCo2.out, HNe2.out, HB2.out⟩
          case measure => simp [intOf]; omega
    · obtain rfl : r = 27 := by omega
      go_wp2
      go_ret2
      exact ⟨_, _, rfl, ownsRow_base2 HP.out (by omega), ownsRow_base2 HCo.out (by omega), H1.out.trans (HB.out.mono (by omega))⟩

end Go.Proofs.YtejcgkplcbapfaaDoor
