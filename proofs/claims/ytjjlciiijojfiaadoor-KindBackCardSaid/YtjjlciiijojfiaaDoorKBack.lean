/- The walk of KindBack. -/
import Derived.Test.YtjjlciiijojfiaaDoorKRef
import Derived.Test.YtjjlciiijojfiaaDoorLit
namespace Go.Proofs.YtjjlciiijojfiaaDoor
open Go.RowKit Go.Shelf
set_option linter.unusedVariables false

theorem codes5_bits : ∀ c ∈ codes5, allB c = true ∧ 1 ≤ c.size ∧ c.size ≤ 10 := by decide +kernel
theorem codes5_at {k : Nat} (hk : k < 10) : AllBits (codes5[k]?.getD ⟨#[]⟩) ∧ 1 ≤ (codes5[k]?.getD (⟨#[]⟩ : ByteArray)).size ∧ (codes5[k]?.getD (⟨#[]⟩ : ByteArray)).size ≤ 10 := by
  have h : k < codes5.length := hk
  have := codes5_bits codes5[k] (List.getElem_mem _)
  simp only [List.getElem?_eq_getElem h, Option.getD_some]
  exact ⟨(allB_iff _).1 this.1, this.2⟩
theorem codes5_24 (n : Nat) : (codes5[n]?.getD (⟨#[]⟩ : ByteArray)).size ≤ 24 := by
  by_cases h : n < 10
  · have := (codes5_at h).2.2; omega
  · rw [List.getElem?_eq_none (by rw [codes5_length]; omega)]; decide
theorem nums5_at : ∀ k : Fin 10, nums5[k.val]?.getD 0 = 1 + (k.val : Int) ∧ putS codes5 nums5 (1 + (k.val : Int)) = codes5[k.val]?.getD ⟨#[]⟩ ∧ putE3 nums5 (1 + (k.val : Int)) = 0 := by
  intro k
  match k with
  | ⟨0, _⟩ => exact ⟨rfl, rfl, rfl⟩
  | ⟨1, _⟩ => exact ⟨rfl, rfl, rfl⟩
  | ⟨2, _⟩ => exact ⟨rfl, rfl, rfl⟩
  | ⟨3, _⟩ => exact ⟨rfl, rfl, rfl⟩
  | ⟨4, _⟩ => exact ⟨rfl, rfl, rfl⟩
  | ⟨5, _⟩ => exact ⟨rfl, rfl, rfl⟩
  | ⟨6, _⟩ => exact ⟨rfl, rfl, rfl⟩
  | ⟨7, _⟩ => exact ⟨rfl, rfl, rfl⟩
  | ⟨8, _⟩ => exact ⟨rfl, rfl, rfl⟩
  | ⟨9, _⟩ => exact ⟨rfl, rfl, rfl⟩
theorem intV_get4 {xs : List Int} {j : Nat} (h : j < xs.length) : (intV xs)[j]? = some (.int .i64 (xs[j]?.getD 0)) := by simp [h]
/-- bits by turns -/
def turnsL (n : Nat) : List Bool := (List.range n).map fun i => decide (i % 2 = 1)
theorem turnsL_succ (n : Nat) : turnsL (n + 1) = turnsL n ++ [decide (n % 2 = 1)] := by simp [turnsL, List.range_succ]
theorem turnsL_len (n : Nat) : (turnsL n).length = n := by simp [turnsL]
theorem numBits_one (y : Nat) (h : y < 2) : numBits y 1 = [decide (y = 1)] := by
  rcases (by omega : y = 0 ∨ y = 1) with rfl | rfl <;> rfl

set_option maxRecDepth 100000 in
set_option maxHeartbeats 8000000 in
theorem kindBack_walk (I : KindI) {w : World} {a : Option Addr} {len cap : Nat} {ns : List Int} (x : Int) (hN : RowV w.heap.size w a len cap (intV ns)) :
    Calls Tryd.prog 6 #[.slice a len cap, .int .i64 x] w fun e w' => e = .returned (.bool true) ∧ Below w.heap.size w w' := by
  have e2 : ns.length = len := by have := hN.1; simpa using this
  subst e2
  have HN := Lib.hid hN
  have hn1 := hN.2.1
  have hn2 := hN.2.2.1
  have ha := Int.emod_nonneg x (b := 41) (by omega)
  have ha2 := Int.emod_lt_of_pos x (b := 41) (by omega)
  obtain ⟨A, hA⟩ := Int.eq_ofNat_of_zero_le ha
  have hA40 : A ≤ 40 := by omega
  have HPk := Lib.hid (pick_any x 41)
  rw [hA] at HPk
  clear hN ha ha2 hA
  go_enter Tryd.func6, Tryd.ntmps6
  go_wp2_with fail
  refine (known5_any I w).mono ?_
  rintro e w1 ⟨rfl, b1⟩
  have HB1 := Lib.hid b1
  go_wp2_with fail
  refine (newPen_any w1).mono ?_
  rintro e w2 ⟨rfl, hpen, b2⟩
  have HPen := Lib.hid hpen
  have HB2 := Lib.hid b2
  have B2 := Lib.hid (below_chain b1 (Nat.le_refl _) b2)
  clear hpen b1 b2
  by_cases hlong : 60 < ns.length
  · go_wp2
    go_ret
    exact ⟨rfl, B2.out⟩
  have hn60 : ns.length ≤ 60 := by omega
  clear hlong
  go_wp2_with fail
  refine (HPk.out _ (by decide) (by decide)).mono ?_
  rintro e w' ⟨rfl, rfl⟩
  go_wp2_with fail
  go_loopw [7] (fun i wr => ∃ (k : Nat) (g : Option Nat), i = .int .i64 k ∧ k ≤ A ∧ IsPen wr w1.heap.size g (turnsL k) ∧ (∀ j, g = some j → w1.heap.size ≤ j) ∧ Below w1.heap.size w1 wr) (fun i _ => A - (intOf i).toNat)
  case atStart => exact ⟨0, none, rfl, by omega, HPen.out, by simp, HB2.out⟩
  case round =>
    obtain ⟨k, g, rfl, hk, hpen, hg, hB⟩ := hrel
    have HPn := Lib.hid hpen
    have HGg := Lib.hid hg
    have HB := Lib.hid hB
    clear hpen hg hB
    by_cases hk2 : k < A
    · have hy2 : k % 2 < 2 := by omega
      have HPt : Hid (∀ y : Int, y = ((k % 2 : Nat) : Int) → Calls Tryd.prog 22 #[.pointer (some ⟨w1.heap.size, 0, none⟩), .int .i64 y, .int .i64 1] wr fun e w' => e = .returned (.int .i64 0) ∧ Wrote wr w' w1.heap.size g (turnsL (k + 1))) := fun y hy => by
        subst hy
        have h := put_ok HPn.out (k % 2) 1 (by omega) (by omega) (by omega) (by rw [turnsL_len]; omega)
        rw [numBits_one _ hy2, ← turnsL_succ] at h
        exact h
      go_wp2_with (go_at_call 22; refine (HPt.out _ (by omega)).mono ?_; rintro e w6 ⟨rfl, hw6⟩)
      have hs := HB.out.size
      have B6 := HB.out.trans (hw6.below hs (Nat.le_refl _) HGg.out)
      obtain ⟨g', hp', _, hk'⟩ := hw6
      go_roundw
      case rel => exact ⟨k + 1, g', by go_num, by omega, hp', fun j e => by
        rcases hk' j e with h | h
        · exact HGg.out j h
        · omega, B6⟩
      case measure => simp [intOf]; omega
    · have hkn : k = A := by omega
      subst k
      go_wp2_with fail
      go_loopw [8, 9, 10] (fun i _ _ wr => ∃ (k : Nat) (g : Option Nat), i = .int .i64 k ∧ k ≤ ns.length ∧ IsPen wr w1.heap.size g (turnsL A ++ wtexts codes5 (wpicks ns 10 k)) ∧ (∀ j, g = some j → w1.heap.size ≤ j) ∧ Below w1.heap.size w1 wr) (fun i _ _ _ => ns.length - (intOf i).toNat)
      case atStart => exact ⟨0, g, rfl, by omega, by simpa [wtexts, wpicks] using HPn.out, HGg.out, HB.out⟩
      case round =>
        obtain ⟨k, g, rfl, hk, hpen, hg, hB⟩ := hrel
        have HPn := Lib.hid hpen
        have HGg := Lib.hid hg
        have HB := Lib.hid hB
        clear hpen hg hB
        by_cases hk2 : k < ns.length
        · obtain ⟨bn, on, rfl, hbn, hcn⟩ := HN.out.cells (by omega)
          have BW := below_chain HB1.out (Nat.le_refl _) HB.out
          have x1 := (BW.cell (p := ⟨bn, on + k, none⟩) hbn).trans (hcn k _ (intV_get4 hk2))
          clear hcn
          have HPi := Lib.hid (pick_any (ns[k]?.getD 0) 10 wr (by omega) (by omega))
          rw [show (ns[k]?.getD 0) % 10 = (wpickN ns 10 k : Int) from wpickN_eq ns k (m := 10) (by omega)] at HPi
          have hpl := wpickN_lt ns k (m := 10) (by omega)
          have HSc := Lib.hid (wpicks_succ ns 10 k)
          obtain ⟨p, hpp⟩ : ∃ p, p = wpickN ns 10 k := ⟨_, rfl⟩
          rw [← hpp] at HPi hpl HSc
          generalize ns[k]?.getD 0 = xk at *
          clear hpp
          obtain ⟨-, q1, q2⟩ := nums5_at ⟨p, hpl⟩
          simp only at q1 q2
          have HPu := Lib.hid (I.put (1 + (p : Int)) wr (by omega) (by omega))
          rw [q1, q2] at HPu
          obtain ⟨r1, r2, r3⟩ := codes5_at hpl
          have hLl := wtexts_len codes5 (wpicks ns 10 k) codes5_24
          rw [wpicks_len] at hLl
          have hTl := turnsL_len A
          have HTx := Lib.hid (wtexts_one codes5 p)
          obtain ⟨c, hc⟩ : ∃ c, c = codes5[p]?.getD ⟨#[]⟩ := ⟨_, rfl⟩
          rw [← hc] at HPu r1 r2 r3 HTx
          obtain ⟨L, hL⟩ : ∃ L, L = turnsL A ++ wtexts codes5 (wpicks ns 10 k) := ⟨_, rfl⟩
          have hLl2 : L.length ≤ 2000 := by rw [hL, List.length_append]; omega
          have hcE : codeE L c = 0 := by
            unfold codeE
            rw [if_pos ((allB_iff c).2 r1), if_neg (by omega)]
          have hcL : codeL L c = L ++ textBits c := by unfold codeL; rw [if_pos hcE]
          rw [← hL] at HPn
          have HL := Lib.hid hL
          have HCe := Lib.hid hcE
          have HCl := Lib.hid hcL
          clear hcE hcL hc q1 q2 hLl hTl hL
          go_wp2_with fail
          refine HPi.out.mono ?_
          rintro e w5 ⟨rfl, rfl⟩
          go_wp2_with fail
          refine HPu.out.mono ?_
          rintro e w5 ⟨rfl, b5⟩
          have B5 := below_chain HB.out (Nat.le_refl _) b5
          have HPc := Lib.hid (penCode_any (HPn.out.later b5) c (by omega))
          rw [HCe.out, HCl.out] at HPc
          go_wp2_with fail
          refine HPc.out.mono ?_
          rintro e w6 ⟨rfl, hw6⟩
          have B6 := B5.trans (hw6.below B5.size (Nat.le_refl _) HGg.out)
          obtain ⟨g', hp', _, hk'⟩ := hw6
          have HP' := Lib.hid hp'
          have HK' := Lib.hid hk'
          have hs5 := B5.size
          clear hp' hk'
          go_wp2
          go_roundw
          case rel => exact ⟨k + 1, g', by go_num, by omega, by rw [HSc.out, wtexts_append, HTx.out, ← List.append_assoc, ← HL.out]; exact HP'.out, fun j e => by
            rcases HK'.out j e with h | h
            · exact HGg.out j h
            · omega, B6⟩
          case measure => simp [intOf]; omega
        · have hkn : k = ns.length := by omega
          subst k
          obtain ⟨L, hL⟩ : ∃ L, L = turnsL A ++ wtexts codes5 (wpicks ns 10 ns.length) := ⟨_, rfl⟩
          have HPnL := Lib.hid (hL ▸ HPn.out)
          go_wp2_with fail
          refine (bytes_any HPnL.out).mono ?_
          rintro e w5 ⟨zs, hpk, va, rfl, hra, b5⟩
          have B5 := below_chain HB.out (Nat.le_refl _) b5
          have BW5 := below_chain HB1.out (Nat.le_refl _) B5
          have hLl := wtexts_len codes5 (wpicks ns 10 ns.length) codes5_24
          rw [wpicks_len] at hLl
          have hTl := turnsL_len A
          have hLl2 : L.length ≤ 2000 := by rw [hL, List.length_append]; omega
          have hzl : zs.length ≤ 300 := by have := hpk.1; omega
          have hby := byt_own hra (by omega) (n₀ := w5.heap.size) (Nat.le_refl _)
          obtain ⟨av, cv, rfl⟩ := row_form hra
          have HPk2 := Lib.hid hpk
          have HBy := Lib.hid hby
          have HLL := Lib.hid hL
          have HPnL5 := Lib.hid (HPnL.out.later b5)
          clear hpk hra hby hL HPn HPnL hLl
          go_wp2_with fail
          go_loopw [12, 13, 14, 15, 16, 17, 18, 19] (fun at_ i _ _ _ _ _ _ wr => ∃ k : Nat, i = .int .i64 k ∧ k ≤ ns.length ∧ at_ = .int .i64 (turnsL A ++ wtexts codes5 (wpicks ns 10 k)).length ∧ Below w5.heap.size w5 wr) (fun _ i _ _ _ _ _ _ _ => ns.length - (intOf i).toNat)
          case atStart => exact ⟨0, rfl, by omega, by simp [wtexts, wpicks, turnsL_len], Below.refl _ _⟩
          case round =>
            obtain ⟨k, rfl, hk', rfl, hB'⟩ := hrel
            have HB' := Lib.hid hB'
            clear hB'
            by_cases hk3 : k < ns.length
            · obtain ⟨bn, on, rfl, hbn, hcn⟩ := HN.out.cells (by omega)
              have BW := below_chain BW5 (Nat.le_refl _) HB'.out
              have x1 := (BW.cell (p := ⟨bn, on + k, none⟩) hbn).trans (hcn k _ (intV_get4 hk3))
              clear hcn
              have HPi := Lib.hid (pick_any (ns[k]?.getD 0) 10 wr (by omega) (by omega))
              rw [show (ns[k]?.getD 0) % 10 = (wpickN ns 10 k : Int) from wpickN_eq ns k (m := 10) (by omega)] at HPi
              have hpl := wpickN_lt ns k (m := 10) (by omega)
              have HSc := Lib.hid (wpicks_succ ns 10 k)
              obtain ⟨rest, hrest⟩ := wpicks_split ns 10 k ns.length hk3
              obtain ⟨p, hpp⟩ : ∃ p, p = wpickN ns 10 k := ⟨_, rfl⟩
              rw [← hpp] at HPi hpl HSc hrest
              generalize ns[k]?.getD 0 = xk at *
              clear hpp
              have hPkd : Packed zs ((turnsL A ++ wtexts codes5 (wpicks ns 10 k)) ++ (textBits (codes5[p]?.getD ⟨#[]⟩) ++ wtexts codes5 rest)) := by
                have h := HPk2.out
                rw [HLL.out, hrest, wtexts_append, wtexts_append, wtexts_one, ← List.append_assoc] at h
                exact h
              obtain ⟨q0, q1, q2⟩ := nums5_at ⟨p, hpl⟩
              simp only at q0 q1 q2
              obtain ⟨r1, r2, r3⟩ := codes5_at hpl
              have hgw := got_written (nums := nums5) clash5 (k := p) hpl hPkd r1 (codes5_24 p)
              rw [q0] at hgw
              have B2r := below_chain B5 (Nat.le_refl _) HB'.out
              have HPu := Lib.hid (I.put (1 + (p : Int)) wr (by omega) (by omega))
              rw [q1, q2] at HPu
              have HTx := Lib.hid (wtexts_one codes5 p)
              have hLl := wtexts_len codes5 (wpicks ns 10 k) codes5_24
              rw [wpicks_len] at hLl
              have hSl : (turnsL A ++ wtexts codes5 (wpicks ns 10 (k + 1))).length = (turnsL A ++ wtexts codes5 (wpicks ns 10 k)).length + (codes5[p]?.getD (⟨#[]⟩ : ByteArray)).size := by
                rw [HSc.out, wtexts_append, HTx.out, ← List.append_assoc, List.length_append, textBits_len]
              have HSl := Lib.hid hSl
              have hAl : (turnsL A ++ wtexts codes5 (wpicks ns 10 k)).length ≤ 2000 := by rw [List.length_append]; omega
              obtain ⟨c, hc⟩ : ∃ c, c = codes5[p]?.getD ⟨#[]⟩ := ⟨_, rfl⟩
              obtain ⟨AA, hAA⟩ : ∃ AA, AA = (turnsL A ++ wtexts codes5 (wpicks ns 10 k)).length := ⟨_, rfl⟩
              rw [← hc] at hgw HPu HSl r2 r3
              rw [← hAA] at hgw HSl hAl ⊢
              have hG := fun (w' : World) (hb : Below wr.heap.size wr w') => I.get ((HBy.out.below HB'.out).below (hb.mono HB'.out.size)) (by have := hb.size; have := HB'.out.size; omega) (by omega) (AA : Int) (by omega)
              rw [hgw] at hG
              have HGt := Lib.hid hG
              clear hc hAA hgw hSl hPkd HTx hG hrest q0 q1 q2 r1 hLl
              go_wp2_with fail
              refine HPi.out.mono ?_
              rintro e w6 ⟨rfl, rfl⟩
              go_wp2_with fail
              refine HPu.out.mono ?_
              rintro e w6 ⟨rfl, b6⟩
              have HB6 := Lib.hid b6
              clear b6
              go_wp2_with fail
              refine (HGt.out w6 HB6.out).mono ?_
              rintro e w7 ⟨rfl, b7⟩
              have B7 := below_chain (below_chain HB'.out (Nat.le_refl _) HB6.out) (Nat.le_refl _) b7
              have HB7 := Lib.hid B7
              clear B7 b7
              go_wp2
              go_roundw
              case rel => exact ⟨k + 1, by go_num, by omega, by rw [HSl.out]; go_num, HB7.out⟩
              case measure => simp [intOf]; omega
            · have hkn : k = ns.length := by omega
              subst k
              have HLen := Lib.hid (len_any (HPnL5.out.later HB'.out))
              rw [← HLL.out]
              go_wp2_with (go_at_call 25; refine HLen.out.mono ?_; rintro e w6 ⟨rfl, rfl⟩)
              go_ret
              exact ⟨rfl, below_chain BW5 (Nat.le_refl _) HB'.out⟩

end Go.Proofs.YtjjlciiijojfiaaDoor
