/- The walk of PatternBack. -/
import Derived.Test.YtichkoilhnkmkaaDoorNLaw
namespace Go.Proofs.YtichkoilhnkmkaaDoor
open Go.RowKit Go.Shelf
set_option linter.unusedVariables false

theorem intV_get7 {xs : List Int} {j : Nat} (h : j < xs.length) : (intV xs)[j]? = some (.int .i64 (xs[j]?.getD 0)) := by simp [h]
/-- the codes of some patterns -/
def texts7 (ps : List Nat) : List ByteArray := ps.map fun p => codes7[p]?.getD ⟨#[]⟩
theorem texts7_snoc (ps : List Nat) (p : Nat) : texts7 (ps ++ [p]) = texts7 ps ++ [codes7[p]?.getD ⟨#[]⟩] := by simp [texts7]
theorem texts7_len (ps : List Nat) : (texts7 ps).length = ps.length := by simp [texts7]
theorem strV_snoc7 (l : List ByteArray) (s : ByteArray) : strV (l ++ [s]) = strV l ++ [.string s] := by simp
theorem texts7_at (ns : List Int) {k t : Nat} (h : t < k) : (strV (texts7 (wpicks ns 63 k)))[t]? = some (.string (codes7[wpickN ns 63 t]?.getD ⟨#[]⟩)) := by
  simp [texts7, wpicks, h]
theorem apart7 {p q : Nat} (hp : p < 63) (hq : q < 63) : ((codes7[p]?.getD (⟨#[]⟩ : ByteArray)).toList == (codes7[q]?.getD (⟨#[]⟩ : ByteArray)).toList) = ((p : Int) == (q : Int)) := by
  have h := codes7_apart ⟨p, hp⟩ ⟨q, hq⟩
  simp only [Fin.mk.injEq, decide_eq_decide] at h
  rw [Bool.eq_iff_iff, str_eq_iff, h, beq_iff_eq]
  omega

set_option maxRecDepth 100000 in
set_option maxHeartbeats 8000000 in
theorem patternBack_walk (I : PatternI) {w : World} {a : Option Addr} {len cap : Nat} {ns : List Int} (hS : Spc w) (hN : RowV w.heap.size w a len cap (intV ns)) :
    Calls Tryd.prog 6 #[.slice a len cap] w fun e w' => e = .returned (.bool true) ∧ Below w.heap.size w w' := by
  have e2 : ns.length = len := by have := hN.1; simpa using this
  subst e2
  have HN := Lib.hid hN
  have HSp := Lib.hid (fun w' (hb : Below w.heap.size w w') => hS.below hb)
  have hn1 := hN.2.1
  have hn2 := hN.2.2.1
  have HK := Lib.hid (known7_any I w hS)
  obtain ⟨i1, hi1', hz10, hz11, hz12⟩ := info_parts Tryd.info9
  clear hN hS
  go_enter Tryd.func6, Tryd.ntmps6
  go_wp2_with fail
  refine HK.out.mono ?_
  rintro e w1 ⟨rfl, b1⟩
  have HB1 := Lib.hid b1
  go_wp2_with fail
  refine (newPen_any w1).mono ?_
  rintro e w2 ⟨rfl, hpen, b2⟩
  have HPen := Lib.hid hpen
  have HB2 := Lib.hid b2
  have B2 := Lib.hid (below_chain b1 (Nat.le_refl _) b2)
  clear hpen b1 b2
  by_cases hlong : 60 < ns.length
  · go_wp2
    go_ret
    exact ⟨rfl, B2.out⟩
  have hn60 : ns.length ≤ 60 := by omega
  clear hlong
  go_wp2_with fail
  go_loopw [5, 6, 7, 8, 9] (fun v i _ _ _ wr => ∃ (k : Nat) (g : Option Nat), i = .int .i64 k ∧ k ≤ ns.length ∧ IsPen wr w1.heap.size g (wtexts codes7 (wpicks ns 63 k)) ∧ (∀ j, g = some j → w1.heap.size ≤ j) ∧
    wr.ownsRow w1.heap.size 9 1 v k (strV (texts7 (wpicks ns 63 k))) ∧ (∀ j, v.ownBlock = some j → j ≠ w1.heap.size ∧ g ≠ some j) ∧ Below w1.heap.size w1 wr) (fun _ i _ _ _ _ => ns.length - (intOf i).toNat)
  case atStart => exact ⟨0, none, rfl, by omega, HPen.out, by simp, World.ownsRow_nil _ _ _ _, (fun j h => by cases h), HB2.out⟩
  case round =>
    obtain ⟨k, g, rfl, hk, hpen, hg, hown, hap, hB⟩ := hrel
    have HPn := Lib.hid hpen
    have HGg := Lib.hid hg
    have HB := Lib.hid hB
    have HO := Lib.hid hown
    have HAp := Lib.hid hap
    clear hpen hg hB hown hap
    by_cases hk2 : k < ns.length
    · obtain ⟨bn, on, rfl, hbn, hcn⟩ := HN.out.cells (by omega)
      have BW := below_chain HB1.out (Nat.le_refl _) HB.out
      have hSw := HSp.out _ BW
      have x1 := (BW.cell (p := ⟨bn, on + k, none⟩) hbn).trans (hcn k _ (intV_get7 hk2))
      have HCn := Lib.hid hcn
      have HX1 := Lib.hid (hcn k _ (intV_get7 hk2))
      clear hcn
      obtain ⟨av, cv, rfl⟩ := row_form HO.out
      have HPi := Lib.hid (fun W => (pick_any (ns[k]?.getD 0) 63 W (by omega) (by omega)).mono (fun _ _ h => (⟨h.1, h.2.symm⟩ : _ ∧ _ = W)))
      rw [show (ns[k]?.getD 0) % 63 = (wpickN ns 63 k : Int) from wpickN_eq ns k (m := 63) (by omega)] at HPi
      have hpl := wpickN_lt ns k (m := 63) (by omega)
      have HSc := Lib.hid (wpicks_succ ns 63 k)
      have HTa := Lib.hid (fun t (h : t < k) => texts7_at ns h)
      have HTs := Lib.hid (texts7_snoc (wpicks ns 63 k) (wpickN ns 63 k))
      obtain ⟨p, hpp⟩ : ∃ p, p = wpickN ns 63 k := ⟨_, rfl⟩
      rw [← hpp] at HPi hpl HSc HTs
      generalize ns[k]?.getD 0 = xk at *
      clear hpp
      obtain ⟨-, q1, q2⟩ := nums7_at ⟨p, hpl⟩
      simp only at q1 q2
      have HPu := Lib.hid (I.put (1 + (p : Int)) wr hSw (by omega) (by omega))
      rw [q1, q2] at HPu
      obtain ⟨r1, r2, r3⟩ := codes7_at hpl
      have hLl := wtexts_len codes7 (wpicks ns 63 k) codes7_24
      rw [wpicks_len] at hLl
      have HTx := Lib.hid (wtexts_one codes7 p)
      obtain ⟨c, hc⟩ : ∃ c, c = codes7[p]?.getD ⟨#[]⟩ := ⟨_, rfl⟩
      rw [← hc] at HPu r1 r2 r3 HTx HTs
      obtain ⟨L, hL⟩ : ∃ L, L = wtexts codes7 (wpicks ns 63 k) := ⟨_, rfl⟩
      have hLl2 : L.length ≤ 2000 := by rw [hL]; omega
      have hcE : codeE L c = 0 := by
        unfold codeE
        rw [if_pos ((allB_iff c).2 r1), if_neg (by omega)]
      have hcL : codeL L c = L ++ textBits c := by unfold codeL; rw [if_pos hcE]
      rw [← hL] at HPn
      have HL := Lib.hid hL
      have HCe := Lib.hid hcE
      have HCl := Lib.hid hcL
      have HCc := Lib.hid hc
      clear hcE hcL hc q1 q2 hLl hL hSw
      go_wp2_with fail
      refine (HPi.out _).mono ?_
      rintro e w5 ⟨rfl, rfl⟩
      go_wp2_with fail
      refine HPu.out.mono ?_
      rintro e w5' ⟨rfl, b5⟩
      have B5 := below_chain HB.out (Nat.le_refl _) b5
      have HPc := Lib.hid (penCode_any (HPn.out.later b5) c (by omega))
      rw [HCe.out, HCl.out] at HPc
      have HO5 := Lib.hid (ownsRow_bar HO.out (bar_of_below (S := fun _ => False) b5) (fun _ _ e => e))
      go_wp2_with fail
      refine HPc.out.mono ?_
      rintro e w6 ⟨rfl, hw6⟩
      have hs5 := B5.size
      have hlt5 := b5.size
      have B6 := B5.trans (hw6.below B5.size (Nat.le_refl _) HGg.out)
      obtain ⟨g', hp', hbar6, hk'⟩ := hw6
      have HO6 := Lib.hid (ownsRow_bar HO5.out hbar6 (fun j hj e => by
        have := HAp.out j hj
        rcases e with e | e
        · exact this.1 e
        · exact this.2 e))
      have HAp6 : Hid (∀ j, (Value.slice av k cv).ownBlock = some j → j ≠ w1.heap.size ∧ g' ≠ some j) := fun j hj => by
        refine ⟨(HAp.out j hj).1, fun e => ?_⟩
        rcases hk' j e with h | h
        · exact (HAp.out j hj).2 h
        · have := (HO.out.lt j hj).2
          omega
      have HGg6 : Hid (∀ j, g' = some j → w1.heap.size ≤ j) := fun j e => by
        rcases hk' j e with h | h
        · exact HGg.out j h
        · omega
      have HP' := Lib.hid hp'
      have HB6 := Lib.hid B6
      have hs6 := B6.size
      clear hp' hk' hbar6 HB b5 B5 B6 HPc
      go_wp2_with fail
      go_loopw [9] (fun j wr' => ∃ t : Nat, j = .int .i64 t ∧ t ≤ k ∧ Below w6.heap.size w6 wr') (fun j _ => k - (intOf j).toNat)
      case atStart => exact ⟨0, rfl, by omega, Below.refl _ _⟩
      case round =>
        obtain ⟨t, rfl, ht, hB'⟩ := hrel
        have HB' := Lib.hid hB'
        have hO7 := ownsRow_bar HO6.out (bar_of_below (S := fun _ => False) hB') (fun _ _ e => e)
        clear hB'
        by_cases ht2 : t < k
        · obtain ⟨g1, cp1, e1, hg1, _, hce⟩ := row_cells hO7 ht2
          cases e1
          have y1 := hce t _ ht2 (HTa.out t ht2)
          have BW6 := below_chain HB1.out (Nat.le_refl _) (below_chain HB6.out (Nat.le_refl _) HB'.out)
          have x2 := (BW6.cell (p := ⟨bn, on + t, none⟩) hbn).trans (HCn.out t _ (intV_get7 (by omega)))
          have x3 := (BW6.cell (p := ⟨bn, on + k, none⟩) hbn).trans (HX1.out)
          have hq := wpickN_lt ns t (m := 63) (by omega)
          have HQi := Lib.hid (fun W => (pick_any (ns[t]?.getD 0) 63 W (by omega) (by omega)).mono (fun _ _ h => (⟨h.1, h.2.symm⟩ : _ ∧ _ = W)))
          rw [show (ns[t]?.getD 0) % 63 = (wpickN ns 63 t : Int) from wpickN_eq ns t (m := 63) (by omega)] at HQi
          have hap := apart7 hpl hq
          rw [← HCc.out] at hap
          generalize wpickN ns 63 t = q at *
          generalize ns[t]?.getD 0 = xt at *
          generalize codes7[q]?.getD ⟨#[]⟩ = cq at *
          have z1 : (0 : Int) ≤ (k : Int) := by omega
          have z2 : (0 : Int) ≤ (t : Int) := by omega
          have z3 : (t : Int) < (k : Int) := by omega
          have z4 : (k : Int) < (ns.length : Int) := by omega
          have z5 : (t : Int) < (ns.length : Int) := by omega
          clear hce hO7 hg1 BW6 hs5 hlt5 hs6
          by_cases hpq : p = q
          · have e1 : ((p : Int) == (q : Int)) = true := by simp [hpq]
            rw [e1] at hap
            have HPQ := Lib.hid hpq
            clear hpq
            go_wp2
            clear hpl hq r1 r2 r3 hLl2 BW hbn hn1 hn2 hn60 hk ht hk2 ht2
            refine wp_region_quiet_lit (by kernel_rfl) (by kernel_rfl) ?_
            iterate 11 quiet_step ((go_at_call 23; exact Calls.quiet_of_same (HPi.out _)))
            iterate 7 quiet_step ((go_at_call 23; exact Calls.quiet_of_same (HQi.out _)))
            refine wpQuiet_nil ?_
            intro _ hw'
            obtain ⟨nq, hw''⟩ := hw'
            subst hw''
            go_wp2
            go_roundw
            case rel => exact ⟨t + 1, by go_num, by omega, HB'.out.trans (below_drewN _ _ _)⟩
            case measure => simp [intOf]; omega
          · have e1 : ((p : Int) == (q : Int)) = false := by rw [beq_eq_false_iff_ne]; omega
            rw [e1] at hap
            have HPQ := Lib.hid hpq
            clear hpq
            go_wp2
            clear hpl hq r1 r2 r3 hLl2 BW hbn hn1 hn2 hn60 hk ht hk2 ht2
            refine wp_region_quiet_lit (by kernel_rfl) (by kernel_rfl) ?_
            iterate 11 quiet_step ((go_at_call 23; exact Calls.quiet_of_same (HPi.out _)))
            iterate 7 quiet_step ((go_at_call 23; exact Calls.quiet_of_same (HQi.out _)))
            refine wpQuiet_nil ?_
            intro _ hw'
            obtain ⟨nq, hw''⟩ := hw'
            subst hw''
            go_wp2
            go_roundw
            case rel => exact ⟨t + 1, by go_num, by omega, HB'.out.trans (below_drewN _ _ _)⟩
            case measure => simp [intOf]; omega
        · have htk : t = k := by omega
          subst t
          have hs7 := HB'.out.size
          have HO7 := Lib.hid hO7
          have HP7 := Lib.hid (HP'.out.later HB'.out)
          have hgl := HP'.out.lt.2
          clear hO7
          go_wp2_with (at_builtin; refine wpList_append_v rfl _ _ 39 9 i1 (.string ⟨#[]⟩) 16 rfl Tryd.underlying39x hi1' hz10 hz11 hz12 rfl w1.heap.size _ k _ rfl (HO7.out.alloc _) (some ⟨wr.heap.size, 0, none⟩) 1 1 [.string c] rfl (src_one _ _ _) (fun e => nomatch e) (by simp [Value.oneCell']) (by omega) (by omega) (by simp; omega) ?_; intro v8 w8 hap; have HA := Lib.hid hap; clear hap)
          obtain ⟨a1, a2, a3⟩ := HA.out
          have hbar : Bar (fun j => (Value.slice av k cv).ownBlock = some j) wr w8 := ((Bar.refl _ _).alloc _).trans (bar_of_grown a2 (fun j e => e)) (fun j _ e => e)
          have HP8 := Lib.hid (HP7.out.bar hbar (fun e => (HAp6.out _ e).1 rfl) (fun j e e2 => (HAp6.out _ e2).2 e))
          have HB8 : Hid (Below w1.heap.size w1 w8) := ((HB6.out.trans (HB'.out.mono hs6)).trans (hbar.below (by omega) (fun j hj e => by have := (HO7.out.lt j e).1; omega)))
          have HA1 := Lib.hid a1
          have HA3 := Lib.hid a3
          clear a1 a2 a3 hbar
          go_roundw
          case rel => exact ⟨k + 1, g', by go_num, by omega, by rw [HSc.out, wtexts_append, HTx.out, ← HL.out]; exact HP8.out, HGg6.out, by rw [HSc.out, HTs.out, strV_snoc7]; exact HA1.out, fun j e => by
            rcases HA3.out j e with h | h
            · exact HAp6.out j h
            · simp only [World.size_alloc] at h
              exact ⟨by omega, fun e2 => by have := hgl j e2; omega⟩, HB8.out⟩
          case measure => simp [intOf]; omega
    · have hkn : k = ns.length := by omega
      subst k
      obtain ⟨L, hL⟩ : ∃ L, L = wtexts codes7 (wpicks ns 63 ns.length) := ⟨_, rfl⟩
      have HPnL := Lib.hid (hL ▸ HPn.out)
      obtain ⟨av, cv, rfl⟩ := row_form HO.out
      go_wp2_with fail
      refine (bytes_any HPnL.out).mono ?_
      rintro e w5 ⟨zs, hpk, va, rfl, hra, b5⟩
      have B5 := below_chain HB.out (Nat.le_refl _) b5
      have BW5 := below_chain HB1.out (Nat.le_refl _) B5
      have hLl := wtexts_len codes7 (wpicks ns 63 ns.length) codes7_24
      rw [wpicks_len] at hLl
      have hLl2 : L.length ≤ 2000 := by rw [hL]; omega
      have hzl : zs.length ≤ 300 := by have := hpk.1; omega
      have hby := byt_own hra (by omega) (n₀ := w5.heap.size) (Nat.le_refl _)
      obtain ⟨av2, cv2, rfl⟩ := row_form hra
      have HPk2 := Lib.hid hpk
      have HBy := Lib.hid hby
      have HLL := Lib.hid hL
      have HPnL5 := Lib.hid (HPnL.out.later b5)
      have HO5 := Lib.hid (ownsRow_bar HO.out (bar_of_below (S := fun _ => False) b5) (fun _ _ e => e))
      clear hpk hra hby hL HPn HPnL hLl
      go_wp2_with fail
      go_loopw [11, 12, 13, 14, 15] (fun at_ i _ _ _ wr => ∃ k : Nat, i = .int .i64 k ∧ k ≤ ns.length ∧ at_ = .int .i64 (wtexts codes7 (wpicks ns 63 k)).length ∧ Below w5.heap.size w5 wr) (fun _ i _ _ _ _ => ns.length - (intOf i).toNat)
      case atStart => exact ⟨0, rfl, by omega, by simp [wtexts, wpicks], Below.refl _ _⟩
      case round =>
        obtain ⟨k, rfl, hk', rfl, hB'⟩ := hrel
        have HB' := Lib.hid hB'
        clear hB'
        by_cases hk3 : k < ns.length
        · obtain ⟨bn, on, rfl, hbn, hcn⟩ := HN.out.cells (by omega)
          have BW := below_chain BW5 (Nat.le_refl _) HB'.out
          have hSw := HSp.out _ BW
          have x1 := (BW.cell (p := ⟨bn, on + k, none⟩) hbn).trans (hcn k _ (intV_get7 hk3))
          have HX1 := Lib.hid x1
          have hO7 := ownsRow_bar HO5.out (bar_of_below (S := fun _ => False) HB'.out) (fun _ _ e => e)
          obtain ⟨g1, cp1, e1, hg1, _, hce⟩ := row_cells hO7 hk3
          cases e1
          have HY1 := Lib.hid (hce k _ hk3 (texts7_at ns hk3))
          clear hcn hO7 hce x1
          have HPi := Lib.hid (fun W => pick_any (ns[k]?.getD 0) 63 W (by omega) (by omega))
          rw [show (ns[k]?.getD 0) % 63 = (wpickN ns 63 k : Int) from wpickN_eq ns k (m := 63) (by omega)] at HPi
          have hpl := wpickN_lt ns k (m := 63) (by omega)
          have HSc := Lib.hid (wpicks_succ ns 63 k)
          obtain ⟨rest, hrest⟩ := wpicks_split ns 63 k ns.length hk3
          obtain ⟨p, hpp⟩ : ∃ p, p = wpickN ns 63 k := ⟨_, rfl⟩
          rw [← hpp] at HPi hpl HSc hrest HY1
          generalize ns[k]?.getD 0 = xk at *
          clear hpp
          have hPkd : Packed zs (wtexts codes7 (wpicks ns 63 k) ++ (textBits (codes7[p]?.getD ⟨#[]⟩) ++ wtexts codes7 rest)) := by
            have h := HPk2.out
            rw [HLL.out, hrest, wtexts_append, wtexts_append, wtexts_one] at h
            exact h
          obtain ⟨q0, -, -⟩ := nums7_at ⟨p, hpl⟩
          simp only at q0
          obtain ⟨r1, r2, r3⟩ := codes7_at hpl
          have hgw := got_written (nums := nums7) clash7 (k := p) hpl hPkd r1 (codes7_24 p)
          rw [q0] at hgw
          have HTx := Lib.hid (wtexts_one codes7 p)
          have hLl := wtexts_len codes7 (wpicks ns 63 k) codes7_24
          rw [wpicks_len] at hLl
          have hSl : (wtexts codes7 (wpicks ns 63 (k + 1))).length = (wtexts codes7 (wpicks ns 63 k)).length + (codes7[p]?.getD (⟨#[]⟩ : ByteArray)).size := by
            rw [HSc.out, wtexts_append, HTx.out, List.length_append, textBits_len]
          have HSl := Lib.hid hSl
          have hAl : (wtexts codes7 (wpicks ns 63 k)).length ≤ 2000 := by omega
          obtain ⟨c, hc⟩ : ∃ c, c = codes7[p]?.getD ⟨#[]⟩ := ⟨_, rfl⟩
          obtain ⟨AA, hAA⟩ : ∃ AA, AA = (wtexts codes7 (wpicks ns 63 k)).length := ⟨_, rfl⟩
          rw [← hc] at hgw HSl r2 r3 HY1
          rw [← hAA] at hgw HSl hAl ⊢
          have hG := I.get (HBy.out.below HB'.out) (by have := HB'.out.size; omega) (by omega) hSw (AA : Int) (by omega)
          rw [hgw] at hG
          have HGt := Lib.hid hG
          have d1 : (3 : Int) ≤ (c.size : Int) := by omega
          have d2 : (c.size : Int) ≤ 9 := by omega
          clear hc hAA hgw hSl hPkd HTx hG hrest q0 r1 hLl hSw
          go_wp2_with fail
          refine HGt.out.mono ?_
          rintro e w7 ⟨rfl, b7⟩
          have B7 := below_chain HB'.out (Nat.le_refl _) b7
          have x1 := (b7.cell (p := ⟨bn, on + k, none⟩) (Nat.lt_of_lt_of_le hbn BW.size)).trans HX1.out
          have y1 := (b7.cell (p := ⟨g1, k, none⟩) hg1).trans HY1.out
          have HB7 := Lib.hid B7
          clear B7 b7
          go_wp2_with (go_at_call 23; refine (HPi.out _).mono ?_; rintro e w' ⟨rfl, rfl⟩)
          go_roundw
          case rel => exact ⟨k + 1, by go_num, by omega, by rw [HSl.out]; go_num, HB7.out⟩
          case measure => simp [intOf]; omega
        · have hkn : k = ns.length := by omega
          subst k
          have HLen := Lib.hid (len_any (HPnL5.out.later HB'.out))
          rw [← HLL.out]
          go_wp2_with (go_at_call 26; refine HLen.out.mono ?_; rintro e w6 ⟨rfl, rfl⟩)
          go_ret
          exact ⟨rfl, below_chain BW5 (Nat.le_refl _) HB'.out⟩

end Go.Proofs.YtichkoilhnkmkaaDoor
