/- picture: the reference's Spares, Get (praxinoscoperef17); the kit's SameHead. -/
import Derived.Test.YtlcaboddkcpgaaaDoorHRef
import Derived.Test.YtlcaboddkcpgaaaDoorZArr
import Derived.Test.YtlcaboddkcpgaaaDoorPTree
namespace Go.Proofs.YtlcaboddkcpgaaaDoor
open Go.RowKit Go.Shelf Go.Sort
set_option linter.unusedVariables false

theorem capped_nil : Capped (.slice none 0 0) := ⟨none, 0, 0, rfl, Nat.le_refl _⟩
theorem row8_byt17 {w : World} {a : Option Addr} {len cap : Nat} {zs : List UInt8} (h : Row8 w.heap.size w a len cap zs) (hl : len ≤ 1000000) : Byt w.heap.size w (.slice a len cap) zs := by
  have e : zs.length = len := h.1
  have := h.byt (Nat.le_refl _) (Nat.le_refl len) (by omega)
  rwa [List.take_of_length_le (by omega)] at this
theorem lent_lt17 {base : Nat} {w : World} {v : Value} {zs : List UInt8} (h : Lent base w v zs) : ∀ k, v.ownBlock = some k → k < w.heap.size := by
  obtain ⟨g, cap, rfl, hg, hr⟩ := h
  exact fun k e => (hr.lt k (by simpa [Value.ownBlock] using e)).2

set_option maxRecDepth 100000 in
set_option maxHeartbeats 1000000 in
theorem spares17_any {n₀ : Nat} {w : World} {sv : Value} {zs : List UInt8} (hB : Byt n₀ w sv zs) (hn : n₀ ≤ w.heap.size) (hl : zs.length ≤ 1000000) (A : Nat) (hA : A ≤ 8 * zs.length) :
    Calls Tryd.prog 38 #[sv, .int .i64 A] w fun e w' => ∃ v, e = .returned (.tuple #[v, .int .i64 (spG zs 32 A).2.1, .int .i64 (spG zs 32 A).2.2]) ∧ w'.ownsRow w.heap.size 5 1 v (spG zs 32 A).1.length (u8s (spG zs 32 A).1) ∧ Below w.heap.size w w' := by
  have HR : Hid (∀ W', Below w.heap.size w W' → ∀ (i : Int) (a : Nat), i = a → ∀ n : Nat, n ≤ 32 → a ≤ 8 * zs.length → Calls Tryd.prog 37 #[sv, .int .i64 i, .int .i64 (n : Nat)] W' fun e w' => e = .returned (.tuple #[.int .i64 (r1N zs a n), .int .i64 (r1E zs a n)]) ∧ W' = w') := fun W' hb i a hi n hn' ha => r1read_any (Byt.below (hb.mono hn) hB) i a hi n hn' ha (by omega)
  have HBd := Lib.hid (fun h => spG_bad zs 32 A h)
  obtain ⟨R, hR⟩ : ∃ R, spG zs 32 A = R := ⟨_, rfl⟩
  have h00 : spJ [] (spG zs 32 A) = R := by rw [spJ_nil _ (spG_bad zs 32 A)]; exact hR
  rw [hR] at HBd ⊢
  obtain ⟨av, cap, rfl, hlen, hcell⟩ := hB
  have H00 := Lib.hid h00
  clear hcell hR h00 hlen
  go_enter Tryd.func38, Tryd.ntmps38
  go_wp2_with fail
  go_loopw [7, 8] (fun v nv wr => ∃ (k : Nat) (xs : List UInt8), xs.length = k ∧ k ≤ 32 ∧ A + 9 * k ≤ 8 * zs.length ∧ nv = .int .i64 ((9 * k : Nat) : Int) ∧ wr.ownsRow w.heap.size 5 1 v k (u8s xs) ∧ Below w.heap.size w wr ∧ spJ xs (spG zs (32 - k) (A + 9 * k)) = R) (fun _ nv _ => 1000 - (intOf nv).toNat)
  case atStart => exact ⟨0, [], rfl, by omega, by omega, rfl, World.ownsRow_nil _ _ _ _, Below.refl _ _, H00.out⟩
  case round =>
    obtain ⟨k, xs, hxl, hk, hAk, rfl, hO, hB, hJ⟩ := hrel
    have HO := Lib.hid hO
    have HB := Lib.hid hB
    have HJ := Lib.hid hJ
    have hbs := hB.size
    clear hO hB hJ
    obtain ⟨q, hq⟩ : ∃ q, q = A + 9 * k := ⟨_, rfl⟩
    have hq2 : (A : Int) + 9 * (k : Int) = (q : Int) := by omega
    have hqi : IntKind.i64.wrap ((A : Int) + 9 * (k : Int)) = (q : Int) := by rw [IntKind.wrap_i64]; omega
    rw [← hq] at HJ hAk
    have HQ := Lib.hid hq
    clear hq
    have R1 := Lib.hid (HR.out wr HB.out (q : Int) q rfl 1 (by omega) hAk)
    by_cases h1 : 8 * zs.length ≤ q
    · have e1 : r1E zs q 1 = 5 := if_pos (by omega)
      have e2 : r1N zs q 1 = 0 := if_pos (by omega)
      rw [e1, e2] at R1
      have HF : Hid (R = ([], 0, 5)) := by
        have := HJ.out
        rw [spG_out h1, spJ_err _ (by decide)] at this
        exact this.symm
      have hf := HF.out
      subst hf
      clear e1 e2 HJ HR H00
      go_wp2_with fail
      refine R1.out.mono ?_
      rintro e w' ⟨rfl, rfl⟩
      go_wp2_with fail
      go_ret3
      exact ⟨_, rfl, World.ownsRow_nil _ _ _ _, HB.out⟩
    · have e1 : r1E zs q 1 = 0 := if_neg (by omega)
      have e2 : r1N zs q 1 = bt zs q := by unfold r1N; rw [if_neg (by omega), num_one1]
      rw [e1, e2] at R1
      by_cases h2 : bt zs q = 0
      · have HF : Hid (R = (xs, 9 * k + 1, 0)) := by
          have := HJ.out
          rw [spG_end (by omega) h2, spJ_end, hxl] at this
          exact this.symm
        have hf := HF.out
        subst hf
        rw [h2] at R1
        clear e1 e2 HJ HR H00 h2
        go_wp2_with fail
        refine R1.out.mono ?_
        rintro e w' ⟨rfl, rfl⟩
        go_wp2_with fail
        go_ret3
        exact ⟨_, rfl, HO.out, HB.out⟩
      · have h2' : bt zs q = 1 := by have := bt_lt2 zs q; omega
        rw [h2'] at R1
        obtain ⟨a2, c2, rfl, -⟩ := byt_own (zs := xs) (by rw [hxl]; exact HO.out) (by omega) (Nat.le_refl _)
        rw [hxl] at HO ⊢
        by_cases h3 : k = 32
        · have HF : Hid (R = ([], 0, 4)) := by
            have := HJ.out
            rw [show 32 - k = 0 by omega, spG_long (by omega) h2', spJ_err _ (by decide)] at this
            exact this.symm
          have hf := HF.out
          subst hf
          have h3' : ((k : Int) == 32) = true := by simp; omega
          clear e1 e2 HJ HR H00 h2 h2' h3
          go_wp2_with fail
          refine R1.out.mono ?_
          rintro e w' ⟨rfl, rfl⟩
          go_wp2_with fail
          go_ret3
          exact ⟨_, rfl, World.ownsRow_nil _ _ _ _, HB.out⟩
        · obtain ⟨l, hl2⟩ : ∃ l, 32 - k = l + 1 := ⟨31 - k, by omega⟩
          have h3' : ((k : Int) == 32) = false := by simp; omega
          have R2 := Lib.hid (HR.out wr HB.out ((q : Int) + 1) (q + 1) (by omega) 8 (by omega) (by omega))
          by_cases h4 : 8 * zs.length < q + 9
          · have HF : Hid (R = ([], 0, 5)) := by
              have := HJ.out
              rw [hl2, spG_few (by omega) h2' h4, spJ_err _ (by decide)] at this
              exact this.symm
            have hf := HF.out
            subst hf
            rw [show r1E zs (q + 1) 8 = 5 from if_pos (by omega), show r1N zs (q + 1) 8 = 0 from if_pos (by omega)] at R2
            clear e1 e2 HJ HR H00 h2 h2'
            go_wp2_with fail
            refine R1.out.mono ?_
            rintro e w' ⟨rfl, rfl⟩
            go_wp2_with fail
            refine R2.out.mono ?_
            rintro e w' ⟨rfl, rfl⟩
            go_wp2_with fail
            go_ret3
            exact ⟨_, rfl, World.ownsRow_nil _ _ _ _, HB.out⟩
          · rw [show r1E zs (q + 1) 8 = 0 from if_neg (by omega), show r1N zs (q + 1) 8 = num zs (q + 1) 8 from if_neg (by omega)] at R2
            have HJ2 : Hid (spJ (xs ++ [UInt8.ofNat (num zs (q + 1) 8)]) (spG zs (32 - (k + 1)) (A + 9 * (k + 1))) = R) := by
              have := HJ.out
              rw [hl2, spG_more h2' (by omega), spJ_spJ] at this
              rw [show 32 - (k + 1) = l by omega, show A + 9 * (k + 1) = q + 9 by have := HQ.out; omega]
              exact this
            have hx8 := num_lt zs (q + 1) 8
            have HC : Hid (Value.int .u8 ((num zs (q + 1) 8 : Nat) : Int) = .int .u8 ((UInt8.ofNat (num zs (q + 1) 8)).toNat : Nat)) := by
              show _ = _
              rw [UInt8.toNat_ofNat_of_lt' (by show _ < 256; omega)]
            have HL9 := Lib.hid (show A + 9 * (k + 1) ≤ 8 * zs.length by have := HQ.out; omega)
            generalize num zs (q + 1) 8 = x at *
            clear e1 e2 HJ HR H00 h2 h2' h4 hl2
            go_wp2_with fail
            refine R1.out.mono ?_
            rintro e w' ⟨rfl, rfl⟩
            go_wp2_with fail
            refine R2.out.mono ?_
            rintro e w' ⟨rfl, rfl⟩
            go_wp2_with (at_builtin; refine wpList_append_src rfl (.tmp 49) (.tmp 52) rfl w.heap.size _ k (u8s xs) rfl (HO.out.alloc _) (some ⟨wr.heap.size, 0, none⟩) 1 1 [.int .u8 (x : Int)] rfl (src_one _ _ _) (fun e => nomatch e) (by simp [Value.oneCell']) (by omega) (by simp; omega) ?_; intro v1 w1 hap; have HA := Lib.hid hap; clear hap)
            go_roundw
            case rel =>
              refine ⟨k + 1, xs ++ [UInt8.ofNat x], by simp [hxl], by omega, HL9.out, by go_num, ?_, ?_, HJ2.out⟩
              · have := HA.out.1
                rw [HC.out] at this
                simpa [u8s] using this
              · exact (HB.out.alloc hbs _).grown HA.out.2.1 (by simp; omega) (fun k e => (HO.out.lt k e).1)
            case measure => simp [intOf]; omega

theorem results_cell_tmp2 {P : Program} {fn : Func} {p q r : Tmp} {ty : TypeId} (h : fn.results = #[.cell p ty, .tmp q, .tmp r]) (tmps : Array Value) (w : World) (g : Nat) (t : TypeId) (cs : Array Value) (fr : Nat × Nat) (d : TypeDesc)
    (hp : tmps.getD p undef = .pointer (some ⟨g, 0, none⟩)) (v u : Value) (hq : tmps.getD q undef = v) (hr : tmps.getD r undef = u) (hg : w.heap[g]? = some (.cells cs t fr))
    (hu : P.underlying ty = some d) (hd : (match d with | .struct _ | .array _ _ => true | _ => false) = true) (hi : (P.info? ty).map (·.size) = some cs.size) :
    (results fn tmps).run P w = .ok (.tuple #[.agg cs, v, u]) w := by
  have hq' : tmps[q]?.getD undef = v := by simpa using hq
  have hr' : tmps[r]?.getD undef = u := by simpa using hr
  have hp' : tmps[p]?.getD undef = .pointer (some ⟨g, 0, none⟩) := by simpa using hp
  simp [results, h, hp', hq', hr', asAddr, run_loadVar_row w g t ty cs fr d hg hu hd hi]
theorem head_under : ∃ fs, Tryd.prog.underlying 24 = some (.struct fs) := ⟨_, Tryd.underlying24⟩
theorem head_info : (Tryd.prog.info? 24).map (·.size) = some 3 := by kernel_rfl

/-- what Get answers, as a value -/
abbrev hdgV (g : Hdg) (v : Value) : Value := .tuple #[headV g.time g.type v, .int .i64 g.many, .int .i64 g.err]
def HeadGot (w w' : World) (e : Ending) (g : Hdg) : Prop := ∃ v, e = .returned (hdgV g v) ∧ w'.ownsRow w.heap.size 5 1 v g.spare.length (u8s g.spare) ∧ Below w.heap.size w w'

set_option maxRecDepth 100000 in
set_option maxHeartbeats 1000000 in
theorem get17_any {n₀ : Nat} {w : World} {sv : Value} {zs : List UInt8} (hB : Byt n₀ w sv zs) (hn : n₀ ≤ w.heap.size) (hl : zs.length ≤ 1000000) (x : Int) (hx : -9223372036854775808 ≤ x ∧ x ≤ 9223372036854775807) :
    Calls Tryd.prog 18 #[sv, .int .i64 x] w fun e w' => HeadGot w w' e (gtH zs x) := by
  obtain ⟨fs, hu⟩ := head_under
  have HU := Lib.hid hu
  have hx0 := World.alloc_heap_new w (.cells #[.int .i64 0, .int .i64 0, .slice none 0 0] 24 (0, 0))
  have hb0 : Below w.heap.size w (w.alloc (.cells #[.int .i64 0, .int .i64 0, .slice none 0 0] 24 (0, 0))) := (Below.refl _ w).alloc (Nat.le_refl _) _
  by_cases h0 : x < 0
  · rw [show gtH zs x = badH 3 from if_pos h0]
    obtain ⟨av, cap, rfl, hlen, hcell⟩ := hB
    clear hcell
    go_enter Tryd.func18, Tryd.ntmps18
    go_wp2
    exact bodyPost_ret (results_cell_tmp2 rfl _ _ w.heap.size 24 _ (0, 0) (.struct fs) rfl _ _ rfl rfl hx0 hu rfl head_info) rfl ⟨_, rfl, World.ownsRow_nil _ _ _ _, hb0⟩
  · have HC := Lib.hid (rcount_any (Byt.below (hb0.mono hn) hB))
    by_cases h1 : 8 * (zs.length : Int) < x
    · rw [show gtH zs x = badH 5 by unfold gtH; rw [if_neg h0, if_pos (by omega)]]
      obtain ⟨av, cap, rfl, hlen, hcell⟩ := hB
      clear hcell
      go_enter Tryd.func18, Tryd.ntmps18
      go_wp2_with (go_at_call 36; refine HC.out.mono ?_; rintro e w' ⟨rfl, rfl⟩)
      exact bodyPost_ret (results_cell_tmp2 rfl _ _ w.heap.size 24 _ (0, 0) (.struct fs) rfl _ _ rfl rfl hx0 hu rfl head_info) rfl ⟨_, rfl, World.ownsRow_nil _ _ _ _, hb0⟩
    · obtain ⟨A, rfl⟩ : ∃ A : Nat, x = A := ⟨x.toNat, by omega⟩
      have HR := Lib.hid (r1read_any (Byt.below (hb0.mono hn) hB) (A : Int) A rfl 11 (by omega) (by omega) (by omega))
      have h1' : ¬ (8 * (zs.length : Int) < A) := h1
      by_cases h2 : 8 * zs.length < A + 11
      · rw [show gtH zs A = badH 5 by unfold gtH; rw [if_neg h0, if_pos (by omega)]]
        rw [show r1E zs A 11 = 5 from if_pos h2, show r1N zs A 11 = 0 from if_pos h2] at HR
        obtain ⟨av, cap, rfl, hlen, hcell⟩ := hB
        clear hcell
        go_enter Tryd.func18, Tryd.ntmps18
        go_wp2_with (first | (go_at_call 36; refine HC.out.mono ?_; rintro e w' ⟨rfl, rfl⟩) | (go_at_call 37; refine HR.out.mono ?_; rintro e w' ⟨rfl, rfl⟩))
        exact bodyPost_ret (results_cell_tmp2 rfl _ _ w.heap.size 24 _ (0, 0) (.struct fs) rfl _ _ rfl rfl hx0 hu rfl head_info) rfl ⟨_, rfl, World.ownsRow_nil _ _ _ _, hb0⟩
      · rw [show r1E zs A 11 = 0 from if_neg h2, show r1N zs A 11 = num zs A 11 from if_neg h2] at HR
        have HS := Lib.hid (spares17_any (Byt.below (hb0.mono hn) hB) (by simp; omega) hl (A + 11) (by omega))
        have hG := gtH_nat (zs := zs) (A := A) (by omega)
        have hBd := spG_bad zs 32 (A + 11)
        have hEr := spG_err zs 32 (A + 11)
        have hnum : num zs A 11 = num zs A 5 * 64 + num zs (A + 5) 6 := num_add zs A 5 6
        have hn6 := num_lt zs (A + 5) 6
        have hn5 : num zs A 5 < 32 := num_lt zs A 5
        have hmn : (spG zs 32 (A + 11)).2.2 = 0 → (spG zs 32 (A + 11)).2.1 ≤ 400 := fun h => by
          have := spG_stand 32 (A + 11) h
          omega
        obtain ⟨av, cap, rfl, hlen, hcell⟩ := hB
        rw [hG]
        generalize spG zs 32 (A + 11) = R at *
        obtain ⟨sp, m, er⟩ := R
        simp only at HS hBd hEr hmn ⊢
        have hd1 : ((num zs A 11 : Nat) : Int).tdiv 64 = (num zs A 5 : Nat) := by rw [Int.tdiv_eq_ediv_of_nonneg (by omega)]; omega
        have hd2 : ((num zs A 11 : Nat) : Int).tmod 64 = (num zs (A + 5) 6 : Nat) := by rw [Int.tmod_eq_emod_of_nonneg (by omega)]; omega
        clear hnum hn6 hG hcell h2
        generalize num zs A 11 = q at *
        generalize num zs A 5 = q5 at *
        generalize num zs (A + 5) 6 = q6 at *
        have HX0 := Lib.hid hx0
        have HB0 := Lib.hid hb0
        clear hx0 hb0
        by_cases he : er = 0
        · subst he
          have hm := hmn rfl
          rw [if_pos rfl]
          clear hBd hEr hmn
          go_enter Tryd.func18, Tryd.ntmps18
          go_wp2_with (first | (go_at_call 36; refine HC.out.mono ?_; rintro e w' ⟨rfl, rfl⟩) | (go_at_call 37; refine HR.out.mono ?_; rintro e w' ⟨rfl, rfl⟩))
          refine HS.out.mono ?_
          rintro e w2 ⟨v, rfl, ho, hb⟩
          have hx2 := (hb.block _ (by simp)).trans HX0.out
          have HO := Lib.hid ho
          have HB2 := Lib.hid (HB0.out.trans (hb.mono (by simp)))
          clear ho hb
          obtain ⟨a2, n2, c2, rfl, -⟩ := capped_own HO.out
          go_wp2_with (with_reducible refine wpList_storeZ rfl 24 _ _ rfl w.heap.size #[.int .i64 q5, .int .i64 q6, .slice a2 n2 c2] rfl rfl 24 _ hx2 3 rfl head_info rfl (by simp [Value.oneCell']) ?_)
          have hR5 : (w2.setRow w.heap.size #[.int .i64 q5, .int .i64 q6, .slice a2 n2 c2]).heap[w.heap.size]? = some (.cells #[.int .i64 q5, .int .i64 q6, .slice a2 n2 c2] 24 (0, 0)) := setRow_heap w2 _ _ _ _ _ hx2
          exact bodyPost_ret (results_cell_tmp2 rfl _ _ w.heap.size 24 _ (0, 0) (.struct fs) rfl _ _ rfl rfl hR5 hu rfl head_info) rfl ⟨_, rfl, ownsRow_baseN (ownsRow_bar HO.out (bar_setRow w2 w.heap.size _) (fun k e e2 => by have h := (HO.out.lt k e).1; rw [World.size_alloc] at h; omega)) (by simp), below_setRowZ HB2.out (Nat.le_refl _) _⟩
        · have hne : (er != 0) = true := by simpa using he
          rw [if_neg he]
          clear hBd hEr hmn
          go_enter Tryd.func18, Tryd.ntmps18
          go_wp2_with (first | (go_at_call 36; refine HC.out.mono ?_; rintro e w' ⟨rfl, rfl⟩) | (go_at_call 37; refine HR.out.mono ?_; rintro e w' ⟨rfl, rfl⟩))
          refine HS.out.mono ?_
          rintro e w2 ⟨v, rfl, ho, hb⟩
          have hx2 := (hb.block _ (by simp)).trans HX0.out
          have HB2 := Lib.hid (HB0.out.trans (hb.mono (by simp)))
          clear ho hb
          go_wp2_with (with_reducible refine wpList_storeZ rfl 24 _ _ rfl w.heap.size #[.int .i64 0, .int .i64 0, .slice none 0 0] rfl rfl 24 _ hx2 3 rfl head_info rfl (by simp [Value.oneCell']) ?_)
          have hR5 : (w2.setRow w.heap.size #[.int .i64 0, .int .i64 0, .slice none 0 0]).heap[w.heap.size]? = some (.cells #[.int .i64 0, .int .i64 0, .slice none 0 0] 24 (0, 0)) := setRow_heap w2 _ _ _ _ _ hx2
          exact bodyPost_ret (results_cell_tmp2 rfl _ _ w.heap.size 24 _ (0, 0) (.struct fs) rfl _ _ rfl rfl hR5 hu rfl head_info) rfl ⟨_, rfl, World.ownsRow_nil _ _ _ _, below_setRowZ HB2.out (Nat.le_refl _) _⟩

end Go.Proofs.YtlcaboddkcpgaaaDoor
