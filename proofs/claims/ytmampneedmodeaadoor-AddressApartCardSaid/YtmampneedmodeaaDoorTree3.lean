/- The contract of the reference tree's Get. -/
import Derived.Test.YtmampneedmodeaaDoorTree2
namespace Go.Proofs.YtmampneedmodeaaDoor
open Go.RowKit Go.Shelf
set_option linter.unusedVariables false

theorem conv_one (w : World) (z : UInt8) : (convert 22 9 (.slice (some ⟨w.heap.size, 0, none⟩) 1 1)).run Tryd.prog (w.alloc (.cells #[.int .u8 z.toNat] 5 (0, 0))) = .ok (.string ⟨#[z]⟩) (w.alloc (.cells #[.int .u8 z.toNat] 5 (0, 0))) := by
  have hB : Byt (w.heap.size + 1) (w.alloc (.cells #[.int .u8 z.toNat] 5 (0, 0))) (.slice (some ⟨w.heap.size, 0, none⟩) 1 1) [z] := by
    refine ⟨_, 1, rfl, by simp, .inr ⟨w.heap.size, 0, rfl, by omega, fun j hj => ?_⟩⟩
    have h := World.alloc_heap_new w (.cells #[.int .u8 z.toNat] 5 (0, 0))
    generalize w.alloc (.cells #[.int .u8 z.toNat] 5 (0, 0)) = w' at h ⊢
    simp at hj
    subst hj
    simp [World.cell?, h]
  exact conv_byt hB

def strLen : Value → Nat | .string b => b.size | _ => 0

theorem getI_some {codes : List ByteArray} {s : ByteArray} {k : Nat} (hk : k < codes.length) (hb : begins s (codes[k]?.getD ⟨#[]⟩) = true) (hno : ∀ j, j < k → begins s (codes[j]?.getD ⟨#[]⟩) = false) : getI codes s = some k := by
  unfold getI
  rw [List.findIdx?_eq_some_iff_getElem]
  refine ⟨hk, by simpa [hk] using hb, fun j hj => ?_⟩
  have := hno j hj
  simpa [show j < codes.length by omega] using this
theorem getI_none {codes : List ByteArray} {s : ByteArray} (hno : ∀ j, j < codes.length → begins s (codes[j]?.getD ⟨#[]⟩) = false) : getI codes s = none := by
  unfold getI
  rw [List.findIdx?_eq_none_iff]
  intro y hy
  obtain ⟨j, hj, rfl⟩ := List.getElem_of_mem hy
  have := hno j hj
  simpa [hj] using this
theorem getMore_true {codes : List ByteArray} {s : ByteArray} {k : Nat} (hk : k < codes.length) (hb : begins (codes[k]?.getD ⟨#[]⟩) s = true) : getMore codes s = true := by
  unfold getMore
  rw [List.any_eq_true]
  exact ⟨codes[k], List.getElem_mem _, by simpa [hk] using hb⟩
theorem getMore_false {codes : List ByteArray} {s : ByteArray} (hno : ∀ j, j < codes.length → begins (codes[j]?.getD ⟨#[]⟩) s = false) : getMore codes s = false := by
  unfold getMore
  rw [List.any_eq_false]
  intro y hy
  obtain ⟨j, hj, rfl⟩ := List.getElem_of_mem hy
  have := hno j hj
  simpa [hj] using this

set_option maxRecDepth 100000 in
set_option maxHeartbeats 2000000 in
theorem tget_any {n₀ n₁ : Nat} {w : World} {b : Nat} {codes : List ByteArray} {nums : List Int} (h : IsT n₀ w b codes nums) {sv : Value} {zs : List UInt8} (hB : Byt n₁ w sv zs) (hn₁ : n₁ ≤ w.heap.size) (hl : zs.length ≤ 1099511627776) (x : Int) (hx : x ≤ 9223372036854775807) :
    Calls Tryd.prog 32 #[.pointer (some ⟨b, 0, none⟩), sv, .int .i64 x] w fun e w' => e = .returned (getT codes nums zs x) ∧ Below w.heap.size w w' := by
  by_cases h0 : x < 0
  · have HG : Hid (getT codes nums zs x = .tuple #[.int .i64 0, .int .i64 0, .int .i64 3]) := by show getT codes nums zs x = _; unfold getT; rw [if_pos h0]
    clear h hB
    go_enter Tryd.func32, Tryd.ntmps32
    go_wp2
    go_ret3
    exact ⟨by rw [HG.out]; rfl, Below.refl _ _⟩
  obtain ⟨A, rfl⟩ := Int.eq_ofNat_of_zero_le (a := x) (by omega)
  obtain ⟨S, hS⟩ : ∃ S, S = seenB zs A (seenN zs A) := ⟨_, rfl⟩
  have HG : Hid (getT codes nums zs (A : Int) = .tuple #[.int .i64 (getX codes nums S), .int .i64 (getN codes S), .int .i64 (getE3 codes S)]) := by
    show getT codes nums zs (A : Int) = _
    unfold getT
    rw [if_neg (by omega), Int.toNat_natCast, hS]
  have HT := Lib.hid h
  have HBy := Lib.hid (fun w' (hb : Below w.heap.size w w') => hB.below (hb.mono hn₁))
  obtain ⟨a, cap, rfl, hl', _⟩ := hB
  clear h
  go_enter Tryd.func32, Tryd.ntmps32
  go_wp2_with fail
  go_loopw [9, 10, 11] (fun s _ _ wr => ∃ n : Nat, s = .string (seenB zs A n) ∧ n ≤ seenN zs A ∧ Below w.heap.size w wr) (fun s _ _ _ => 24 - strLen s)
  case atStart => exact ⟨0, rfl, by omega, Below.refl _ _⟩
  case round =>
    obtain ⟨n, rfl, hn, hB⟩ := hrel
    have hsz := seenB_size zs A n
    have HSu := Lib.hid (seenB_succ zs A n)
    have hBt : bt zs (A + n) < 2 := by unfold bt; exact Nat.mod_lt _ (by omega)
    have HBw := Lib.hid hB
    by_cases hlt : n < seenN zs A
    · have hn24 : n < 24 ∧ A + n < 8 * zs.length := by unfold seenN at hlt; omega
      obtain ⟨hn24, hAn⟩ := hn24
      have HRd := Lib.hid (fun (i : Int) (hi : i = ((A + n : Nat) : Int)) => rread1_any (HBy.out _ hB) i (A + n) hi hAn hl)
      have HC := Lib.hid (rcount_any (HBy.out _ hB))
      have HN1 : Hid (n + 1 ≤ seenN zs A) := hlt
      generalize hs : seenB zs A n = s at *
      have HS := Lib.hid hs
      clear hs hB hn hlt
      obtain hv | hv : bt zs (A + n) = 0 ∨ bt zs (A + n) = 1 := by omega
      · rw [hv] at HRd HSu
        have c1 : (convert 22 9 (.slice (some ⟨wr.heap.size, 0, none⟩) 1 1)).run Tryd.prog (wr.alloc (.cells #[.int .u8 48] 5 (0, 0))) = .ok (.string ⟨#[48]⟩) (wr.alloc (.cells #[.int .u8 48] 5 (0, 0))) := conv_one wr 48
        clear hv hBt
        go_wp2_with fail
        refine HC.out.mono ?_
        rintro e w' ⟨rfl, rfl⟩
        go_wp2_with fail
        refine (HRd.out _ (by omega)).mono ?_
        rintro e w' ⟨rfl, rfl⟩
        go_wp2
        go_roundw
        case rel => exact ⟨n + 1, by rw [← HSu.out]; rfl, HN1.out, HBw.out.alloc HBw.out.size _⟩
        case measure =>
          show 24 - (s ++ (⟨#[48]⟩ : ByteArray)).size < 24 - s.size
          rw [ByteArray.size_append, hsz]
          show 24 - (n + 1) < 24 - n
          omega
      · rw [hv] at HRd HSu
        have c1 : (convert 22 9 (.slice (some ⟨wr.heap.size, 0, none⟩) 1 1)).run Tryd.prog (wr.alloc (.cells #[.int .u8 49] 5 (0, 0))) = .ok (.string ⟨#[49]⟩) (wr.alloc (.cells #[.int .u8 49] 5 (0, 0))) := conv_one wr 49
        clear hv hBt
        go_wp2_with fail
        refine HC.out.mono ?_
        rintro e w' ⟨rfl, rfl⟩
        go_wp2_with fail
        refine (HRd.out _ (by omega)).mono ?_
        rintro e w' ⟨rfl, rfl⟩
        go_wp2
        go_roundw
        case rel => exact ⟨n + 1, by rw [← HSu.out]; rfl, HN1.out, HBw.out.alloc HBw.out.size _⟩
        case measure =>
          show 24 - (s ++ (⟨#[49]⟩ : ByteArray)).size < 24 - s.size
          rw [ByteArray.size_append, hsz]
          show 24 - (n + 1) < 24 - n
          omega
    · have hne : n = seenN zs A := by omega
      have HC := Lib.hid (rcount_any (HBy.out _ hB))
      have HS2 : Hid (seenB zs A n = S) := by show seenB zs A n = S; rw [hne]; exact hS.symm
      have hex : ¬ (A + n < 8 * zs.length) ∨ (A + n < 8 * zs.length ∧ n = 24) := by unfold seenN at hne; omega
      rw [HS2.out] at hsz ⊢
      have HT' := Lib.hid (HT.out.later hB)
      have hn24 : n ≤ 24 := by unfold seenN at hn; omega
      have hAn : A + n ≤ 9223372036854775807 := by unfold seenN at hn; omega
      clear hB hlt HSu hBt hS hn hne
      have ht : decide ((A : Int) + (n : Int) < 8 * (zs.length : Int)) = false ∨ (decide ((A : Int) + (n : Int) < 8 * (zs.length : Int)) = true ∧ decide ((n : Int) < 24) = false) := by
        rcases hex with h | ⟨h, rfl⟩
        · left; simp; omega
        · right; simp; omega
      have hS24 : S.size ≤ 24 := by rw [hsz]; omega
      clear hex
      obtain ⟨vc, vn, _, hbc, hc, hnn, hlen, h300⟩ := HT'.out
      obtain ⟨d0, d1⟩ := t_cells hbc
      obtain ⟨ac, cc, rfl⟩ := row_form hc
      obtain ⟨an, cn, rfl⟩ := row_form hnn
      have HCr := Lib.hid hc
      have HNr := Lib.hid hnn
      clear hbc hc hnn
      have HBg := fun (t : ByteArray) => Lib.hid (tbegins_any S t wr)
      have HBg2 := fun (t : ByteArray) => Lib.hid (tbegins_any t S wr)
      obtain ⟨wo, hwo⟩ : ∃ wo : World, wo = wr := ⟨_, rfl⟩
      subst hwo
      rcases ht with t1 | ⟨t1, t2⟩
      all_goals
        go_wp2_with fail
        refine HC.out.mono ?_
        rintro e w' ⟨rfl, rfl⟩
        go_wp2_with fail
        go_loop [12] (fun i => ∃ k : Nat, i = .int .i64 k ∧ k ≤ codes.length ∧ ∀ j, j < k → begins S (codes[j]?.getD ⟨#[]⟩) = false) (fun i => codes.length - (intOf i).toNat)
        case atStart => exact ⟨0, rfl, by omega, fun j hj => by omega⟩
        case round =>
          obtain ⟨k, rfl, hk, hno⟩ := hrel
          have HNo := Lib.hid hno
          clear hno
          by_cases hk2 : k < codes.length
          · obtain ⟨g1, cp1, e1, _, hcp1, hce⟩ := row_cells HCr.out hk2
            obtain ⟨g2, cp2, e2, _, hcp2, hne⟩ := row_cells HNr.out (j := k) (by omega)
            cases e1
            cases e2
            have x1 := hce k _ hk2 (show (strV codes)[k]? = some (.string (codes[k]?.getD ⟨#[]⟩)) by simp [hk2])
            have x2 := hne k _ (by omega) (show (intV nums)[k]? = some (.int .i64 (nums[k]?.getD 0)) by simp [show k < nums.length by omega])
            have hk3 : k < nums.length := by omega
            have q1 : (k : Int) < (codes.length : Int) := by omega
            have q2 : (0 : Int) ≤ (k : Int) := by omega
            have q3 : (k : Int) < (nums.length : Int) := by omega
            clear hce hne
            by_cases hb : begins S (codes[k]?.getD ⟨#[]⟩) = true
            · have hI := getI_some hk2 hb HNo.out
              have HX : Hid (getX codes nums S = nums[k]?.getD 0) := by show getX codes nums S = _; unfold getX; rw [hI]
              have HN : Hid (getN codes S = (codes[k]?.getD ⟨#[]⟩).size) := by show getN codes S = _; unfold getN; rw [hI]
              have HE : Hid (getE3 codes S = 0) := by show getE3 codes S = _; unfold getE3; rw [hI]
              generalize codes[k]?.getD ⟨#[]⟩ = t at *
              generalize nums[k]?.getD 0 = y at *
              have HBt := HBg t
              rw [hb] at HBt
              clear hI hb HBg HBg2
              go_wp2_with fail
              refine HBt.out.mono ?_
              rintro e w' ⟨rfl, rfl⟩
              go_wp2_with fail
              go_quiet (fail)
              go_wp2
              go_ret3
              exact ⟨by rw [HG.out, HX.out, HN.out, HE.out]; rfl, HBw.out.trans (below_drewN _ _ _)⟩
            · have hb' : begins S (codes[k]?.getD ⟨#[]⟩) = false := by simpa using hb
              have HBt := HBg (codes[k]?.getD ⟨#[]⟩)
              rw [hb'] at HBt
              have HB' := Lib.hid hb'
              generalize hcd : codes[k]?.getD ⟨#[]⟩ = t at *
              have HCd := Lib.hid hcd
              clear hb hb' hcd HBg HBg2
              go_wp2_with fail
              refine HBt.out.mono ?_
              rintro e w' ⟨rfl, rfl⟩
              go_wp2
              go_round
              case rel => exact ⟨k + 1, by go_num, by omega, fun j hj => by
                by_cases e : j = k
                · subst e; rw [HCd.out]; exact HB'.out
                · exact HNo.out j (by omega)⟩
              case measure => simp [intOf]; omega
          · have hkn : k = codes.length := by omega
            subst k
            have hI := getI_none HNo.out
            have HX : Hid (getX codes nums S = 0) := by show getX codes nums S = _; unfold getX; rw [hI]
            have HN : Hid (getN codes S = 0) := by show getN codes S = _; unfold getN; rw [hI]
            have HE : Hid (getE3 codes S = if getMore codes S then 5 else 7) := by show getE3 codes S = _; unfold getE3; rw [hI]
            clear hI HBg
            go_wp2_with fail
            go_loop [13] (fun i => ∃ k : Nat, i = .int .i64 k ∧ k ≤ codes.length ∧ ∀ j, j < k → begins (codes[j]?.getD ⟨#[]⟩) S = false) (fun i => codes.length - (intOf i).toNat)
            case atStart => exact ⟨0, rfl, by omega, fun j hj => by omega⟩
            case round =>
              obtain ⟨k, rfl, hk, hno⟩ := hrel
              have HNo2 := Lib.hid hno
              clear hno
              by_cases hk2 : k < codes.length
              · obtain ⟨g1, cp1, e1, _, hcp1, hce⟩ := row_cells HCr.out hk2
                cases e1
                have x1 := hce k _ hk2 (show (strV codes)[k]? = some (.string (codes[k]?.getD ⟨#[]⟩)) by simp [hk2])
                clear hce
                by_cases hb : begins (codes[k]?.getD ⟨#[]⟩) S = true
                · have HM := Lib.hid (getMore_true hk2 hb)
                  have HBt := HBg2 (codes[k]?.getD ⟨#[]⟩)
                  rw [hb] at HBt
                  generalize codes[k]?.getD ⟨#[]⟩ = t at *
                  clear hb HBg2
                  go_wp2_with fail
                  refine HBt.out.mono ?_
                  rintro e w' ⟨rfl, rfl⟩
                  go_wp2
                  go_ret3
                  exact ⟨by rw [HG.out, HX.out, HN.out, HE.out, HM.out]; rfl, HBw.out⟩
                · have hb' : begins (codes[k]?.getD ⟨#[]⟩) S = false := by simpa using hb
                  have HBt := HBg2 (codes[k]?.getD ⟨#[]⟩)
                  rw [hb'] at HBt
                  have HB' := Lib.hid hb'
                  generalize hcd : codes[k]?.getD ⟨#[]⟩ = t at *
                  have HCd := Lib.hid hcd
                  clear hb hb' hcd HBg2
                  go_wp2_with fail
                  refine HBt.out.mono ?_
                  rintro e w' ⟨rfl, rfl⟩
                  go_wp2
                  go_round
                  case rel => exact ⟨k + 1, by go_num, by omega, fun j hj => by
                    by_cases e : j = k
                    · subst e; rw [HCd.out]; exact HB'.out
                    · exact HNo2.out j (by omega)⟩
                  case measure => simp [intOf]; omega
              · have hkn : k = codes.length := by omega
                subst k
                have HM := Lib.hid (getMore_false HNo2.out)
                clear HBg2
                go_wp2
                go_ret3
                exact ⟨by rw [HG.out, HX.out, HN.out, HE.out, HM.out]; rfl, HBw.out⟩

end Go.Proofs.YtmampneedmodeaaDoor
