/- The laws' helpers pair, of, code, bytes (praxinoscopelaw08): their contracts. -/
import Derived.Test.YtejcgkplcbapfaaDoorERef4
import Derived.Test.YtejcgkplcbapfaaDoorABits
namespace Go.Proofs.YtejcgkplcbapfaaDoor
open Go.RowKit Go.Shelf
set_option linter.unusedVariables false

theorem pair8_any (r l : Int) (w : World) : Calls Tryd.prog 22 #[.int .i64 r, .int .i64 l] w fun e w' => e = .returned (pairV r l) ∧ Below w.heap.size w w' := by
  go_enter Tryd.func22, Tryd.ntmps22
  go_wp2
  exact bodyPost_ret (v := pairV r l) (by simp [results, Tryd.f22, go_sem]) rfl ⟨rfl, (Below.refl _ w).alloc (Nat.le_refl _) _⟩

/-- a level, by any number -/
def lvE (y : Int) : Int := if 0 ≤ y % 254 - 127 then y % 254 - 127 + 1 else y % 254 - 127
theorem lvE_in (y : Int) : -127 ≤ lvE y ∧ lvE y ≤ 127 ∧ lvE y ≠ 0 := by
  have h1 := Int.emod_nonneg y (b := 254) (by omega)
  have h2 := Int.emod_lt_of_pos y (b := 254) (by omega)
  unfold lvE
  split <;> omega
theorem isP_by (x y : Int) : isP (x % 64) (lvE y) = true := by
  obtain ⟨h1, h2, h3⟩ := lvE_in y
  exact isP_yes (Int.emod_nonneg x (by omega)) (by have := Int.emod_lt_of_pos x (b := 64) (by omega); omega) h1 h2 h3
set_option maxHeartbeats 1000000 in
theorem of8_any (x y : Int) (w : World) : Calls Tryd.prog 24 #[.int .i64 x, .int .i64 y] w fun e w' => e = .returned (pairV (x % 64) (lvE y)) ∧ Below w.heap.size w w' := by
  have h1 := Int.emod_nonneg y (b := 254) (by omega)
  have h2 := Int.emod_lt_of_pos y (b := 254) (by omega)
  have HPx := Lib.hid (pick_any x 64)
  have HPy := Lib.hid (pick_any y 254)
  unfold lvE
  generalize x % 64 = X at *
  generalize y % 254 = Y at *
  have HQ := Lib.hid (fun l w => pair8_any X l w)
  have hb0 : Below w.heap.size w (w.alloc (.cells #[.int .i64 0, .int .i64 0] 26 (0, 0))) := (Below.refl _ w).alloc (Nat.le_refl _) _
  have hbox := World.alloc_heap_new w (.cells #[.int .i64 0, .int .i64 0] 26 (0, 0))
  have hsz : (w.alloc (.cells #[.int .i64 0, .int .i64 0] 26 (0, 0))).heap.size = w.heap.size + 1 := by simp
  have HB0 := Lib.hid hb0
  clear hb0
  by_cases h0 : 0 ≤ Y - 127
  · rw [if_pos h0]
    go_enter Tryd.func24, Tryd.ntmps24
    go_wp2_with fail
    generalize w.alloc (.cells #[.int .i64 0, .int .i64 0] 26 (0, 0)) = w1 at *
    refine (HPy.out _ (by decide) (by decide)).mono ?_
    rintro e w' ⟨rfl, rfl⟩
    go_wp2_with fail
    refine (HPx.out _ (by decide) (by decide)).mono ?_
    rintro e w' ⟨rfl, rfl⟩
    go_wp2_with fail
    refine (HQ.out _ w1).mono ?_
    rintro e w2 ⟨rfl, b2⟩
    have hs2 := b2.size
    have hh := (b2.block w.heap.size (by omega)).trans hbox
    obtain ⟨c0, c1, f0, f1⟩ := pair_cells hh
    have hlt2 : w.heap.size < w2.heap.size := by omega
    go_wp2
    refine bodyPost_ret (v := pairV X (Y - 127 + 1)) (by simp [results, Tryd.f24, go_sem, c0, c1]) rfl ⟨rfl, ?_⟩
    exact ((HB0.out.trans (b2.mono (by omega))).setCell (p := ⟨w.heap.size, 0, none⟩) (Nat.le_refl _) _).setCell (p := ⟨w.heap.size, 1, none⟩) (Nat.le_refl _) _
  · rw [if_neg h0]
    go_enter Tryd.func24, Tryd.ntmps24
    go_wp2_with fail
    generalize w.alloc (.cells #[.int .i64 0, .int .i64 0] 26 (0, 0)) = w1 at *
    refine (HPy.out _ (by decide) (by decide)).mono ?_
    rintro e w' ⟨rfl, rfl⟩
    go_wp2_with fail
    refine (HPx.out _ (by decide) (by decide)).mono ?_
    rintro e w' ⟨rfl, rfl⟩
    go_wp2_with fail
    refine (HQ.out _ w1).mono ?_
    rintro e w2 ⟨rfl, b2⟩
    have hs2 := b2.size
    have hh := (b2.block w.heap.size (by omega)).trans hbox
    obtain ⟨c0, c1, f0, f1⟩ := pair_cells hh
    have hlt2 : w.heap.size < w2.heap.size := by omega
    go_wp2
    refine bodyPost_ret (v := pairV X (Y - 127)) (by simp [results, Tryd.f24, go_sem, c0, c1]) rfl ⟨rfl, ?_⟩
    exact ((HB0.out.trans (b2.mono (by omega))).setCell (p := ⟨w.heap.size, 0, none⟩) (Nat.le_refl _) _).setCell (p := ⟨w.heap.size, 1, none⟩) (Nat.le_refl _) _

/-- is a one among the first so many, and among the first nine? -/
def oneTo (s : ByteArray) (t : Nat) : Bool := (s.data.toList.take (min t 9)).any (· == 49)
theorem oneTo_zero (s : ByteArray) : oneTo s 0 = false := by simp [oneTo]
theorem oneTo_late (s : ByteArray) {t : Nat} (h : 9 ≤ t) : oneTo s (t + 1) = oneTo s t := by unfold oneTo; rw [Nat.min_eq_right (by omega), Nat.min_eq_right (by omega)]
theorem oneTo_succ (s : ByteArray) {t : Nat} (h : t < 9) (ht : t < s.size) : oneTo s (t + 1) = (oneTo s t || s[t] == 49) := by
  unfold oneTo
  have hl : t < s.data.toList.length := by simpa using ht
  rw [Nat.min_eq_left (by omega), Nat.min_eq_left (by omega), List.take_succ_eq_append_getElem hl, List.any_append]
  simp
  rfl
/-- a one among the first nine -/
def oneIn (s : ByteArray) : Prop := ∃ i, i < 9 ∧ i < s.size ∧ s.data.toList[i]? = some 49
theorem oneTo_all {s : ByteArray} (h : oneIn s) : oneTo s s.size = true := by
  obtain ⟨i, h1, h2, h3⟩ := h
  unfold oneTo
  rw [List.any_eq_true]
  refine ⟨49, ?_, rfl⟩
  refine List.mem_of_getElem? (i := i) ?_
  rw [List.getElem?_take, if_pos (by omega)]
  exact h3

set_option maxRecDepth 100000 in
set_option maxHeartbeats 2000000 in
theorem code8_true (s : ByteArray) (hs : AllBits s) (h1 : 1 ≤ s.size) (ho : oneIn s) (most : Int) (hm : s.size ≤ most) (h20 : s.size ≤ 100) (w : World) :
    Calls Tryd.prog 25 #[.string s, .int .i64 most] w fun e w' => e = .returned (.bool true) ∧ w = w' := by
  have HS := Lib.hid hs
  have HO := Lib.hid (oneTo_all ho)
  have HZ := Lib.hid (oneTo_zero s)
  have HL := Lib.hid (fun t h => oneTo_late s (t := t) h)
  have HU := Lib.hid (fun t h ht => oneTo_succ s (t := t) h ht)
  clear hs ho
  go_enter Tryd.func25, Tryd.ntmps25
  go_wp2
  go_loop [5, 6] (fun b i => ∃ t : Nat, t ≤ s.size ∧ i = .int .i64 t ∧ b = .bool (oneTo s t)) (fun _ i => s.size - (intOf i).toNat)
  case atStart => exact ⟨0, Nat.zero_le _, rfl, by rw [HZ.out]⟩
  case round =>
    obtain ⟨t, ht, rfl, rfl⟩ := hrel
    by_cases hts : t < s.size
    · by_cases h9 : t < 9
      · have hU := HU.out t h9 hts
        rcases HS.out t hts with h | h
        · have e1 : ((s[t].toNat : Int) != 48) = false := by rw [h]; rfl
          have e2 : ((s[t].toNat : Int) == 49) = false := by rw [h]; rfl
          have e3 : oneTo s (t + 1) = oneTo s t := by rw [hU, h]; simp
          clear h hU
          generalize hb : oneTo s t = b at *
          cases b
          · go_wp2
            go_round
            case rel => exact ⟨t + 1, by omega, by go_num, by rw [e3]⟩
            case measure => simp [intOf]; omega
          · go_wp2
            go_round
            case rel => exact ⟨t + 1, by omega, by go_num, by rw [e3]⟩
            case measure => simp [intOf]; omega
        · have e1 : ((s[t].toNat : Int) != 48) = true := by rw [h]; rfl
          have e2 : ((s[t].toNat : Int) != 49) = false := by rw [h]; rfl
          have e4 : ((s[t].toNat : Int) == 49) = true := by rw [h]; rfl
          have e3 : oneTo s (t + 1) = true := by rw [hU, h]; simp
          clear h hU
          generalize hb : oneTo s t = b at *
          cases b
          · go_wp2
            go_round
            case rel => exact ⟨t + 1, by omega, by go_num, by rw [e3]⟩
            case measure => simp [intOf]; omega
          · go_wp2
            go_round
            case rel => exact ⟨t + 1, by omega, by go_num, by rw [e3]⟩
            case measure => simp [intOf]; omega
      · have e3 := HL.out t (by omega)
        rcases HS.out t hts with h | h
        · have e1 : ((s[t].toNat : Int) != 48) = false := by rw [h]; rfl
          clear h
          generalize hb : oneTo s t = b at *
          cases b
          · go_wp2
            go_round
            case rel => exact ⟨t + 1, by omega, by go_num, by rw [e3]⟩
            case measure => simp [intOf]; omega
          · go_wp2
            go_round
            case rel => exact ⟨t + 1, by omega, by go_num, by rw [e3]⟩
            case measure => simp [intOf]; omega
        · have e1 : ((s[t].toNat : Int) != 48) = true := by rw [h]; rfl
          have e2 : ((s[t].toNat : Int) != 49) = false := by rw [h]; rfl
          clear h
          generalize hb : oneTo s t = b at *
          cases b
          · go_wp2
            go_round
            case rel => exact ⟨t + 1, by omega, by go_num, by rw [e3]⟩
            case measure => simp [intOf]; omega
          · go_wp2
            go_round
            case rel => exact ⟨t + 1, by omega, by go_num, by rw [e3]⟩
            case measure => simp [intOf]; omega
    · have htn : t = s.size := by omega
      subst t
      have hO := HO.out
      go_wp2
      go_ret
      exact ⟨rfl, rfl⟩

/-- the bits that a text spells, as numbers -/
def spell8 (s : ByteArray) (n : Nat) : List Int := (List.range n).map fun i => ((s.data.toList[i]?.getD 48).toNat : Int) - 48
theorem spell8_succ (s : ByteArray) (n : Nat) (x : Int) (hx : x = ((s.data.toList[n]?.getD 48).toNat : Int) - 48) : intV (spell8 s n) ++ [.int .i64 x] = intV (spell8 s (n + 1)) := by
  subst hx
  simp [spell8, List.range_succ]
theorem spell8_length (s : ByteArray) (n : Nat) : (spell8 s n).length = n := by simp [spell8]
theorem at_list9 (s : ByteArray) {t : Nat} (h : t < s.size) : s.data.toList[t]?.getD 48 = s[t] := by
  have h2 : t < s.data.toList.length := by simpa using h
  rw [List.getElem?_eq_getElem h2]
  simp
  rfl

set_option maxRecDepth 100000 in
set_option maxHeartbeats 2000000 in
theorem bytes8_any {n₀ : Nat} {w : World} {a : Option Addr} {len cap : Nat} {ys : List Int} (h : RowV n₀ w a len cap (intV ys)) (hn₀ : n₀ ≤ w.heap.size) (hlen : len ≤ 100) (s : ByteArray) (hs : AllBits s) (m : Nat) (hsz : s.size = m) (hm : m ≤ 900) :
    Calls Tryd.prog 26 #[.string s, .slice a len cap] w fun e w' => ∃ (zs : List UInt8) (v : Value), e = .returned v ∧ zs.length = (m + len + 7) / 8 ∧ w'.ownsRow w.heap.size 5 1 v zs.length (u8s zs) ∧ (∀ j (hj : j < s.size), s[j] = UInt8.ofNat (48 + bt zs j)) ∧ Below w.heap.size w w' := by
  obtain ⟨i2, hi2', hz20, hz21, hz22⟩ := info_parts Tryd.info3y
  have hl : ys.length = len := by have := h.1; simpa using this
  have HR := Lib.hid h
  have HS := Lib.hid hs
  clear h hs
  go_enter Tryd.func26, Tryd.ntmps26
  go_wp2_with fail
  go_loopw [5, 6] (fun v i wr => ∃ t : Nat, i = .int .i64 t ∧ t ≤ m ∧ wr.ownsRow w.heap.size 3 1 v t (intV (spell8 s t)) ∧ Below w.heap.size w wr) (fun _ i _ => m - (intOf i).toNat)
  case atStart => exact ⟨0, rfl, by omega, World.ownsRow_nil _ _ _ _, Below.refl _ _⟩
  case round =>
    obtain ⟨t, rfl, ht, ho, hb⟩ := hrel
    have HO := Lib.hid ho
    have HB := Lib.hid hb
    have hbs := hb.size
    clear ho hb
    by_cases htl : t < m
    · have hts : t < s.size := by omega
      have hat := at_list9 s hts
      rcases HS.out t hts with h | h
      · have e1 : (s[t].toNat : Int) = 48 := by rw [h]; rfl
        have HSn := Lib.hid (spell8_succ s t 0 (by rw [hat, h]; rfl))
        clear hat h
        go_wp2_with (at_builtin; refine wpList_append_v rfl _ _ 40 3 i2 (.int .i64 0) 8 rfl Tryd.underlying40y hi2' hz20 hz21 hz22 rfl w.heap.size _ t _ rfl (HO.out.alloc _) (some ⟨wr.heap.size, 0, none⟩) 1 1 [.int .i64 0] rfl (src_one _ _ _) (fun e => nomatch e) (by simp [Value.oneCell']) (by omega) (by omega) (by simp; omega) ?_; intro v1 w1 hap; have HA := Lib.hid hap; clear hap)
        go_roundw
        case rel =>
          refine ⟨t + 1, by go_num, by omega, ?_, ?_⟩
          · rw [← HSn.out]
            exact HA.out.1
          · exact (HB.out.alloc (by omega) _).grown HA.out.2.1 (by simp; omega) (fun j e => (HO.out.lt j e).1)
        case measure => simp [intOf]; omega
      · have e1 : (s[t].toNat : Int) = 49 := by rw [h]; rfl
        have HSn := Lib.hid (spell8_succ s t 1 (by rw [hat, h]; rfl))
        clear hat h
        go_wp2_with (at_builtin; refine wpList_append_v rfl _ _ 40 3 i2 (.int .i64 0) 8 rfl Tryd.underlying40y hi2' hz20 hz21 hz22 rfl w.heap.size _ t _ rfl (HO.out.alloc _) (some ⟨wr.heap.size, 0, none⟩) 1 1 [.int .i64 1] rfl (src_one _ _ _) (fun e => nomatch e) (by simp [Value.oneCell']) (by omega) (by omega) (by simp; omega) ?_; intro v1 w1 hap; have HA := Lib.hid hap; clear hap)
        go_roundw
        case rel =>
          refine ⟨t + 1, by go_num, by omega, ?_, ?_⟩
          · rw [← HSn.out]
            exact HA.out.1
          · exact (HB.out.alloc (by omega) _).grown HA.out.2.1 (by simp; omega) (fun j e => (HO.out.lt j e).1)
        case measure => simp [intOf]; omega
    · have htn : t = m := by omega
      subst htn
      have HSrc := Lib.hid (HR.out.below (HB.out.mono hn₀)).src
      go_wp2_with (at_builtin; refine wpList_append_v rfl _ _ 40 3 i2 (.int .i64 0) 8 rfl Tryd.underlying40y hi2' hz20 hz21 hz22 rfl w.heap.size _ t _ rfl HO.out a len cap (intV ys) rfl HSrc.out HR.out.nocap intV_one (by omega) (by omega) (by omega) ?_; intro v1 w1 hap; have HA := Lib.hid hap; clear hap; refine Hid.out ?_)
      refine Lib.hid ?_
      have hrow := HA.out.1
      have hb1 : Below w.heap.size w w1 := HB.out.grown HA.out.2.1 hbs (fun j e => (HO.out.lt j e).1)
      have HB1 := Lib.hid hb1
      have hs1 := hb1.size
      obtain ⟨a1, c1, rfl, hv⟩ := rowV_own4 hrow
      have hv2 : RowV w1.heap.size w1 a1 (t + len) c1 (intV (spell8 s t ++ ys)) := by
        have e : intV (spell8 s t ++ ys) = intV (spell8 s t) ++ intV ys := by simp
        rw [e]; exact hv
      have HK := Lib.hid (kbits_any hv2 (Nat.le_refl _) (by omega))
      clear hrow hb1 hv hv2
      go_wp2_with (go_at_call 41; refine HK.out.mono ?_; rintro e w2 ⟨zs, rfl, hzl, ho2, hd2, hb2⟩; have HO2 := Lib.hid ho2; have HD2 := Lib.hid hd2; have HB2 := Lib.hid hb2; clear ho2 hd2 hb2)
      go_ret
      refine ⟨zs, _, rfl, hzl, ?_, fun j hj => ?_, HB1.out.trans (HB2.out.mono hs1)⟩
      · rw [hzl]
        exact ownsRow_base HO2.out hs1
      · rw [HD2.out j (by omega), List.getElem?_append_left (by rw [spell8_length]; omega)]
        have e2 : (spell8 s t)[j]?.getD 0 = ((s[j]).toNat : Int) - 48 := by
          have h3 := at_list9 s hj
          simp only [spell8, List.getElem?_map, List.getElem?_range (show j < t by omega), Option.map_some, Option.getD_some]
          rw [h3]
        rw [e2]
        rcases HS.out j hj with h | h
        · rw [h]; rfl
        · rw [h]; rfl

end Go.Proofs.YtejcgkplcbapfaaDoor
