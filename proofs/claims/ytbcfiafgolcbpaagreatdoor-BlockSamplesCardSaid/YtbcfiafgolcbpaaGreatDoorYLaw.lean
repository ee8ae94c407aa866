/- What block's functions must answer, as one record; the kit's SameBlock; the laws' helpers puts, gets, flat, bits (praxinoscopelaw12). The laws' helpers flat, bits (praxinoscopelaw12). The law's helper bytes (praxinoscopelaw12): a text and other bits behind it. The law's helper of (praxinoscopelaw12): a block of a first code and pairs. awake, and the walk of BlockKnown (praxinoscopelaw12). -/
import Derived.Test.YtbcfiafgolcbpaaGreatDoorYPlain3
import Derived.Test.YtbcfiafgolcbpaaGreatDoorEGet
import Derived.Test.YtbcfiafgolcbpaaGreatDoorZArr
import Derived.Test.YtbcfiafgolcbpaaGreatDoorEFact
import Derived.Test.YtbcfiafgolcbpaaGreatDoorRef
import Derived.Test.YtbcfiafgolcbpaaGreatDoorELaw
/- What block's functions must answer, as one record; the kit's SameBlock; the laws' helpers puts, gets, flat, bits (praxinoscopelaw12). -/
namespace Go.Proofs.YtbcfiafgolcbpaaGreatDoor
open Go.RowKit Go.Shelf
set_option linter.unusedVariables false

/-- a block, as a value -/
abbrev blkV (dc : Int) (v : Value) : Value := .agg #[.int .i64 dc, v]
/-- what block's functions must answer -/
structure BlockI : Prop where
  check : ∀ {n₀ : Nat} {w : World} {av : Option Addr} {len cap : Nat} {ps : List (Int × Int)}, RowP n₀ w av len cap ps → n₀ ≤ w.heap.size → len ≤ 1000000 → Lay8 w → ∀ (dc : Int) (intra : Bool),
    Calls Tryz.prog 23 #[blkV dc (.slice av len cap), .bool intra] w fun e w' => e = .returned (.int .i64 (chkY dc ps intra)) ∧ Below w.heap.size w w'
  get : ∀ {n₁ : Nat} {w : World} {sv : Value} {zs : List UInt8}, Byt n₁ w sv zs → n₁ ≤ w.heap.size → zs.length ≤ 1000000 → Lay8 w → ∀ (x : Int) (intra : Bool), x ≤ 9223372036854775807 →
    Calls Tryz.prog 12 #[sv, .int .i64 x, .bool intra] w fun e w' => ∃ v, e = .returned (.tuple #[blkV (gotY zs x intra).dc v, .int .i64 (gotY zs x intra).many, .int .i64 (gotY zs x intra).err]) ∧ w'.ownsRow w.heap.size 66 2 v (gotY zs x intra).ps.length (cellsQ (gotY zs x intra).ps) ∧ Below w.heap.size w w'
  put : ∀ {n₀ : Nat} {w : World} {av : Option Addr} {len cap : Nat} {ps : List (Int × Int)}, RowP n₀ w av len cap ps → n₀ ≤ w.heap.size → len ≤ 1000000 → Lay8 w → ∀ (dc : Int) (intra : Bool),
    Calls Tryz.prog 18 #[blkV dc (.slice av len cap), .bool intra] w fun e w' => e = .returned (.tuple #[.string (if chkY dc ps intra = 0 then putTY dc ps intra else ⟨#[]⟩), .int .i64 (chkY dc ps intra)]) ∧ Below w.heap.size w w'
  levels : ∀ {n₀ : Nat} {w : World} {av : Option Addr} {len cap : Nat} {ps : List (Int × Int)}, RowP n₀ w av len cap ps → n₀ ≤ w.heap.size → len ≤ 1000000 → Lay8 w → ∀ (dc : Int) (intra : Bool),
    Calls Tryz.prog 20 #[blkV dc (.slice av len cap), .bool intra] w fun e w' => ∃ v, e = .returned (.tuple #[v, .int .i64 (levelsY dc ps intra).1]) ∧ OwnI w' w.heap.size v (levelsY dc ps intra).2 ∧ Below w.heap.size w w'
  resid : ∀ {n₀ : Nat} {w : World} {av : Option Addr} {len cap : Nat} {ps : List (Int × Int)}, RowP n₀ w av len cap ps → n₀ ≤ w.heap.size → len ≤ 1000000 → Lay8 w → ∀ (dc q : Int) (intra : Bool),
    Calls Tryz.prog 26 #[blkV dc (.slice av len cap), .int .i64 q, .bool intra] w fun e w' => ∃ v, e = .returned (.tuple #[v, .int .i64 (residY dc ps q intra).1]) ∧ OwnI w' w.heap.size v (residY dc ps q intra).2 ∧ Below w.heap.size w w'

set_option maxHeartbeats 1000000 in
theorem sameBlock_any {w : World} {u v : Value} {xs ys : List (Int × Int)} (h1 : CellsP w u xs) (h2 : CellsP w v ys) (hx : xs.length ≤ 1000000000) (hy : ys.length ≤ 1000000000) (c d : Int) :
    Calls Tryz.prog 14 #[blkV c u, blkV d v] w fun e w' => e = .returned (.bool (c == d && decide (xs = ys))) ∧ Below w.heap.size w w' := by
  obtain ⟨x0, x1⟩ := two_cells w (.int .i64 c) u 27
  obtain ⟨y0, y1⟩ := two_cells (w.alloc (.cells #[.int .i64 c, u] 27 (0, 0))) (.int .i64 d) v 27
  have hb1 : Below w.heap.size w (w.alloc (.cells #[.int .i64 c, u] 27 (0, 0))) := (Below.refl _ w).alloc (Nat.le_refl _) _
  have hb2 : Below w.heap.size w ((w.alloc (.cells #[.int .i64 c, u] 27 (0, 0))).alloc (.cells #[.int .i64 d, v] 27 (0, 0))) := hb1.alloc hb1.size _
  have HB2 := Lib.hid hb2
  have HS := Lib.hid (samePairs_any (h1.below hb2) (h2.below hb2) hx hy)
  obtain ⟨a1, c1, rfl, _⟩ := h1
  obtain ⟨a2, c2, rfl, _⟩ := h2
  clear hb1 hb2
  cases hcd : (c == d) with
  | false =>
    go_enter Tryz.func14, Tryz.ntmps14
    go_wp2_with fail
    go_ret
    exact ⟨rfl, HB2.out⟩
  | true =>
    rw [Bool.true_and]
    generalize decide (xs = ys) = same at *
    go_enter Tryz.func14, Tryz.ntmps14
    go_wp2_with fail
    refine HS.out.mono ?_
    rintro e w3 ⟨rfl, b3⟩
    have B3 := Lib.hid (HB2.out.trans (b3.mono HB2.out.size))
    clear b3
    go_wp2_with fail
    go_ret
    exact ⟨rfl, B3.out⟩

set_option maxHeartbeats 1000000 in
theorem puts12_any (I : BlockI) {n₀ : Nat} {w : World} {av : Option Addr} {len cap : Nat} {ps : List (Int × Int)} (hR : RowP n₀ w av len cap ps) (hn : n₀ ≤ w.heap.size) (hlen : len ≤ 1000000) (hT : Lay8 w) (dc : Int) (intra : Bool) (want : ByteArray) (err : Int)
    (h1 : (if chkY dc ps intra = 0 then putTY dc ps intra else ⟨#[]⟩) = want) (h2 : chkY dc ps intra = err) :
    Calls Tryz.prog 28 #[blkV dc (.slice av len cap), .bool intra, .string want, .int .i64 err] w fun e w' => e = .returned (.bool true) ∧ Below w.heap.size w w' := by
  have hb0 : Below w.heap.size w (w.alloc (.cells #[.int .i64 dc, .slice av len cap] 27 (0, 0))) := (Below.refl _ w).alloc (Nat.le_refl _) _
  have HP := Lib.hid (I.put (hR.below (hb0.mono hn)) (Nat.le_trans hn hb0.size) hlen (hT.below hb0) dc intra)
  rw [h1, h2] at HP
  obtain ⟨x0, x1⟩ := two_cells w (.int .i64 dc) (.slice av len cap) 27
  have HB0 := Lib.hid hb0
  clear h1 h2 hR hT hb0
  go_enter Tryz.func28, Tryz.ntmps28
  go_wp2_with fail
  refine HP.out.mono ?_
  rintro e w2 ⟨rfl, b2⟩
  have B2 := Lib.hid (HB0.out.trans (b2.mono HB0.out.size))
  clear b2
  go_wp2_with fail
  go_ret
  exact ⟨rfl, B2.out⟩

theorem ownP_row {w : World} {base : Nat} {v : Value} {ps : List (Int × Int)} (h : w.ownsRow base 66 2 v ps.length (cellsQ ps)) : ∃ a cap, v = .slice a ps.length cap ∧ RowP w.heap.size w a ps.length cap ps := rowP_own h
set_option maxHeartbeats 1000000 in
theorem gets12_any (I : BlockI) {n₁ : Nat} {w : World} {sv : Value} {zs : List UInt8} (hB : Byt n₁ w sv zs) (hn : n₁ ≤ w.heap.size) (hl : zs.length ≤ 1000000) (hT : Lay8 w) (intra : Bool) {u : Value} {ps : List (Int × Int)} (hu : CellsP w u ps) (hps : ps.length ≤ 1000) (dc many err : Int)
    (h : gotY zs 0 intra = ⟨dc, ps, many, err⟩) :
    Calls Tryz.prog 30 #[.bool intra, blkV dc u, .int .i64 many, .int .i64 err, sv] w fun e w' => e = .returned (.bool true) ∧ Below w.heap.size w w' := by
  have hb0 : Below w.heap.size w (w.alloc (.cells #[.int .i64 dc, u] 27 (0, 0))) := (Below.refl _ w).alloc (Nat.le_refl _) _
  have HG := Lib.hid (I.get (hB.below (hb0.mono hn)) (Nat.le_trans hn hb0.size) hl (hT.below hb0) 0 intra (by omega))
  rw [h] at HG
  simp only at HG
  obtain ⟨x0, x1⟩ := two_cells w (.int .i64 dc) u 27
  have HB0 := Lib.hid hb0
  have HU := Lib.hid (hu.below hb0)
  have hsz : (w.alloc (.cells #[.int .i64 dc, u] 27 (0, 0))).heap.size = w.heap.size + 1 := by simp
  obtain ⟨au, cu, rfl, _⟩ := hu
  clear h hB hT hb0
  go_enter Tryz.func30, Tryz.ntmps30
  go_wp2_with fail
  generalize w.alloc (.cells #[.int .i64 dc, .slice au ps.length cu] 27 (0, 0)) = w1 at *
  refine HG.out.mono ?_
  rintro e w2 ⟨v2, rfl, ho2, b2⟩
  obtain ⟨a2, c2, rfl, hr2⟩ := ownP_row ho2
  have y0 := (b2.cell (p := ⟨w.heap.size, 0, none⟩) (by simp; omega)).trans x0
  have y1 := (b2.cell (p := ⟨w.heap.size, 1, none⟩) (by simp; omega)).trans x1
  have hs2 := b2.size
  have B2 := Lib.hid (HB0.out.trans (b2.mono (by omega)))
  have HU2 := Lib.hid (HU.out.below b2)
  have HR2 := Lib.hid hr2.cellsP
  have hlt : w.heap.size < w2.heap.size := by omega
  clear x0 x1 b2 ho2 hr2 HG HU
  have hb3 : Below w2.heap.size w2 (w2.alloc (.cells #[.int .i64 dc, .slice a2 ps.length c2] 27 (0, 0))) := (Below.refl _ w2).alloc (Nat.le_refl _) _
  obtain ⟨z0, z1⟩ := two_cells w2 (.int .i64 dc) (.slice a2 ps.length c2) 27
  have HSm := Lib.hid (sameBlock_any (HR2.out.below hb3) (HU2.out.below hb3) (by omega) (by omega) dc dc)
  simp only [beq_self_eq_true, decide_true, Bool.and_self] at HSm
  have HB3 := Lib.hid (B2.out.alloc (by have := B2.out.size; omega) (.cells #[.int .i64 dc, .slice a2 ps.length c2] 27 (0, 0)))
  clear hb3
  go_wp2_with fail
  refine HSm.out.mono ?_
  rintro e w4 ⟨rfl, b4⟩
  have B4 := Lib.hid (HB3.out.trans (b4.mono HB3.out.size))
  clear b4
  go_wp2_with fail
  go_ret
  exact ⟨rfl, B4.out⟩

end Go.Proofs.YtbcfiafgolcbpaaGreatDoor

/- The laws' helpers flat, bits (praxinoscopelaw12). -/
namespace Go.Proofs.YtbcfiafgolcbpaaGreatDoor
open Go.RowKit Go.Shelf
set_option linter.unusedVariables false

/-- a row of one number that a call handed back, read -/
theorem own_allC {w : World} {base : Nat} {v : Value} {n : Nat} {x : Int} (h : OwnI w base v (List.replicate n x)) : ∃ a cap, v = .slice a n cap ∧ RowV w.heap.size w a n cap (intV (List.replicate n x)) := by
  obtain ⟨t, h⟩ := h
  have := rowV_own4 h
  simpa using this
set_option maxRecDepth 100000 in
set_option maxHeartbeats 2000000 in
theorem flat12_any (I : BlockI) {n₀ : Nat} {w : World} {av : Option Addr} {len cap : Nat} {ps : List (Int × Int)} (hR : RowP n₀ w av len cap ps) (hn : n₀ ≤ w.heap.size) (hlen : len ≤ 1000000) (hT : Lay8 w) (dc q want : Int) (h : residY dc ps q true = (0, List.replicate 64 want)) :
    Calls Tryz.prog 31 #[blkV dc (.slice av len cap), .int .i64 q, .int .i64 want] w fun e w' => e = .returned (.bool true) ∧ Below w.heap.size w w' := by
  have hb0 : Below w.heap.size w (w.alloc (.cells #[.int .i64 dc, .slice av len cap] 27 (0, 0))) := (Below.refl _ w).alloc (Nat.le_refl _) _
  have HP := Lib.hid (I.resid (hR.below (hb0.mono hn)) (Nat.le_trans hn hb0.size) hlen (hT.below hb0) dc q true)
  rw [h] at HP
  simp only at HP
  obtain ⟨x0, x1⟩ := two_cells w (.int .i64 dc) (.slice av len cap) 27
  have HB0 := Lib.hid hb0
  clear h hR hT hb0
  go_enter Tryz.func31, Tryz.ntmps31
  go_wp2_with fail
  refine HP.out.mono ?_
  rintro e w2 ⟨v, rfl, ho, b2⟩
  obtain ⟨a, c, rfl, hr⟩ := own_allC ho
  have HR := Lib.hid hr
  have HB2 := Lib.hid (HB0.out.trans (b2.mono HB0.out.size))
  clear ho b2 hr HP x0 x1
  go_wp2_with fail
  go_loop [9] (fun i => ∃ k : Nat, i = .int .i64 k ∧ k ≤ 64) (fun i => 64 - (intOf i).toNat)
  case atStart => exact ⟨0, rfl, by omega⟩
  case round =>
    obtain ⟨k, rfl, hk⟩ := hrel
    by_cases hk2 : k < 64
    · obtain ⟨b, off, rfl, hbl, hc⟩ := HR.out.cells (by omega)
      have x1 := hc k (.int .i64 want) (by unfold intV; rw [List.getElem?_map, List.getElem?_replicate, if_pos hk2]; rfl)
      have z1 : (k : Int) < 64 := by omega
      have e1 : (want != want) = false := by simp
      clear hc
      go_wp2_with fail
      go_round
      case rel => exact ⟨k + 1, by go_num, by omega⟩
      case measure => simp [intOf]; omega
    · obtain rfl : k = 64 := by omega
      go_wp2_with fail
      go_ret
      exact ⟨rfl, HB2.out⟩

set_option maxRecDepth 100000 in
set_option maxHeartbeats 2000000 in
theorem bits12_any (s : ByteArray) (hs : AllBits s) (m : Nat) (hm : s.size = m) (hm2 : m ≤ 100000) (w : World) :
    Calls Tryz.prog 32 #[.string s] w fun e w' => e = .returned (.bool true) ∧ w = w' := by
  have HS := Lib.hid hs
  clear hs
  go_enter Tryz.func32, Tryz.ntmps32
  go_wp2_with fail
  go_loop [3] (fun i => ∃ k : Nat, i = .int .i64 k ∧ k ≤ m) (fun i => m - (intOf i).toNat)
  case atStart => exact ⟨0, rfl, by omega⟩
  case round =>
    obtain ⟨k, rfl, hk⟩ := hrel
    by_cases hk2 : k < m
    · have z1 : (k : Int) < m := by omega
      have hks : k < s.size := by omega
      rcases HS.out k hks with h | h
      · have e1 : (s[k].toNat : Int) = 48 := by rw [h]; rfl
        clear h
        go_wp2_with fail
        go_round
        case rel => exact ⟨k + 1, by go_num, by omega⟩
        case measure => simp [intOf]; omega
      · have e1 : (s[k].toNat : Int) = 49 := by rw [h]; rfl
        clear h
        go_wp2_with fail
        go_round
        case rel => exact ⟨k + 1, by go_num, by omega⟩
        case measure => simp [intOf]; omega
    · obtain rfl : k = m := by omega
      go_wp2_with fail
      go_ret
      exact ⟨rfl, rfl⟩

end Go.Proofs.YtbcfiafgolcbpaaGreatDoor

/- The law's helper bytes (praxinoscopelaw12): a text and other bits behind it. -/
namespace Go.Proofs.YtbcfiafgolcbpaaGreatDoor
open Go.RowKit Go.Shelf
set_option linter.unusedVariables false

set_option maxRecDepth 100000 in
set_option maxHeartbeats 2000000 in
theorem bytes12_any {n₀ : Nat} {w : World} {a : Option Addr} {len cap : Nat} {ys : List Int} (h : RowV n₀ w a len cap (intV ys)) (hn₀ : n₀ ≤ w.heap.size) (hlen : len ≤ 100) (s : ByteArray) (hs : AllBits s) (m : Nat) (hsz : s.size = m) (hm : m ≤ 1500) :
    Calls Tryz.prog 33 #[.string s, .slice a len cap] w fun e w' => ∃ (zs : List UInt8) (v : Value), e = .returned v ∧ zs.length = (m + len + 7) / 8 ∧ w'.ownsRow w.heap.size 5 1 v zs.length (u8s zs) ∧ (∀ j (hj : j < s.size), s[j] = UInt8.ofNat (48 + bt zs j)) ∧ Below w.heap.size w w' := by
  obtain ⟨i2, hi2', hz20, hz21, hz22⟩ := info_parts Tryz.info3y
  have hl : ys.length = len := by have := h.1; simpa using this
  have HR := Lib.hid h
  have HS := Lib.hid hs
  clear h hs
  go_enter Tryz.func33, Tryz.ntmps33
  go_wp2_with fail
  go_loopw [5, 6] (fun v i wr => ∃ t : Nat, i = .int .i64 t ∧ t ≤ m ∧ wr.ownsRow w.heap.size 3 1 v t (intV (spell8 s t)) ∧ Below w.heap.size w wr) (fun _ i _ => m - (intOf i).toNat)
  case atStart => exact ⟨0, rfl, by omega, World.ownsRow_nil _ _ _ _, Below.refl _ _⟩
  case round =>
    obtain ⟨t, rfl, ht, ho, hb⟩ := hrel
    have HO := Lib.hid ho
    have HB := Lib.hid hb
    have hbs := hb.size
    clear ho hb
    by_cases htl : t < m
    · have hts : t < s.size := by omega
      have hat := at_list9 s hts
      rcases HS.out t hts with h | h
      · have e1 : (s[t].toNat : Int) = 48 := by rw [h]; rfl
        have HSn := Lib.hid (spell8_succ s t 0 (by rw [hat, h]; rfl))
        clear hat h
        go_wp2_with (at_builtin; refine wpList_append_v rfl _ _ 38 3 i2 (.int .i64 0) 8 rfl Tryz.underlying38y hi2' hz20 hz21 hz22 rfl w.heap.size _ t _ rfl (HO.out.alloc _) (some ⟨wr.heap.size, 0, none⟩) 1 1 [.int .i64 0] rfl (src_one _ _ _) (fun e => nomatch e) (by simp [Value.oneCell']) (by omega) (by omega) (by simp; omega) ?_; intro v1 w1 hap; have HA := Lib.hid hap; clear hap)
        go_roundw
        case rel =>
          refine ⟨t + 1, by go_num, by omega, ?_, ?_⟩
          · rw [← HSn.out]
            exact HA.out.1
          · exact (HB.out.alloc (by omega) _).grown HA.out.2.1 (by simp; omega) (fun j e => (HO.out.lt j e).1)
        case measure => simp [intOf]; omega
      · have e1 : (s[t].toNat : Int) = 49 := by rw [h]; rfl
        have HSn := Lib.hid (spell8_succ s t 1 (by rw [hat, h]; rfl))
        clear hat h
        go_wp2_with (at_builtin; refine wpList_append_v rfl _ _ 38 3 i2 (.int .i64 0) 8 rfl Tryz.underlying38y hi2' hz20 hz21 hz22 rfl w.heap.size _ t _ rfl (HO.out.alloc _) (some ⟨wr.heap.size, 0, none⟩) 1 1 [.int .i64 1] rfl (src_one _ _ _) (fun e => nomatch e) (by simp [Value.oneCell']) (by omega) (by omega) (by simp; omega) ?_; intro v1 w1 hap; have HA := Lib.hid hap; clear hap)
        go_roundw
        case rel =>
          refine ⟨t + 1, by go_num, by omega, ?_, ?_⟩
          · rw [← HSn.out]
            exact HA.out.1
          · exact (HB.out.alloc (by omega) _).grown HA.out.2.1 (by simp; omega) (fun j e => (HO.out.lt j e).1)
        case measure => simp [intOf]; omega
    · have htn : t = m := by omega
      subst htn
      have HSrc := Lib.hid (HR.out.below (HB.out.mono hn₀)).src
      go_wp2_with (at_builtin; refine wpList_append_v rfl _ _ 38 3 i2 (.int .i64 0) 8 rfl Tryz.underlying38y hi2' hz20 hz21 hz22 rfl w.heap.size _ t _ rfl HO.out a len cap (intV ys) rfl HSrc.out HR.out.nocap intV_one (by omega) (by omega) (by omega) ?_; intro v1 w1 hap; have HA := Lib.hid hap; clear hap; refine Hid.out ?_)
      refine Lib.hid ?_
      have hrow := HA.out.1
      have hb1 : Below w.heap.size w w1 := HB.out.grown HA.out.2.1 hbs (fun j e => (HO.out.lt j e).1)
      have HB1 := Lib.hid hb1
      have hs1 := hb1.size
      obtain ⟨a1, c1, rfl, hv⟩ := rowV_own4 hrow
      have hv2 : RowV w1.heap.size w1 a1 (t + len) c1 (intV (spell8 s t ++ ys)) := by
        have e : intV (spell8 s t ++ ys) = intV (spell8 s t) ++ intV ys := by simp
        rw [e]; exact hv
      have HK := Lib.hid (kbits_any hv2 (Nat.le_refl _) (by omega))
      clear hrow hb1 hv hv2
      go_wp2_with (go_at_call 52; refine HK.out.mono ?_; rintro e w2 ⟨zs, rfl, hzl, ho2, hd2, hb2⟩; have HO2 := Lib.hid ho2; have HD2 := Lib.hid hd2; have HB2 := Lib.hid hb2; clear ho2 hd2 hb2)
      go_ret
      refine ⟨zs, _, rfl, hzl, ?_, fun j hj => ?_, HB1.out.trans (HB2.out.mono hs1)⟩
      · rw [hzl]
        exact ownsRow_base HO2.out hs1
      · rw [HD2.out j (by omega), List.getElem?_append_left (by rw [spell8_length]; omega)]
        have e2 : (spell8 s t)[j]?.getD 0 = ((s[j]).toNat : Int) - 48 := by
          have h3 := at_list9 s hj
          simp only [spell8, List.getElem?_map, List.getElem?_range (show j < t by omega), Option.map_some, Option.getD_some]
          rw [h3]
        rw [e2]
        rcases HS.out j hj with h | h
        · rw [h]; rfl
        · rw [h]; rfl

end Go.Proofs.YtbcfiafgolcbpaaGreatDoor

/- The law's helper of (praxinoscopelaw12): a block of a first code and pairs. -/
namespace Go.Proofs.YtbcfiafgolcbpaaGreatDoor
open Go.RowKit Go.Shelf
set_option linter.unusedVariables false

/-- numbers two by two -/
def twoAt (xs : List Int) (j : Nat) : Int × Int := (xs[2 * j]?.getD 0, xs[2 * j + 1]?.getD 0)
def prsTo (xs : List Int) (m : Nat) : List (Int × Int) := (List.range m).map (twoAt xs)
theorem prsTo_length (xs : List Int) (m : Nat) : (prsTo xs m).length = m := by simp [prsTo]
theorem prsTo_succ (xs : List Int) (m : Nat) : prsTo xs (m + 1) = prsTo xs m ++ [twoAt xs m] := by simp [prsTo, List.range_succ]
theorem blk_zero : (Tryz.prog.info? 27).map (·.zero) = some (some (.agg #[.int .i64 0, .slice none 0 0])) := by kernel_rfl

set_option maxRecDepth 100000 in
set_option maxHeartbeats 2000000 in
theorem of12_any {n₀ : Nat} {w : World} {a : Option Addr} {len cap : Nat} {xs : List Int} (h : RowV n₀ w a len cap (intV xs)) (hn₀ : n₀ ≤ w.heap.size) (hlen : len ≤ 100) (dc : Int) :
    Calls Tryz.prog 29 #[.int .i64 dc, .slice a len cap] w fun e w' => ∃ v, e = .returned (blkV dc v) ∧ w'.ownsRow w.heap.size 66 2 v (len / 2) (cellsQ (prsTo xs (len / 2))) ∧ Below w.heap.size w w' := by
  have hl : xs.length = len := by have := h.1; simpa using this
  have HR := Lib.hid h
  clear h
  go_enter Tryz.func29, Tryz.ntmps29
  go_wp2_with fail
  have hS0 : Below w.heap.size w ((w.alloc (.cells #[.int .i64 0, .slice none 0 0] 27 (0, 0))).alloc (.cells #[.int .i64 dc, .slice none 0 0] 27 (0, 0))) := ((Below.refl _ w).alloc (Nat.le_refl _) _).alloc (by simp) _
  have hX0 : ((w.alloc (.cells #[.int .i64 0, .slice none 0 0] 27 (0, 0))).alloc (.cells #[.int .i64 dc, .slice none 0 0] 27 (0, 0))).heap[w.heap.size + 1]? = some (.cells #[.int .i64 dc, .slice none 0 0] 27 (0, 0)) := by
    have := World.alloc_heap_new (w.alloc (.cells #[.int .i64 0, .slice none 0 0] 27 (0, 0))) (.cells #[.int .i64 dc, .slice none 0 0] 27 (0, 0))
    rwa [World.size_alloc] at this
  have hZ0 : ((w.alloc (.cells #[.int .i64 0, .slice none 0 0] 27 (0, 0))).alloc (.cells #[.int .i64 dc, .slice none 0 0] 27 (0, 0))).heap[w.heap.size]? = some (.cells #[.int .i64 0, .slice none 0 0] 27 (0, 0)) := heap_keep (World.alloc_heap_new w _) _
  have hsz0 : w.heap.size + 2 ≤ ((w.alloc (.cells #[.int .i64 0, .slice none 0 0] 27 (0, 0))).alloc (.cells #[.int .i64 dc, .slice none 0 0] 27 (0, 0))).heap.size := by simp
  have HS0 := Lib.hid hS0
  have HX0 := Lib.hid hX0
  have HZ0 := Lib.hid hZ0
  clear hS0 hX0 hZ0
  generalize (w.alloc (.cells #[.int .i64 0, .slice none 0 0] 27 (0, 0))).alloc (.cells #[.int .i64 dc, .slice none 0 0] 27 (0, 0)) = w0 at *
  go_loopw [6] (fun i wr => ∃ (I j : Nat) (v : Value), i = .int .i64 (I : Int) ∧ I = 2 * j ∧ I ≤ len ∧ wr.heap[w.heap.size + 1]? = some (.cells #[.int .i64 dc, v] 27 (0, 0)) ∧ wr.heap[w.heap.size]? = some (.cells #[.int .i64 0, .slice none 0 0] 27 (0, 0)) ∧ wr.ownsRow (w.heap.size + 2) 66 2 v j (cellsQ (prsTo xs j)) ∧ w.heap.size + 2 ≤ wr.heap.size ∧ Below w.heap.size w wr) (fun i _ => len + 2 - (intOf i).toNat)
  case atStart => exact ⟨0, 0, .slice none 0 0, rfl, rfl, by omega, HX0.out, HZ0.out, World.ownsRow_nil _ _ _ _, hsz0, HS0.out⟩
  case round =>
    obtain ⟨I, j, v, rfl, hIj, hj, hX, hZ, ho, hsz, hb⟩ := hrel
    obtain ⟨av, cv, rfl, _⟩ := rowP_own ho
    have HX := Lib.hid hX
    have HZ := Lib.hid hZ
    have HO := Lib.hid ho
    have HB := Lib.hid hb
    have z2 : (0 : Int) ≤ I := by omega
    have hj60 : j ≤ 60 := by omega
    have HIj := Lib.hid hIj
    clear hIj
    by_cases hj2 : I + 1 < len
    · have z1 : (I : Int) + 1 < len := by omega
      have z3 : (I : Int) < len := by omega
      have z4 : (0 : Int) ≤ (I : Int) + 1 := by omega
      have e1 : IntKind.i64.wrap ((I : Int) + 1) = (I : Int) + 1 := by rw [IntKind.wrap_i64]; omega
      obtain ⟨b, off, rfl, hbl, hc⟩ := HR.out.cells (by omega)
      have x1 := (HB.out.cell (p := ⟨b, off + I, none⟩) (by simp; omega)).trans (hc I (.int .i64 (xs[I]?.getD 0)) (by simp [show I < xs.length by omega]))
      have x2 := (HB.out.cell (p := ⟨b, off + (I + 1), none⟩) (by simp; omega)).trans (hc (I + 1) (.int .i64 (xs[I + 1]?.getD 0)) (by simp [show I + 1 < xs.length by omega]))
      obtain ⟨i, hi, hz0, hz1, hz2⟩ := info_parts Tryz.info66z
      have y0 : wr.cell? ⟨w.heap.size + 1, 0, none⟩ = some (.int .i64 dc) := by simp [World.cell?, hX]
      have y1 : wr.cell? ⟨w.heap.size + 1, 1, none⟩ = some (.slice av j cv) := by simp [World.cell?, hX]
      have f1 : wr.frozen? ⟨w.heap.size + 1, 1, none⟩ = false := by simp [World.frozen?, hX]
      have hlt1 : w.heap.size + 1 < wr.heap.size := by omega
      have hlt2 : b < wr.heap.size := by omega
      have HSn := Lib.hid (prsTo_succ xs j)
      have HTw := Lib.hid (show twoAt xs j = (xs[I]?.getD 0, xs[I + 1]?.getD 0) by rw [HIj.out]; rfl)
      clear hc hX hZ ho hb HX0 HZ0 HS0
      generalize xs[I]?.getD 0 = x at *
      generalize xs[I + 1]?.getD 0 = y at *
      go_wp2_with fail
      go_region_law (refine step_append_where _ rfl _ _ 25 rfl (w.heap.size + 2) 66 i (.agg #[.int .i64 0, .int .i64 0]) 2 16 Tryz.underlying25z hi hz0 hz1 hz2 rfl (by decide) (.slice av j cv) j (cellsQ (prsTo xs j)) rfl ((HO.out.alloc _).drew) ⟨wr.heap.size, 0, none⟩ 1 1 [.int .i64 x, .int .i64 y] rfl rfl (src_two _ _ _ _) (by simp [Value.oneCell']) (by unfold maxLen; omega) (by omega) (by simp; omega) ?_; intro v' w1 hown' hgrow hwh; have hk1 : w1.heap[w.heap.size + 1]? = some (.cells #[.int .i64 dc, .slice av j cv] 27 (0, 0)) := (hgrow.block _ (by simp <;> omega) (fun e => by have := (HO.out.lt _ e.symm).1; omega)).trans (heap_keep HX.out _); have hk2 : w1.heap[w.heap.size]? = some (.cells #[.int .i64 0, .slice none 0 0] 27 (0, 0)) := (hgrow.block _ (by simp <;> omega) (fun e => by have := (HO.out.lt _ e.symm).1; omega)).trans (heap_keep HZ.out _); have y9 : w1.cell? ⟨w.heap.size + 1, 1, none⟩ = some (.slice av j cv) := (by simp [World.cell?, hk1]); have f9 : w1.frozen? ⟨w.heap.size + 1, 1, none⟩ = false := (by simp [World.frozen?, hk1]); obtain ⟨av', cv', rfl, _⟩ := rowP_own (ps := prsTo xs j ++ [(x, y)]) (by rw [cellsQ_append]; exact hown'); have HK1 := Lib.hid hk1; have HK2 := Lib.hid hk2; clear hk1 hk2; have HO1 := Lib.hid hown'; have HG1 := Lib.hid hgrow; clear hown' hgrow hwh)
      all_goals
        have hown := HO1.out
        have hgr := HG1.out
        have hb1 : Below w.heap.size w w1 := ((HB.out.alloc (by omega) (.cells #[.int .i64 x, .int .i64 y] 66 (0, 0))).drew).grown hgr (by simp; omega) (fun k e => by have := (HO.out.lt k e).1; omega)
        have hsz1 : w.heap.size + 2 ≤ w1.heap.size := by have := hgr.size; simp at this; omega
        have HB1 := Lib.hid hb1
        clear hgr hb1
        go_wp2
        go_roundw
        case rel =>
          refine ⟨I + 2, j + 1, .slice av' (j + 1) cv', by go_num, by have := HIj.out; omega, by omega, ?_, (heap_setCell_other _ _ _ _ (by simp)).trans HK2.out, ?_, by simpa using hsz1, HB1.out.setCell (p := ⟨w.heap.size + 1, 1, none⟩) (by simp) _⟩
          · rw [heap_setCell_same _ (w.heap.size + 1) 1 _ _ _ HK1.out]
            rfl
          · rw [HSn.out, HTw.out, cellsQ_append]
            refine ownsRow_barN (S := fun k => k = w.heap.size + 1) hown (Bar.setCell (S := fun k => k = w.heap.size + 1) (Bar.refl (fun k => k = w.heap.size + 1) w1) (p := ⟨w.heap.size + 1, 1, none⟩) (fun _ => rfl) (.slice av' (j + 1) cv')) (fun k e => by have := (hown.lt k e).1; omega)
        case measure => simp [intOf]; omega
    · have z1 : ¬ (I : Int) + 1 < len := by omega
      have c0 : wr.cell? ⟨w.heap.size, 0, none⟩ = some (.int .i64 0) := by simp [World.cell?, hZ]
      have c1 : wr.cell? ⟨w.heap.size, 1, none⟩ = some (.slice none 0 0) := by simp [World.cell?, hZ]
      have f0 : wr.frozen? ⟨w.heap.size, 0, none⟩ = false := by simp [World.frozen?, hZ]
      have f1 : wr.frozen? ⟨w.heap.size, 1, none⟩ = false := by simp [World.frozen?, hZ]
      have y0 : wr.cell? ⟨w.heap.size + 1, 0, none⟩ = some (.int .i64 dc) := by simp [World.cell?, hX]
      have y1 : wr.cell? ⟨w.heap.size + 1, 1, none⟩ = some (.slice av j cv) := by simp [World.cell?, hX]
      have hlt : w.heap.size < wr.heap.size := by omega
      have hjl : len / 2 = j := by have := HIj.out; omega
      have HJl := Lib.hid hjl
      clear hX hZ ho hb HX0 HZ0 HS0 hjl
      go_wp2_with fail
      refine bodyPost_ret (v := blkV dc (.slice av j cv)) (by simp [results, Tryz.f29, go_sem, c0, c1]) rfl ⟨_, rfl, ?_, ?_⟩
      · rw [HJl.out]
        exact ownsRow_baseN (ownsRow_barN (S := fun k => k = w.heap.size) HO.out ((Bar.setCell (S := fun k => k = w.heap.size) (Bar.setCell (S := fun k => k = w.heap.size) (Bar.refl (fun k => k = w.heap.size) wr) (p := ⟨w.heap.size, 0, none⟩) (fun _ => rfl) (.int .i64 dc)) (p := ⟨w.heap.size, 1, none⟩) (fun _ => rfl) (.slice av j cv))) (fun k e => by have := (HO.out.lt k e).1; omega)) (by omega)
      · exact (HB.out.setCell (p := ⟨w.heap.size, 0, none⟩) (Nat.le_refl _) _).setCell (p := ⟨w.heap.size, 1, none⟩) (Nat.le_refl _) _

end Go.Proofs.YtbcfiafgolcbpaaGreatDoor

/- awake, and the walk of BlockKnown (praxinoscopelaw12). -/
namespace Go.Proofs.YtbcfiafgolcbpaaGreatDoor
open Go.RowKit Go.Shelf
set_option linter.unusedVariables false

theorem of12_nil (w : World) (dc : Int) : Calls Tryz.prog 29 #[.int .i64 dc, .slice none 0 0] w fun e w' => ∃ av cv, e = .returned (blkV dc (.slice av 0 cv)) ∧ RowP w'.heap.size w' av 0 cv [] ∧ Below w.heap.size w w' := by
  have h := of12_any (n₀ := 0) (w := w) (a := none) (len := 0) (cap := 0) (xs := []) ⟨rfl, Nat.le_refl _, by omega, .inl rfl⟩ (Nat.zero_le _) (by omega) dc
  refine Calls.mono h ?_
  rintro e w' ⟨v, rfl, ho, hb⟩
  obtain ⟨av, cv, rfl, hr⟩ := rowP_own (ps := []) ho
  exact ⟨av, cv, rfl, hr, hb⟩
theorem of12_lit (w : World) (dc : Int) (xs : List Int) (cs : Array Value) (n : Nat) (ps : List (Int × Int)) (m : Nat) (hcs : cs = (intV xs).toArray) (hn : xs.length = n) (hn2 : n ≤ 100) (hps : prsTo xs (n / 2) = ps) (hm : n / 2 = m) :
    Calls Tryz.prog 29 #[.int .i64 dc, .slice (some ⟨w.heap.size, 0, none⟩) n n] (w.alloc (.cells cs 3 (0, 0))) fun e w' => ∃ av cv, e = .returned (blkV dc (.slice av m cv)) ∧ RowP w'.heap.size w' av m cv ps ∧ Below w.heap.size w w' := by
  subst hcs
  have h := of12_any (rowV_new w (intV xs) 3 n (by simpa using hn) (by omega)) (Nat.le_refl _) hn2 dc
  rw [hps, hm] at h
  refine Calls.mono h ?_
  rintro e w' ⟨v, rfl, ho, hb⟩
  obtain ⟨av, cv, rfl, hr⟩ := rowP_own ho
  exact ⟨av, cv, rfl, hr, ((Below.refl _ w).alloc (Nat.le_refl _) _).trans (hb.mono (by simp))⟩
theorem gets12_lit (I : BlockI) (W : World) (hT : Lay8 W) (zs : List UInt8) (cs : Array Value) (len : Nat) (hcs : cs = (zs.map fun z => Value.int .u8 z.toNat).toArray) (hlen : zs.length = len) (hl : len ≤ 1000) (intra : Bool) {av : Option Addr} {n cv : Nat} {ps : List (Int × Int)} (hu : RowP W.heap.size W av n cv ps) (hps : n ≤ 1000) (dc many err : Int)
    (h : gotY zs 0 intra = ⟨dc, ps, many, err⟩) (t : TypeId) :
    Calls Tryz.prog 30 #[.bool intra, blkV dc (.slice av n cv), .int .i64 many, .int .i64 err, .slice (some ⟨W.heap.size, 0, none⟩) len len] (W.alloc (.cells cs t)) fun e w' => e = .returned (.bool true) ∧ Below W.heap.size W w' := by
  subst hlen
  have hb : Below W.heap.size W (W.alloc (.cells cs t)) := (Below.refl _ _).alloc (Nat.le_refl _) _
  have hn : ps.length = n := hu.1
  refine (gets12_any I (byt_new W zs cs zs.length hcs (by omega) (W.heap.size + 1) (by omega) t) (by simp) (by omega) (hT.below hb) intra (hu.cellsP.below hb) (by omega) dc many err h).mono ?_
  rintro e w' ⟨rfl, hb2⟩
  exact ⟨rfl, below_chain hb (Nat.le_refl _) hb2⟩

theorem check12_lit (I : BlockI) {n₀ : Nat} {w : World} {av : Option Addr} {len cap : Nat} {ps : List (Int × Int)} (hR : RowP n₀ w av len cap ps) (hn : n₀ ≤ w.heap.size) (hlen : len ≤ 1000000) (hT : Lay8 w) (dc : Int) (intra : Bool) (want : Int) (h : chkY dc ps intra = want) :
    Calls Tryz.prog 23 #[blkV dc (.slice av len cap), .bool intra] w fun e w' => e = .returned (.int .i64 want) ∧ Below w.heap.size w w' := by
  have := I.check hR hn hlen hT dc intra
  rwa [h] at this

set_option maxRecDepth 100000 in
set_option maxHeartbeats 4000000 in
theorem awake12_any (I : BlockI) (w : World) (hT : Lay8 w) : Calls Tryz.prog 10 #[] w fun e w' => e = .returned (.bool true) ∧ Below w.heap.size w w' := by
  have B0 := Lib.hid (Below.refl w.heap.size w)
  have T0 := Lib.hid hT
  replace hT := Lib.hid hT
  go_enter Tryz.func10, Tryz.ntmps10
  go_wp2_with fail
  refine (of12_nil w 5).mono ?_
  rintro e w1 ⟨av, cv, rfl, hr, b⟩
  have R := Lib.hid hr
  clear hr
  have B1 := Lib.hid (below_chain B0.out (Nat.le_refl _) b)
  have T1 := Lib.hid (hT.out.below B1.out)
  clear b
  go_wp2_with fail
  refine (puts12_any I R.out (Nat.le_refl _) (by omega) T1.out 5 true ⟨#[48, 48, 48, 48, 48, 49, 48, 49, 49, 48]⟩ 0 (by decide +kernel) (by decide +kernel)).mono ?_
  rintro e w2 ⟨rfl, b⟩
  have B2 := Lib.hid (below_chain B1.out (Nat.le_refl _) b)
  have T2 := Lib.hid (hT.out.below B2.out)
  clear b
  go_wp2_with fail
  refine (of12_lit w2 0 [0, 1, 0, 1] _ 4 [(0, 1), (0, 1)] 2 rfl rfl (by omega) (by decide +kernel) (by decide)).mono ?_
  rintro e w3 ⟨av, cv, rfl, hr, b⟩
  have R := Lib.hid hr
  clear hr
  have B3 := Lib.hid (below_chain B2.out (Nat.le_refl _) b)
  have T3 := Lib.hid (hT.out.below B3.out)
  clear b
  go_wp2_with fail
  refine (gets12_lit I w3 T3.out [180] _ 1 rfl rfl (by omega) false R.out (by omega) 0 7 0 (by kernel_rfl) _).mono ?_
  rintro e w4 ⟨rfl, b⟩
  have B4 := Lib.hid (below_chain B3.out (Nat.le_refl _) b)
  have T4 := Lib.hid (hT.out.below B4.out)
  clear b
  go_wp2_with fail
  refine (of12_lit w4 1 [63, 1] _ 2 [(63, 1)] 1 rfl rfl (by omega) (by decide +kernel) (by decide)).mono ?_
  rintro e w5 ⟨av, cv, rfl, hr, b⟩
  have R := Lib.hid hr
  clear hr
  have B5 := Lib.hid (below_chain B4.out (Nat.le_refl _) b)
  have T5 := Lib.hid (hT.out.below B5.out)
  clear b
  go_wp2_with fail
  refine (check12_lit I R.out (Nat.le_refl _) (by omega) T5.out 1 true 11 (by decide +kernel)).mono ?_
  rintro e w6 ⟨rfl, b⟩
  have B6 := Lib.hid (below_chain B5.out (Nat.le_refl _) b)
  have T6 := Lib.hid (hT.out.below B6.out)
  clear b
  go_wp2_with fail
  refine (of12_nil w6 5).mono ?_
  rintro e w7 ⟨av, cv, rfl, hr, b⟩
  have R := Lib.hid hr
  clear hr
  have B7 := Lib.hid (below_chain B6.out (Nat.le_refl _) b)
  have T7 := Lib.hid (hT.out.below B7.out)
  clear b
  go_wp2_with fail
  refine (flat12_any I R.out (Nat.le_refl _) (by omega) T7.out 5 7 5 (flatY (by decide +kernel) (by decide +kernel))).mono ?_
  rintro e w8 ⟨rfl, b⟩
  have B8 := Lib.hid (below_chain B7.out (Nat.le_refl _) b)
  have T8 := Lib.hid (hT.out.below B8.out)
  clear b
  go_wp2_with fail
  go_ret
  exact ⟨rfl, B8.out⟩

end Go.Proofs.YtbcfiafgolcbpaaGreatDoor
