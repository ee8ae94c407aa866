/- paint: Clip, Grey, Add, Flat, and what they stand on (praxinoscope/paint). -/
import Derived.Test.YtenplmmongphoaaTLaw
import Derived.Test.YtenplmmongphoaaTRep
import Derived.Test.YtenplmmongphoaaTPut
import Derived.Test.YtenplmmongphoaaQTail
import Derived.Lib.MinMax
namespace Go.Proofs.Ytenplmmongphoaa
open Go.RowKit Go.Shelf Go.Sort
set_option linter.unusedVariables false

theorem tclip_any (n : Int) (W : World) : Calls Try.prog 17 #[.int .i64 n] W fun e W' => e = .returned (.int .u8 (((clB n).toNat : Nat) : Int)) ∧ W = W' := by
  have hv : min (max n 0) 255 = (((clB n).toNat : Nat) : Int) := by rw [clB_val]; rfl
  generalize clB n = z at *
  have hz := z.toNat_lt
  have e1 : IntKind.u8.wrap ((z.toNat : Nat) : Int) = ((z.toNat : Nat) : Int) := by rw [IntKind.wrap_u8]; omega
  go_enter Try.func17, Try.ntmps17
  go_wp2
  go_ret
  exact ⟨rfl, rfl⟩

theorem tsum_any (z : UInt8) (y : Int) (h : -1048576 ≤ y ∧ y ≤ 1048576) (W : World) : Calls Try.prog 39 #[.int .u8 ((z.toNat : Nat) : Int), .int .i64 y] W fun e W' => e = .returned (.int .u8 (((clB (((z.toNat : Nat) : Int) + y)).toNat : Nat) : Int)) ∧ W = W' := by
  have HC := Lib.hid (fun W => tclip_any (((z.toNat : Nat) : Int) + y) W)
  have hz := z.toNat_lt
  generalize clB (((z.toNat : Nat) : Int) + y) = c at *
  generalize hn : z.toNat = n at *
  clear hn
  go_enter Try.func39, Try.ntmps39
  go_wp2_with fail
  refine (HC.out _).mono ?_
  rintro e w1 ⟨rfl, rfl⟩
  go_wp2
  go_ret
  exact ⟨rfl, rfl⟩

set_option maxRecDepth 100000 in
set_option maxHeartbeats 2000000 in
theorem tgrey_any (f : Int) (W : World) : Calls Try.prog 28 #[.int .i64 f] W fun e W' => ∃ v, e = .returned v ∧ GotB W' W.heap.size v (greyL f) ∧ Below W.heap.size W W' := by
  have HS := Lib.hid (fun W => size13_ans f W)
  by_cases hf : isF f = true
  · have hE : sE f = 0 := if_pos hf
    rw [hE] at HS
    obtain ⟨n, hn, hn2⟩ : ∃ n : Nat, sN f = (n : Int) ∧ (n = 38016 ∨ n = 152064) := by
      unfold isF at hf
      simp only [Bool.or_eq_true, beq_iff_eq] at hf
      rcases hf with rfl | rfl
      · exact ⟨38016, by decide, .inl rfl⟩
      · exact ⟨152064, by decide, .inr rfl⟩
    have hg : greyL f = List.replicate n 128 := by unfold greyL; rw [hn]; rfl
    rw [hn] at HS
    rw [hg]
    obtain ⟨W1, hW1⟩ : ∃ W1, W.alloc (.cells #[.int .u8 128] 5 (0, 0)) = W1 := ⟨_, rfl⟩
    have hz1 : W1.heap.size = W.heap.size + 1 := by rw [← hW1]; simp
    have hb1 : Below W.heap.size W W1 := by rw [← hW1]; exact (Below.refl _ W).alloc (Nat.le_refl _) _
    have HR := Lib.hid (brepeat_any (W := W1) (b := W.heap.size) (x := 128) (by rw [← hW1]; exact World.alloc_heap_new W _) n hn2)
    rw [hz1] at HR
    have HB1 := Lib.hid hb1
    clear hn hg hE hf hn2 hz1 hb1
    go_enter Try.func28, Try.ntmps28
    go_wp2_with fail
    refine (HS.out _).mono ?_
    rintro e w1 ⟨rfl, rfl⟩
    go_wp2_with fail
    refine HR.out.mono ?_
    rintro e w2 ⟨rfl, ⟨rest, hp⟩, hb2⟩
    have HP := Lib.hid hp
    have HB2 := Lib.hid (HB1.out.trans (hb2.mono (by omega)))
    clear hp hb2
    go_wp2_with fail
    go_ret
    exact ⟨.slice (some ⟨W.heap.size + 1, 0, none⟩) n n, rfl, ⟨some ⟨W.heap.size + 1, 0, none⟩, n, by rw [List.length_replicate], by rw [List.length_replicate]; exact Nat.le_refl _, .inr ⟨W.heap.size + 1, rest, rfl, by omega, HP.out⟩⟩, HB2.out⟩
  · have hE : sE f = 3 := if_neg hf
    have hN : greyL f = [] := by
      unfold greyL sN
      have h := isF_no (by simpa using hf)
      have n0 : f ≠ 0 := by simpa using h.1
      have n1 : f ≠ 1 := by simpa using h.2
      rw [if_neg n0, if_neg n1]
      rfl
    rw [hE] at HS
    rw [hN]
    go_enter Try.func28, Try.ntmps28
    go_wp2_with fail
    refine (HS.out _).mono ?_
    rintro e w1 ⟨rfl, rfl⟩
    go_wp2
    go_ret
    exact ⟨_, rfl, ⟨none, 0, rfl, Nat.le_refl _, .inl rfl⟩, Below.refl _ _⟩

theorem tisRes_any {n₀ : Nat} {w : World} {av : Option Addr} {cap : Nat} {xs : List Int} (hR : RowV n₀ w av 64 cap (intV xs)) :
    Calls Try.prog 37 #[.slice av 64 cap] w fun e w' => e = .returned (.bool (xs.all (okNC (-1048576) 1048576))) ∧ w = w' := by
  have hl : xs.length = 64 := by have := hR.1; simpa using this
  obtain ⟨b, off, rfl, hbl, hc⟩ := hR.cells (by omega)
  have HX := Lib.hid (fun j (hj : j < 64) => (hc j (.int .i64 (nthC xs j)) (by simp [nthC, show j < xs.length by omega])))
  cases hall : xs.all (okNC (-1048576) 1048576) with
  | false =>
    have HNo : Hid (¬ ∀ j, j < 64 → -1048576 ≤ nthC xs j ∧ nthC xs j ≤ 1048576) := fun h => by
      rw [(allC_iff xs _ _).2 (fun j hj => (okNC_iff _ _ _).2 (h j (by omega)))] at hall
      cases hall
    clear hR hc hall
    go_enter Try.func37, Try.ntmps37
    go_wp2
    go_loopw [7] (fun i wr => ∃ k : Nat, i = .int .i64 k ∧ k ≤ 64 ∧ w = wr ∧ ∀ j, j < k → -1048576 ≤ nthC xs j ∧ nthC xs j ≤ 1048576) (fun i _ => 64 - (intOf i).toNat)
    case atStart => exact ⟨0, rfl, by omega, rfl, fun j hj => by omega⟩
    case round =>
      obtain ⟨i, rfl, hi, rfl, hok⟩ := hrel
      by_cases hi2 : i < 64
      · have z1 : (i : Int) < 64 := by omega
        have z0 : (0 : Int) ≤ i := by omega
        have x1 := HX.out i hi2
        have HOk : Hid ((-1048576 ≤ nthC xs i ∧ nthC xs i ≤ 1048576) → ∀ j, j < i + 1 → -1048576 ≤ nthC xs j ∧ nthC xs j ≤ 1048576) := fun h j hj => by
          by_cases e : j = i
          · rw [e]; exact h
          · exact hok j (by omega)
        clear hok
        generalize nthC xs i = y at *
        by_cases b1 : y < -1048576
        · clear HOk
          go_wp2_with fail
          go_ret
          exact ⟨rfl, rfl⟩
        · by_cases b2 : 1048576 < y
          · clear HOk
            go_wp2_with fail
            go_ret
            exact ⟨rfl, rfl⟩
          · have HOk2 := Lib.hid (HOk.out ⟨by omega, by omega⟩)
            clear HOk
            go_wp2_with fail
            go_roundw
            case rel => exact ⟨i + 1, by go_num, by omega, trivial, HOk2.out⟩
            case measure => simp [intOf]; omega
      · obtain rfl : i = 64 := by omega
        exact absurd hok HNo.out
  | true =>
    have hbd : ∀ j, j < 64 → -1048576 ≤ nthC xs j ∧ nthC xs j ≤ 1048576 := fun j hj => (okNC_iff _ _ _).1 ((allC_iff _ _ _).1 hall j (by omega))
    have HBd := Lib.hid hbd
    clear hR hc hall hbd
    go_enter Try.func37, Try.ntmps37
    go_wp2
    go_loopw [7] (fun i wr => ∃ k : Nat, i = .int .i64 k ∧ k ≤ 64 ∧ w = wr) (fun i _ => 64 - (intOf i).toNat)
    case atStart => exact ⟨0, rfl, by omega, rfl⟩
    case round =>
      obtain ⟨i, rfl, hi, rfl⟩ := hrel
      by_cases hi2 : i < 64
      · have z1 : (i : Int) < 64 := by omega
        have z0 : (0 : Int) ≤ i := by omega
        have x1 := HX.out i hi2
        obtain ⟨b1, b2⟩ := HBd.out i hi2
        generalize nthC xs i = y at *
        go_wp2_with fail
        go_roundw
        case rel => exact ⟨i + 1, by go_num, by omega, trivial⟩
        case measure => simp [intOf]; omega
      · obtain rfl : i = 64 := by omega
        go_wp2_with fail
        go_ret
        exact ⟨rfl, rfl⟩

set_option maxRecDepth 100000 in
set_option maxHeartbeats 4000000 in
/-- the sums put into a row, one after another -/
theorem tcombine_any {W : World} {g b off b2 off2 cap cap2 : Nat} {zs : List UInt8} {rs : List Int} (hg : BytR W g zeroB64) (hc : ∀ j, j < 64 → W.cell? ⟨b, off + j, none⟩ = some (.int .u8 ((zs[j]?.getD 0).toNat))) (hc2 : ∀ j, j < 64 → W.cell? ⟨b2, off2 + j, none⟩ = some (.int .i64 (nthC rs j)))
    (hbg : b ≠ g) (hbg2 : b2 ≠ g) (hbl : b < W.heap.size) (hbl2 : b2 < W.heap.size) (hbd : ∀ j, j < 64 → -1048576 ≤ nthC rs j ∧ nthC rs j ≤ 1048576) :
    Calls Try.prog 38 #[.slice (some ⟨g, 0, none⟩) 64 64, .slice (some ⟨b, off, none⟩) 64 cap, .slice (some ⟨b2, off2, none⟩) 64 cap2, .func (.func 39) #[] #[]] W fun e W' => e = .returned (.tuple #[]) ∧ BytR W' g (upU (adB zs rs) 64) ∧ Bar (fun k => k = g) W W' := by
  have HX : Hid (∀ W', Bar (fun k => k = g) W W' → ∀ j, j < 64 → W'.cell? ⟨b, off + j, none⟩ = some (.int .u8 ((zs[j]?.getD 0).toNat))) := fun W' h j hj => (h.cellC (p := ⟨b, off + j, none⟩) (by simpa using hbl) (by simpa using hbg)).trans (hc j hj)
  have HY : Hid (∀ W', Bar (fun k => k = g) W W' → ∀ j, j < 64 → W'.cell? ⟨b2, off2 + j, none⟩ = some (.int .i64 (nthC rs j))) := fun W' h j hj => (h.cellC (p := ⟨b2, off2 + j, none⟩) (by simpa using hbl2) (by simpa using hbg2)).trans (hc2 j hj)
  have HSu : Hid (∀ k, k < 64 → ∀ W', Calls Try.prog 39 #[.int .u8 (((zs[k]?.getD 0).toNat : Nat) : Int), .int .i64 (nthC rs k)] W' fun e W'' => e = .returned (.int .u8 (((adB zs rs k).toNat : Nat) : Int)) ∧ Below W'.heap.size W' W'') := fun k hk W' => (tsum_any _ _ (hbd k hk) W').mono (by
    rintro e W'' ⟨rfl, rfl⟩
    exact ⟨rfl, Below.refl _ _⟩)
  have HG := Lib.hid hg
  have HSt := Lib.hid (fun k hk => @upU_step (adB zs rs) k hk)
  have HU0 := Lib.hid (upU_zero (adB zs rs))
  clear hg hc hc2 hbg hbg2 hbl hbl2 hbd
  go_enter Try.func38, Try.ntmps38
  go_wp2_with fail
  go_loopw [11] (fun i wr => ∃ k : Nat, i = .int .i64 (k : Int) ∧ k ≤ 64 ∧ BytR wr g (upU (adB zs rs) k) ∧ Bar (fun q => q = g) W wr) (fun i _ => 64 - (intOf i).toNat)
  case atStart => exact ⟨0, rfl, by omega, by rw [HU0.out]; exact HG.out, Bar.refl _ _⟩
  case round =>
    obtain ⟨k, rfl, hk, hO, hB⟩ := hrel
    have HO := Lib.hid hO
    have HB := Lib.hid hB
    clear hO hB
    by_cases hk2 : k < 64
    · have z1 : (k : Int) < 64 := by omega
      have z0 : (0 : Int) ≤ k := by omega
      have x1 := HX.out _ HB.out k hk2
      have x2 := HY.out _ HB.out k hk2
      have hsu := HSu.out k hk2
      have hst := HSt.out k hk2
      generalize adB zs rs k = c at *
      generalize zs[k]?.getD 0 = z at *
      generalize nthC rs k = y at *
      have C1 : ∀ d' os, Calls Try.prog 39 #[.int .u8 ((z.toNat : Nat) : Int), .int .i64 y] (Sort.grow (redrawn wr d') os) fun e w'' => e = .returned (.int .u8 ((c.toNat : Nat) : Int)) ∧ ∃ p : Regrown, w'' = Sort.grow (redrawn wr p.d) p.os := fun d' os => Calls.regrown_of (hsu _)
      have y1 : ∀ d' os, (Sort.grow (redrawn wr d') os).cell? ⟨b, off + k, none⟩ = some (.int .u8 ((z.toNat : Nat) : Int)) := fun d' os => cell_regrown x1 d' os
      have y2 : ∀ d' os, (Sort.grow (redrawn wr d') os).cell? ⟨b2, off2 + k, none⟩ = some (.int .i64 y) := fun d' os => cell_regrown x2 d' os
      have HStk := Lib.hid hst
      clear x1 x2 hsu hst
      go_wp2
      refine wp_region_below_tail 13 (by kernel_rfl) (by kernel_rfl) ?_
      simp only [List.take_succ_cons, List.take_zero, List.drop_succ_cons, List.drop_zero]
      iterate 13 quiet_step ((go_at_call 39; with_reducible exact C1 _ _))
      refine wpQuiet_nil ?_
      rintro _ ⟨⟨dq, osq⟩, rfl⟩
      have b4 := below_regrown wr dq osq
      have HB4 := Lib.hid (HB.out.thenBelow b4 HB.out.size)
      have HO4 := Lib.hid (HO.out.below b4 HO.out.lt)
      have c4 := HO4.out.cell (k := k) (by rw [upU_length]; omega)
      have f4 := HO4.out.frozen k
      clear C1 y1 y2 b4
      generalize Sort.grow (redrawn wr dq) osq = w4 at *
      go_wp2_with fail
      go_roundw
      case rel => exact ⟨k + 1, by go_num, by omega, by rw [← HStk.out]; exact HO4.out.set k c, HB4.out.setCell (p := ⟨g, k, none⟩) (fun _ => rfl) _⟩
      case measure => simp [intOf]; omega
    · obtain rfl : k = 64 := by omega
      go_wp2_with fail
      exact bodyPost_end (results_none rfl _ _ _) rfl ⟨rfl, HO.out, HB.out⟩

theorem upU_all (F : Nat → UInt8) : upU F 64 = (List.range 64).map F := by
  unfold upU
  apply List.map_congr_left
  intro j hj
  rw [if_pos (by simpa using hj)]

set_option maxRecDepth 100000 in
set_option maxHeartbeats 4000000 in
theorem tadd_any {n₀ n₁ : Nat} {w : World} {sv : Value} {zs : List UInt8} {av : Option Addr} {len cap2 : Nat} {rs : List Int} (hB : Byt n₀ w sv zs) (hn : n₀ ≤ w.heap.size) (hR : RowV n₁ w av len cap2 (intV rs)) (hn₁ : n₁ ≤ w.heap.size) (hlen : len ≤ 1000000) :
    Calls Try.prog 12 #[sv, .slice av len cap2] w fun e w' => ∃ v, e = .returned (.tuple #[v, .int .i64 (adE zs.length rs)]) ∧ w'.ownsRow w.heap.size 5 1 v (adL zs rs).length (u8s (adL zs rs)) ∧ Below w.heap.size w w' := by
  have hl : rs.length = len := by have := hR.1; simpa using this
  obtain ⟨a', cap, rfl, hzl, hcell⟩ := hB
  rcases adE_cases zs.length rs with ⟨hn2, he⟩ | ⟨h8, h8', hall, he⟩ | ⟨h8, h8', hall, he⟩
  · have hL : adL zs rs = [] := by unfold adL; rw [if_neg (by omega)]
    rw [hL, he]
    by_cases h1 : zs.length = 64
    · have t1 : ((zs.length : Int) != 64) = false := by simp; omega
      have t2 : ((len : Int) != 64) = true := by simp; omega
      clear hcell hR
      go_enter Try.func12, Try.ntmps12
      go_wp2
      go_ret2
      exact ⟨.slice none 0 0, rfl, World.ownsRow_nil _ _ _ _, Below.refl _ _⟩
    · have t1 : ((zs.length : Int) != 64) = true := by simp; omega
      clear hcell hR
      go_enter Try.func12, Try.ntmps12
      go_wp2
      go_ret2
      exact ⟨.slice none 0 0, rfl, World.ownsRow_nil _ _ _ _, Below.refl _ _⟩
  · have hL : adL zs rs = [] := by unfold adL; rw [if_neg (by omega)]
    rw [hL, he]
    obtain rfl : len = 64 := by omega
    have HI := Lib.hid (tisRes_any hR)
    rw [hall] at HI
    rw [h8]
    clear hcell hR hall he hL
    go_enter Try.func12, Try.ntmps12
    go_wp2_with fail
    refine HI.out.mono ?_
    rintro e w1 ⟨rfl, rfl⟩
    go_wp2
    go_ret2
    exact ⟨.slice none 0 0, rfl, World.ownsRow_nil _ _ _ _, Below.refl _ _⟩
  · have hL : adL zs rs = upU (adB zs rs) 64 := by unfold adL; rw [if_pos he, upU_all]
    rw [hL, he, upU_length]
    obtain rfl : len = 64 := by omega
    have HI := Lib.hid (tisRes_any hR)
    rw [hall] at HI
    obtain ⟨b2, off2, rfl, hbl2, hc2⟩ := hR.cells (by omega)
    rcases hcell with e | ⟨b, off, rfl, hbl, hc⟩
    · rw [e] at h8; cases h8
    have hbd : ∀ j, j < 64 → -1048576 ≤ nthC rs j ∧ nthC rs j ≤ 1048576 := fun j hj => (okNC_iff _ _ _).1 ((allC_iff _ _ _).1 hall j (by omega))
    have hmk := made64b w
    have hN := bytR_new w zeroB64
    have hb1 : Below w.heap.size w (w.alloc (.cells (u8s zeroB64).toArray 5 (0, 0))) := (Below.refl _ _).alloc (Nat.le_refl _) _
    generalize w.alloc (.cells (u8s zeroB64).toArray 5 (0, 0)) = w1 at *
    have HCo := Lib.hid (tcombine_any (cap := cap) (cap2 := cap2) hN (fun j hj => (hb1.cell (p := ⟨b, off + j, none⟩) (by simp; omega)).trans (hc j (by omega))) (fun j hj => (hb1.cell (p := ⟨b2, off2 + j, none⟩) (by simp; omega)).trans (hc2 j (.int .i64 (nthC rs j)) (by simp [nthC, show j < rs.length by omega]))) (by omega) (by omega) (by have := hb1.size; omega) (by have := hb1.size; omega) hbd)
    have HB1 := Lib.hid hb1
    rw [h8]
    clear hR hc hc2 hall he hL hbd hN hb1
    go_enter Try.func12, Try.ntmps12
    go_wp2_with fail
    refine HI.out.mono ?_
    rintro e w1 ⟨rfl, rfl⟩
    go_wp2_with fail
    refine HCo.out.mono ?_
    rintro e w2 ⟨rfl, hn2, hb2⟩
    have HOw := Lib.hid (hn2.own (upU_length _ _) (by omega) (Nat.le_refl _))
    have HB2 := Lib.hid (HB1.out.trans (hb2.below HB1.out.size (fun j hj e => by omega)))
    clear hn2 hb2 HCo hmk
    go_wp2
    go_ret2
    exact ⟨_, rfl, HOw.out, HB2.out⟩

theorem tflat_any {n₁ : Nat} {w : World} {av : Option Addr} {len cap2 : Nat} {rs : List Int} (hR : RowV n₁ w av len cap2 (intV rs)) (hn₁ : n₁ ≤ w.heap.size) (hlen : len ≤ 1000000) :
    Calls Try.prog 14 #[.slice av len cap2] w fun e w' => ∃ v, e = .returned (.tuple #[v, .int .i64 (adE 64 rs)]) ∧ w'.ownsRow w.heap.size 5 1 v (adL zeroB64 rs).length (u8s (adL zeroB64 rs)) ∧ Below w.heap.size w w' := by
  have hmk := made64b w
  have hn := bytR_new w zeroB64
  have hb : Below w.heap.size w (w.alloc (.cells (u8s zeroB64).toArray 5 (0, 0))) := (Below.refl _ _).alloc (Nat.le_refl _) _
  generalize w.alloc (.cells (u8s zeroB64).toArray 5 (0, 0)) = w1 at *
  have HA := Lib.hid (tadd_any (hn.byt (n := 64) rfl (by omega)) (Nat.le_refl _) (hR.below (hb.mono hn₁)) (by have := hb.size; omega) hlen)
  rw [show zeroB64.length = 64 from rfl] at HA
  have HB := Lib.hid hb
  clear hn hb hR
  go_enter Try.func14, Try.ntmps14
  go_wp2_with fail
  refine HA.out.mono ?_
  rintro e w2 ⟨v, rfl, ho, hb2⟩
  have HO := Lib.hid (ownsRow_base ho HB.out.size)
  have HB2 := Lib.hid (below_chain HB.out (Nat.le_refl _) hb2)
  clear ho hb2 HA
  go_wp2_with fail
  go_ret2
  exact ⟨v, rfl, HO.out, HB2.out⟩

end Go.Proofs.Ytenplmmongphoaa
