/- paint: what its functions must answer, as a record; the laws' helpers same64, ints64, adds, qcif, awake (praxinoscopelaw16). -/
import Derived.Test.YtenplmmongphoaaTRef3
namespace Go.Proofs.Ytenplmmongphoaa
open Go.RowKit Go.Shelf Go.Sort
set_option linter.unusedVariables false

/-- bytes of new memory, in a row that may have room for more -/
def GotB (w : World) (base : Nat) (v : Value) (zs : List UInt8) : Prop := ∃ a cap, v = .slice a zs.length cap ∧ zs.length ≤ cap ∧ (zs = [] ∨ ∃ g rest, a = some ⟨g, 0, none⟩ ∧ base ≤ g ∧ PicW w g [] zs rest)
theorem GotB.base {w : World} {base B : Nat} {v : Value} {zs : List UInt8} (h : GotB w base v zs) (hB : B ≤ base) : GotB w B v zs := by
  obtain ⟨a, cap, e, hc, h⟩ := h
  exact ⟨a, cap, e, hc, h.imp id fun ⟨g, rest, e, hg, hp⟩ => ⟨g, rest, e, by omega, hp⟩⟩
theorem GotB.below {w w' : World} {base : Nat} {v : Value} {zs : List UInt8} (h : GotB w base v zs) (hb : Below w.heap.size w w') : GotB w' base v zs := by
  obtain ⟨a, cap, e, hc, h⟩ := h
  exact ⟨a, cap, e, hc, h.imp id fun ⟨g, rest, e, hg, hp⟩ => ⟨g, rest, e, hg, hp.below hb hp.lt⟩⟩
theorem GotB.byt {w : World} {base : Nat} {v : Value} {zs : List UInt8} (h : GotB w base v zs) (hl : zs.length ≤ 1000000) : Byt w.heap.size w v zs := by
  obtain ⟨a, cap, rfl, hc, h⟩ := h
  rcases h with h | ⟨g, rest, rfl, hg, hp⟩
  · exact ⟨a, cap, rfl, by omega, .inl h⟩
  · exact hp.byt hp.lt hl cap

/-- what paint's functions must answer -/
structure PaintI : Prop where
  clip : ∀ (n : Int) (W : World), I64 n → Calls Try.prog 17 #[.int .i64 n] W fun e W' => e = .returned (.int .u8 (((clB n).toNat : Nat) : Int)) ∧ Below W.heap.size W W'
  grey : ∀ (f : Int) (W : World), I64 f → Calls Try.prog 28 #[.int .i64 f] W fun e W' => ∃ v, e = .returned v ∧ GotB W' W.heap.size v (greyL f) ∧ Below W.heap.size W W'
  add : ∀ {n₀ n₁ : Nat} {w : World} {sv : Value} {zs : List UInt8} {av : Option Addr} {len cap2 : Nat} {rs : List Int}, Byt n₀ w sv zs → n₀ ≤ w.heap.size → Capped sv → RowV n₁ w av len cap2 (intV rs) → n₁ ≤ w.heap.size → len ≤ 1000000 → I64s rs →
    Calls Try.prog 12 #[sv, .slice av len cap2] w fun e w' => ∃ v, e = .returned (.tuple #[v, .int .i64 (adE zs.length rs)]) ∧ w'.ownsRow w.heap.size 5 1 v (adL zs rs).length (u8s (adL zs rs)) ∧ Below w.heap.size w w'
  flat : ∀ {n₁ : Nat} {w : World} {av : Option Addr} {len cap2 : Nat} {rs : List Int}, RowV n₁ w av len cap2 (intV rs) → n₁ ≤ w.heap.size → len ≤ 1000000 → I64s rs →
    Calls Try.prog 14 #[.slice av len cap2] w fun e w' => ∃ v, e = .returned (.tuple #[v, .int .i64 (adE 64 rs)]) ∧ w'.ownsRow w.heap.size 5 1 v (adL zeroB64 rs).length (u8s (adL zeroB64 rs)) ∧ Below w.heap.size w w'
  lay : ∀ {W : World} {G cap n₁ : Nat} {pre post : List Value} {zs ss : List UInt8} {sv : Value} (f g a b : Int), PicW W G pre zs post → zs.length ≤ cap → zs.length ≤ 1000000 → Byt n₁ W sv ss → n₁ ≤ W.heap.size → sv.ownBlock ≠ some G → Capped sv → I64 f → I64 g → I64 a → I64 b →
    Calls Try.prog 24 #[.slice (some ⟨G, pre.length, none⟩) zs.length cap, spotV f g a, .int .i64 b, sv] W fun e W' => e = .returned (.int .i64 (lyE f g a b zs.length ss.length)) ∧ PicW W' G pre (lyL f g a b zs ss) post ∧ Bar (fun k => k = G) W W'
  copy : ∀ {W : World} {G cap n₁ : Nat} {pre post : List Value} {zs fs : List UInt8} {fv : Value} (f g a : Int), PicW W G pre zs post → zs.length ≤ cap → zs.length ≤ 1000000 → fs.length ≤ 1000000 → Byt n₁ W fv fs → n₁ ≤ W.heap.size → fv.ownBlock ≠ some G → Capped fv → I64 f → I64 g → I64 a →
    Calls Try.prog 26 #[.slice (some ⟨G, pre.length, none⟩) zs.length cap, fv, spotV f g a] W fun e W' => e = .returned (.int .i64 (cpE f g a zs.length fs.length)) ∧ PicW W' G pre (cpL f g a zs fs) post ∧ Bar (fun k => k = G) W W'
  copyNil : ∀ (f g a : Int) (W : World), I64 f → I64 g → I64 a → Calls Try.prog 26 #[.slice none 0 0, .slice none 0 0, spotV f g a] W fun e W' => e = .returned (.int .i64 (cpE f g a 0 0)) ∧ Below W.heap.size W W'

/-- 64 times a number -/
def same8 (x : UInt8) : List UInt8 := upU (fun _ => x) 64
theorem same8_length (x : UInt8) : (same8 x).length = 64 := upU_length _ _
set_option maxRecDepth 100000 in
set_option maxHeartbeats 2000000 in
theorem same16_any (x : UInt8) (w : World) : Calls Try.prog 31 #[.int .u8 x.toNat] w fun e w' => e = .returned (.slice (some ⟨w.heap.size, 0, none⟩) 64 64) ∧ BytR w' w.heap.size (same8 x) ∧ Below w.heap.size w w' := by
  have hmk := made64b w
  have HN := Lib.hid (bytR_new w zeroB64)
  have HB1 := Lib.hid ((Below.refl _ w).alloc (Nat.le_refl _) (.cells (u8s zeroB64).toArray 5 (0, 0)))
  generalize w.alloc (.cells (u8s zeroB64).toArray 5 (0, 0)) = w2 at *
  go_enter Try.func31, Try.ntmps31
  go_wp2_with fail
  clear hmk
  go_loopw [4] (fun i wr => ∃ k : Nat, i = .int .i64 (k : Int) ∧ k ≤ 64 ∧ BytR wr w.heap.size (upU (fun _ => x) k) ∧ Below w.heap.size w wr) (fun i _ => 64 - (intOf i).toNat)
  case atStart => exact ⟨0, rfl, by omega, by rw [upU_zero]; exact HN.out, HB1.out⟩
  case round =>
    obtain ⟨k, rfl, hk, hN, hB⟩ := hrel
    have HO := Lib.hid hN
    have HB := Lib.hid hB
    clear hN hB
    by_cases hk2 : k < 64
    · have i0 : (k : Int) < 64 := by omega
      have c1 := HO.out.cell (k := k) (by rw [upU_length]; omega)
      have f1 := HO.out.frozen k
      have HSt := Lib.hid (upU_step (fun _ => x) hk2)
      go_wp2_with fail
      go_roundw
      case rel => exact ⟨k + 1, by go_num, by omega, by rw [← HSt.out]; exact HO.out.set _ _, HB.out.setCell (p := ⟨w.heap.size, k, none⟩) (Nat.le_refl _) _⟩
      case measure => simp [intOf]; omega
    · obtain rfl : k = 64 := by omega
      go_wp2_with fail
      go_ret
      exact ⟨rfl, HO.out, HB.out⟩

def upN (x : Int) (k : Nat) : List Int := (List.range 64).map fun j => if j < k then x else 0
theorem upN_length (x : Int) (k : Nat) : (upN x k).length = 64 := by simp [upN]
theorem upN_zero (x : Int) : upN x 0 = zeros64 := by
  apply List.ext_getElem (by simp [upN, zeros64])
  intro j h1 h2
  refine Eq.trans ?_ (List.getElem_replicate (n := 64) (a := (0 : Int)) (by simpa [zeros64] using h2)).symm
  simp only [upN, List.getElem_map, List.getElem_range]
  exact if_neg (by omega)
theorem upN_step (x : Int) {k : Nat} (hk : k < 64) : (upN x k).set k x = upN x (k + 1) := by
  apply List.ext_getElem (by simp [upN])
  intro j h1 h2
  rw [List.getElem_set]
  by_cases h : k = j
  · rw [if_pos h]
    simp [upN, show j < k + 1 by omega]
  · rw [if_neg h]
    by_cases h2 : j < k
    · simp [upN, h2, show j < k + 1 by omega]
    · simp [upN, h2, show ¬ j < k + 1 by omega]
theorem upN_full (x : Int) : upN x 64 = List.replicate 64 x := by
  apply List.ext_getElem (by simp [upN])
  intro j h1 h2
  have : j < 64 := by simpa [upN] using h1
  rw [List.getElem_replicate]
  simp only [upN, List.getElem_map, List.getElem_range]
  exact if_pos this
set_option maxRecDepth 100000 in
set_option maxHeartbeats 2000000 in
theorem ints16_any (x : Int) (w : World) : Calls Try.prog 32 #[.int .i64 x] w fun e w' => e = .returned (.slice (some ⟨w.heap.size, 0, none⟩) 64 64) ∧ NumsAt w' w.heap.size 3 (List.replicate 64 x) ∧ Below w.heap.size w w' := by
  obtain ⟨w0, hw0⟩ : ∃ w0, w.alloc (.cells (numsA zeros64) 3 (0, 0)) = w0 := ⟨_, rfl⟩
  have hmk := made64 w
  have HN := Lib.hid (numsAt_new w 3 zeros64)
  have HB1 := Lib.hid ((Below.refl _ w).alloc (Nat.le_refl _) (.cells (numsA zeros64) 3 (0, 0)))
  rw [hw0] at hmk HN HB1
  clear hw0
  rw [← upN_full]
  go_enter Try.func32, Try.ntmps32
  go_wp2_with fail
  clear hmk
  go_loopw [4] (fun i wr => ∃ k : Nat, i = .int .i64 (k : Int) ∧ k ≤ 64 ∧ NumsAt wr w.heap.size 3 (upN x k) ∧ Below w.heap.size w wr) (fun i _ => 64 - (intOf i).toNat)
  case atStart => exact ⟨0, rfl, by omega, by rw [upN_zero]; exact HN.out, HB1.out⟩
  case round =>
    obtain ⟨k, rfl, hk, hN, hB⟩ := hrel
    have HO := Lib.hid hN
    have HB := Lib.hid hB
    clear hN hB
    by_cases hk2 : k < 64
    · have i0 : (k : Int) < 64 := by omega
      have c1 := HO.out.cell (k := k) (by rw [upN_length]; omega)
      have f1 := HO.out.frozen k
      have HSt := Lib.hid (upN_step x hk2)
      go_wp2_with fail
      go_roundw
      case rel => exact ⟨k + 1, by go_num, by omega, by rw [← HSt.out]; exact HO.out.set _ _, HB.out.setCell (p := ⟨w.heap.size, k, none⟩) (Nat.le_refl _) _⟩
      case measure => simp [intOf]; omega
    · obtain rfl : k = 64 := by omega
      go_wp2_with fail
      go_ret
      exact ⟨rfl, HO.out, HB.out⟩

theorem qcif16_any (g a : Int) (W : World) : Calls Try.prog 30 #[.int .i64 g, .int .i64 a] W fun e W' => e = .returned (spotV 0 g a) ∧ Below W.heap.size W W' := by
  go_enter Try.func30, Try.ntmps30
  go_wp2
  exact bodyPost_ret (v := spotV 0 g a) (by simp [results, Try.f30, go_sem]) rfl ⟨rfl, (Below.refl _ W).alloc (Nat.le_refl _) _⟩

set_option maxRecDepth 100000 in
set_option maxHeartbeats 2000000 in
theorem adds16_any (I : PaintI) (x : UInt8) (r : Int) (y : UInt8) (hr : I64 r) (h : adE 64 (List.replicate 64 r) = 0 ∧ adL (same8 x) (List.replicate 64 r) = same8 y) (w : World) :
    Calls Try.prog 36 #[.int .u8 x.toNat, .int .i64 r, .int .u8 y.toNat] w fun e w' => e = .returned (.bool true) ∧ Below w.heap.size w w' := by
  have HS := Lib.hid (fun w => same16_any x w)
  have HI := Lib.hid (fun w => ints16_any r w)
  have HY := Lib.hid (fun w => same16_any y w)
  have HA : Hid (∀ (W : World) (b1 b2 : Nat), BytR W b1 (same8 x) → NumsAt W b2 3 (List.replicate 64 r) → Calls Try.prog 12 #[.slice (some ⟨b1, 0, none⟩) 64 64, .slice (some ⟨b2, 0, none⟩) 64 64] W fun e w' => ∃ v, e = .returned (.tuple #[v, .int .i64 0]) ∧ w'.ownsRow W.heap.size 5 1 v 64 (u8s (same8 y)) ∧ Below W.heap.size W w') := fun W b1 b2 h1 h2 => by
    have := I.add (h1.byt (same8_length x) (by omega)) (Nat.le_refl _) ⟨_, _, _, rfl, Nat.le_refl _⟩ (h2.rowV (by simp)) (Nat.le_refl _) (by omega) (fun n hn => by rw [List.eq_of_mem_replicate hn]; exact hr)
    rw [same8_length, h.1, h.2, same8_length] at this
    exact this
  clear hr h
  go_enter Try.func36, Try.ntmps36
  go_wp2_with fail
  refine (HS.out _).mono ?_
  rintro e w1 ⟨rfl, n1, b1⟩
  have B1 := Lib.hid b1
  have N1 := Lib.hid n1
  have hl1 := n1.lt
  clear b1 n1
  go_wp2_with fail
  refine (HI.out _).mono ?_
  rintro e w2 ⟨rfl, n2, b2⟩
  have B2 := Lib.hid (below_chain B1.out (Nat.le_refl _) b2)
  have N1 := Lib.hid (N1.out.below b2 hl1)
  have N2 := Lib.hid n2
  clear b2 n2
  go_wp2_with fail
  refine (HA.out _ _ _ N1.out N2.out).mono ?_
  rintro e w3 ⟨v, rfl, ho, b3⟩
  have B3 := Lib.hid (below_chain B2.out (Nat.le_refl _) b3)
  have HO := Lib.hid ho
  clear b3 ho
  go_wp2_with fail
  refine (HY.out _).mono ?_
  rintro e w4 ⟨rfl, n4, b4⟩
  have B4 := Lib.hid (below_chain B3.out (Nat.le_refl _) b4)
  have HSm := Lib.hid (same_any (byt_own (by rw [same8_length]; exact ownsRow_belowN HO.out b4) (by rw [same8_length]; omega) (Nat.le_refl _)) (n4.byt (same8_length y) (by omega)))
  simp only [decide_true] at HSm
  clear b4 n4
  go_wp2_with fail
  refine HSm.out.mono ?_
  rintro e w5 ⟨rfl, rfl⟩
  go_wp2
  go_ret
  exact ⟨rfl, B4.out⟩

theorem adds_a : adE 64 (List.replicate 64 9) = 0 ∧ adL (same8 250) (List.replicate 64 9) = same8 255 := by decide +kernel
theorem adds_b : adE 64 (List.replicate 64 (-9)) = 0 ∧ adL (same8 3) (List.replicate 64 (-9)) = same8 0 := by decide +kernel

theorem clips_a : ((clB (-5)).toNat : Int) = 0 ∧ ((clB 300).toNat : Int) = 255 ∧ ((clB 77).toNat : Int) = 77 := by decide +kernel
theorem cpE_a : cpE 0 2 1 0 0 = 8 := by decide +kernel
set_option maxRecDepth 100000 in
set_option maxHeartbeats 4000000 in
theorem awake16_any (I : PaintI) (w : World) : Calls Try.prog 9 #[] w fun e w' => e = .returned (.bool true) ∧ Below w.heap.size w w' := by
  have HC1 := Lib.hid (fun w => I.clip (-5) w (by unfold I64; omega))
  have HC2 := Lib.hid (fun w => I.clip 300 w (by unfold I64; omega))
  have HC3 := Lib.hid (fun w => I.clip 77 w (by unfold I64; omega))
  rw [clips_a.1] at HC1
  rw [clips_a.2.1] at HC2
  rw [clips_a.2.2] at HC3
  have HA1 := Lib.hid (adds16_any I 250 9 255 (by unfold I64; omega) adds_a)
  have HA2 := Lib.hid (adds16_any I 3 (-9) 0 (by unfold I64; omega) adds_b)
  have HQ := Lib.hid (qcif16_any 2 1)
  have HN := Lib.hid (fun w => I.copyNil 0 2 1 w (by unfold I64; omega) (by unfold I64; omega) (by unfold I64; omega))
  rw [cpE_a] at HN
  go_enter Try.func9, Try.ntmps9
  go_wp2_with fail
  refine (HC1.out _).mono ?_
  rintro e w1 ⟨rfl, b⟩
  have B1 := Lib.hid b
  clear b
  go_wp2_with fail
  refine (HC2.out _).mono ?_
  rintro e w2 ⟨rfl, b⟩
  have B2 := Lib.hid (below_chain B1.out (Nat.le_refl _) b)
  clear b
  go_wp2_with fail
  refine (HC3.out _).mono ?_
  rintro e w3 ⟨rfl, b⟩
  have B3 := Lib.hid (below_chain B2.out (Nat.le_refl _) b)
  clear b
  go_wp2_with fail
  refine (HA1.out _).mono ?_
  rintro e w4 ⟨rfl, b⟩
  have B4 := Lib.hid (below_chain B3.out (Nat.le_refl _) b)
  clear b
  go_wp2_with fail
  refine (HA2.out _).mono ?_
  rintro e w5 ⟨rfl, b⟩
  have B5 := Lib.hid (below_chain B4.out (Nat.le_refl _) b)
  clear b
  go_wp2_with fail
  refine (HQ.out _).mono ?_
  rintro e w6 ⟨rfl, b⟩
  have B6 := Lib.hid (below_chain B5.out (Nat.le_refl _) b)
  clear b
  go_wp2_with fail
  refine (HN.out _).mono ?_
  rintro e w7 ⟨rfl, b⟩
  have B7 := Lib.hid (below_chain B6.out (Nat.le_refl _) b)
  clear b
  go_wp2
  go_ret
  exact ⟨rfl, B7.out⟩

end Go.Proofs.Ytenplmmongphoaa
