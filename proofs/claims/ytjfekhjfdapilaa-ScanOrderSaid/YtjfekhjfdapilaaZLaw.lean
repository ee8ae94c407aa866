/- The laws' helpers place, block, spreads, runs, awake (praxinoscopelaw09); the walk of ScanKnown. -/
import Derived.Test.YtjfekhjfdapilaaZRef2
namespace Go.Proofs.Ytjfekhjfdapilaa
open Go.RowKit Go.Shelf
set_option linter.unusedVariables false

theorem runsR_len (xs : List Int) (first : Int) : (runsR xs first).2.length ≤ 64 := by
  unfold runsR
  split
  · split
    · simp
    · split
      · simp
      · have h := (runsL_small xs (orderL.drop first.toNat) (0, []) (by simp)).2
        have h2 : (orderL.drop first.toNat).length ≤ 64 := by rw [List.length_drop, orderL_length]; omega
        simp only [List.length_nil] at h
        exact Nat.le_trans h (by omega)
  · simp
theorem sprR_len (ps : List (Int × Int)) (first : Int) : (sprR ps first).2.length ≤ 64 := by
  unfold sprR
  split
  · exact spr_len_le ps _ _ (by decide)
  · simp
theorem OwnI.cellsAt {w : World} {base : Nat} {v : Value} {xs : List Int} (h : OwnI w base v xs) : CellsAt w v (intV xs) := by
  obtain ⟨t, h⟩ := h
  exact cellsAt_own h
theorem cellsAt_nil (w : World) : CellsAt w (.slice none 0 0) (intV []) := ⟨none, 0, rfl, .inl rfl⟩
theorem cellsP_nil (w : World) : CellsP w (.slice none 0 0) [] := ⟨none, 0, rfl, .inl rfl⟩

theorem place9_any (i want err : Int) (w : World) : Calls Try.prog 20 #[.int .i64 i, .int .i64 want, .int .i64 err] w fun e w' => e = .returned (.bool (placeN i == want && placeE i == err)) ∧ Below w.heap.size w w' := by
  have HP := Lib.hid (placeZ_any i w)
  generalize placeN i = x at *
  generalize placeE i = y at *
  cases h1 : (x == want) with
  | true =>
    cases h2 : (y == err) with
    | true =>
      go_enter Try.func20, Try.ntmps20
      go_wp2_with (go_at_call 12; refine HP.out.mono ?_; rintro e w' ⟨rfl, hb⟩)
      go_ret
      exact ⟨rfl, hb⟩
    | false =>
      go_enter Try.func20, Try.ntmps20
      go_wp2_with (go_at_call 12; refine HP.out.mono ?_; rintro e w' ⟨rfl, hb⟩)
      go_ret
      exact ⟨rfl, hb⟩
  | false =>
    go_enter Try.func20, Try.ntmps20
    go_wp2_with (go_at_call 12; refine HP.out.mono ?_; rintro e w' ⟨rfl, hb⟩)
    go_ret
    exact ⟨rfl, hb⟩

set_option maxHeartbeats 1000000 in
theorem spreads9_any {n₀ : Nat} {w : World} {av : Option Addr} {len cap : Nat} {ps : List (Int × Int)} (hR : RowP n₀ w av len cap ps) (hn : n₀ ≤ w.heap.size) (hlen : len ≤ 1000000) (first : Int) {wv : Value} {ws : List Int} (hW : CellsAt w wv (intV ws)) (hws : ws.length ≤ 1000000) (err : Int) :
    Calls Try.prog 21 #[.slice av len cap, .int .i64 first, wv, .int .i64 err] w fun e w' => e = .returned (.bool (decide ((sprR ps first).2 = ws) && (sprR ps first).1 == err)) ∧ Below w.heap.size w w' := by
  have HS := Lib.hid (spreadZ_any hR hn hlen first)
  have hl := sprR_len ps first
  have HW := Lib.hid (fun w' (hb : Below w.heap.size w w') => hW.below hb)
  generalize (sprR ps first).1 = y at *
  generalize (sprR ps first).2 = b at *
  clear hR hW
  have key : ∀ w1 v1, OwnI w1 w.heap.size v1 b → Below w.heap.size w w1 → Calls Try.prog 14 #[v1, wv] w1 fun e w' => e = .returned (.bool (decide (b = ws))) ∧ Below w1.heap.size w1 w' := fun w1 v1 ho hb =>
    sameInts_any ho.cellsAt (HW.out w1 hb) (by omega) (by omega)
  have HK := Lib.hid key
  clear key HW
  cases h1 : decide (b = ws) with
  | true =>
    rw [h1] at HK
    clear h1
    cases h2 : (y == err) with
    | true =>
      go_enter Try.func21, Try.ntmps21
      go_wp2_with (first
        | (go_at_call 10; refine HS.out.mono ?_; rintro e w1 ⟨v1, rfl, ho, hb⟩; have HB := Lib.hid hb; have HK1 := Lib.hid (HK.out w1 v1 ho hb); clear ho hb)
        | (go_at_call 14; refine HK1.out.mono ?_; rintro e w2 ⟨rfl, hb2⟩))
      go_ret
      exact ⟨rfl, HB.out.trans (hb2.mono HB.out.size)⟩
    | false =>
      go_enter Try.func21, Try.ntmps21
      go_wp2_with (first
        | (go_at_call 10; refine HS.out.mono ?_; rintro e w1 ⟨v1, rfl, ho, hb⟩; have HB := Lib.hid hb; have HK1 := Lib.hid (HK.out w1 v1 ho hb); clear ho hb)
        | (go_at_call 14; refine HK1.out.mono ?_; rintro e w2 ⟨rfl, hb2⟩))
      go_ret
      exact ⟨rfl, HB.out.trans (hb2.mono HB.out.size)⟩
  | false =>
    rw [h1] at HK
    clear h1
    go_enter Try.func21, Try.ntmps21
    go_wp2_with (first
      | (go_at_call 10; refine HS.out.mono ?_; rintro e w1 ⟨v1, rfl, ho, hb⟩; have HB := Lib.hid hb; have HK1 := Lib.hid (HK.out w1 v1 ho hb); clear ho hb)
      | (go_at_call 14; refine HK1.out.mono ?_; rintro e w2 ⟨rfl, hb2⟩))
    go_ret
    exact ⟨rfl, HB.out.trans (hb2.mono HB.out.size)⟩

set_option maxHeartbeats 1000000 in
theorem runs9_any {n₀ : Nat} {w : World} {av : Option Addr} {len cap : Nat} {xs : List Int} (hR : RowV n₀ w av len cap (intV xs)) (hn : n₀ ≤ w.heap.size) (hlen : len ≤ 1000000) (first : Int) {wv : Value} {qs : List (Int × Int)} (hW : CellsP w wv qs) (hws : qs.length ≤ 1000000) (err : Int) :
    Calls Try.prog 23 #[.slice av len cap, .int .i64 first, .int .i64 err, wv] w fun e w' => e = .returned (.bool (decide ((runsR xs first).2 = qs) && (runsR xs first).1 == err)) ∧ Below w.heap.size w w' := by
  have HS := Lib.hid (runsZ_any hR hn hlen first)
  have hl := runsR_len xs first
  have HW := Lib.hid (fun w' (hb : Below w.heap.size w w') => hW.below hb)
  unfold RunsOut at HS
  generalize (runsR xs first).1 = y at *
  generalize (runsR xs first).2 = b at *
  clear hR hW
  have key : ∀ w1 v1, w1.ownsRow w.heap.size 39 2 v1 b.length (cellsQ b) → Below w.heap.size w w1 → Calls Try.prog 16 #[v1, wv] w1 fun e w' => e = .returned (.bool (decide (b = qs))) ∧ Below w1.heap.size w1 w' := fun w1 v1 ho hb =>
    samePairs_any (cellsP_own ho) (HW.out w1 hb) (by omega) (by omega)
  have HK := Lib.hid key
  clear key HW
  cases h1 : decide (b = qs) with
  | true =>
    rw [h1] at HK
    clear h1
    cases h2 : (y == err) with
    | true =>
      go_enter Try.func23, Try.ntmps23
      go_wp2_with (first
        | (go_at_call 18; refine HS.out.mono ?_; rintro e w1 ⟨v1, rfl, ho, hb⟩; have HB := Lib.hid hb; have HK1 := Lib.hid (HK.out w1 v1 ho hb); clear ho hb)
        | (go_at_call 16; refine HK1.out.mono ?_; rintro e w2 ⟨rfl, hb2⟩))
      go_ret
      exact ⟨rfl, HB.out.trans (hb2.mono HB.out.size)⟩
    | false =>
      go_enter Try.func23, Try.ntmps23
      go_wp2_with (first
        | (go_at_call 18; refine HS.out.mono ?_; rintro e w1 ⟨v1, rfl, ho, hb⟩; have HB := Lib.hid hb; have HK1 := Lib.hid (HK.out w1 v1 ho hb); clear ho hb)
        | (go_at_call 16; refine HK1.out.mono ?_; rintro e w2 ⟨rfl, hb2⟩))
      go_ret
      exact ⟨rfl, HB.out.trans (hb2.mono HB.out.size)⟩
  | false =>
    rw [h1] at HK
    clear h1
    go_enter Try.func23, Try.ntmps23
    go_wp2_with (first
      | (go_at_call 18; refine HS.out.mono ?_; rintro e w1 ⟨v1, rfl, ho, hb⟩; have HB := Lib.hid hb; have HK1 := Lib.hid (HK.out w1 v1 ho hb); clear ho hb)
      | (go_at_call 16; refine HK1.out.mono ?_; rintro e w2 ⟨rfl, hb2⟩))
    go_ret
    exact ⟨rfl, HB.out.trans (hb2.mono HB.out.size)⟩

/-! ### block -/
/-- numbers put at places -/
def putAt9 : List Int → List Int → List Int
  | b, p :: x :: rest => putAt9 (b.set p.toNat x) rest
  | b, _ => b
def placesOk : List Int → Bool
  | p :: _ :: rest => decide (0 ≤ p) && decide (p < 64) && placesOk rest
  | _ => true

set_option maxRecDepth 100000 in
set_option maxHeartbeats 2000000 in
theorem block9_any {n₀ : Nat} {w : World} {av : Option Addr} {len cap : Nat} {ls : List Int} (hR : RowV n₀ w av len cap (intV ls)) (hn : n₀ ≤ w.heap.size) (hlen : len ≤ 1000) (hok : placesOk ls = true) :
    Calls Try.prog 22 #[.slice av len cap] w fun e w' => ∃ g, e = .returned (.slice (some ⟨g, 0, none⟩) 64 64) ∧ w.heap.size ≤ g ∧ (putAt9 zeros64 ls).length = 64 ∧ NumsAt w' g 3 (putAt9 zeros64 ls) ∧ Below w.heap.size w w' := by
  have hl : ls.length = len := by have := hR.1; simpa using this
  have HR := Lib.hid hR
  have hmk := made64
  obtain ⟨R, hRes⟩ : ∃ R, putAt9 zeros64 ls = R := ⟨_, rfl⟩
  rw [hRes]
  have HRes := Lib.hid hRes
  have HOk := Lib.hid hok
  have HB0 := Lib.hid (ints64_new w 3 zeros64)
  have HN0 := Lib.hid (numsAt_new w 3 zeros64)
  clear hR hRes hok
  go_enter Try.func22, Try.ntmps22
  go_wp2_with fail
  generalize w.alloc (.cells (numsA zeros64) 3 (0, 0)) = w1 at *
  clear hmk
  go_loopw [4] (fun i wr => ∃ (j : Nat) (b : List Int), i = .int .i64 j ∧ j ≤ len + 1 ∧ b.length = 64 ∧ placesOk (ls.drop j) = true ∧ putAt9 b (ls.drop j) = R ∧ NumsAt wr w.heap.size 3 b ∧ Below w.heap.size w wr) (fun i _ => len + 2 - (intOf i).toNat)
  case atStart => exact ⟨0, zeros64, rfl, by omega, rfl, HOk.out, HRes.out, HN0.out, HB0.out⟩
  case round =>
    obtain ⟨j, b, rfl, hj, hb, hok, hput, hN, hB⟩ := hrel
    have HN := Lib.hid hN
    have HB := Lib.hid hB
    clear hN hB
    by_cases hj2 : j + 1 < len
    · have d1 : ls.drop j = ls[j] :: ls[j + 1] :: ls.drop (j + 2) := by
        rw [List.drop_eq_getElem_cons (by omega), List.drop_eq_getElem_cons (by omega)]
      rw [d1] at hok hput
      simp only [placesOk, Bool.and_eq_true, decide_eq_true_eq] at hok
      obtain ⟨⟨o1, o2⟩, o3⟩ := hok
      rcases HR.out.2.2.2 with h0 | ⟨b', off, rfl, hlt, hc⟩
      · have := HR.out.2.1
        omega
      have hb2 : b' < w.heap.size := by omega
      have x1 := (HB.out.cell (p := ⟨b', off + j, none⟩) hb2).trans (hc j (.int .i64 ls[j]) (by simp [show j < ls.length by omega]))
      have x2 := (HB.out.cell (p := ⟨b', off + (j + 1), none⟩) hb2).trans (hc (j + 1) (.int .i64 ls[j + 1]) (by simp [show j + 1 < ls.length by omega]))
      have HPut := Lib.hid hput
      have HOk3 := Lib.hid o3
      have q1 : (j : Int) + 1 < (len : Int) := by omega
      have q2 : (0 : Int) ≤ (j : Int) := by omega
      have q3 : (j : Int) < (len : Int) := by omega
      clear d1 hc hput o3
      generalize ls[j] = p at *
      generalize ls[j + 1] = x at *
      obtain ⟨k, rfl⟩ : ∃ k : Nat, p = k := ⟨p.toNat, by omega⟩
      have c2 := HN.out.cell (k := k) (by omega)
      have f2 := HN.out.frozen k
      go_wp2_with fail
      go_region
      have HN2 := Lib.hid (HN.out.set k x)
      have HB2 := Lib.hid ((HB.out.setCell (p := ⟨w.heap.size, k, none⟩) (Nat.le_refl _) (.int .i64 x)).drew)
      have HL2 := Lib.hid (show (b.set k x).length = 64 by simp [hb])
      clear c2 f2
      go_wp2
      go_roundw
      case rel => exact ⟨j + 2, b.set k x, by go_num, by omega, HL2.out, HOk3.out, HPut.out, HN2.out, HB2.out⟩
      case measure => simp [intOf]; omega
    · have hR0 : R = b := by
        rw [← hput]
        have : ls.drop j = [] ∨ ∃ z, ls.drop j = [z] := by
          match h : ls.drop j with
          | [] => exact .inl rfl
          | [z] => exact .inr ⟨z, rfl⟩
          | z :: y :: r =>
            have := congrArg List.length h
            simp at this
            omega
        rcases this with e | ⟨z, e⟩ <;> rw [e] <;> rfl
      have q1 : ¬ (j : Int) + 1 < (len : Int) := by omega
      have HR0 := Lib.hid hR0
      clear hR0 hput hok
      go_wp2
      go_ret
      exact ⟨_, rfl, Nat.le_refl _, by rw [HR0.out]; exact hb, by rw [HR0.out]; exact HN.out, HB.out⟩

/-! ### closed calls -/
theorem rowP_lit (w : World) (ps : List (Int × Int)) (cs : Array Value) (n : Nat) (hcs : cs = (cellsQ ps).toArray) (hn : ps.length = n) (hl : n ≤ 1000) (t : TypeId) : RowP (w.alloc (.cells cs t (0, 0))).heap.size (w.alloc (.cells cs t (0, 0))) (some ⟨w.heap.size, 0, none⟩) n n ps := by
  subst hcs hn
  refine ⟨rfl, Nat.le_refl _, by omega, .inr ⟨w.heap.size, 0, rfl, fun _ => by simp, fun j p hp => ?_⟩⟩
  have hc := src_row w (cellsQ ps) t
  have hadd : ∀ j, (⟨w.heap.size, 0, none⟩ : Addr).add j = ⟨w.heap.size, 0 + j, none⟩ := fun j => by unfold Addr.add; split <;> simp_all
  obtain ⟨h1, h2⟩ := cellsQ_at hp
  have a1 := hc _ _ h1
  have a2 := hc _ _ h2
  rw [hadd] at a1 a2
  exact ⟨a1, by rw [Nat.add_assoc]; exact a2⟩
theorem place9_lit (i want err : Int) (h1 : (placeN i == want && placeE i == err) = true) (w : World) : Calls Try.prog 20 #[.int .i64 i, .int .i64 want, .int .i64 err] w fun e w' => e = .returned (.bool true) ∧ Below w.heap.size w w' := by
  have h := place9_any i want err w
  rwa [h1] at h
theorem spreads9_lit {n₀ : Nat} {w : World} {av : Option Addr} {len cap : Nat} {ps : List (Int × Int)} (hR : RowP n₀ w av len cap ps) (hn : n₀ ≤ w.heap.size) (hlen : len ≤ 1000000) (first : Int) {wv : Value} {ws : List Int} (hW : CellsAt w wv (intV ws)) (hws : ws.length ≤ 1000000) (err : Int) (h : sprR ps first = (err, ws)) :
    Calls Try.prog 21 #[.slice av len cap, .int .i64 first, wv, .int .i64 err] w fun e w' => e = .returned (.bool true) ∧ Below w.heap.size w w' := by
  have h1 := spreads9_any hR hn hlen first hW hws err
  rw [h] at h1
  simpa using h1
theorem runs9_lit {n₀ : Nat} {w : World} {av : Option Addr} {len cap : Nat} {xs : List Int} (hR : RowV n₀ w av len cap (intV xs)) (hn : n₀ ≤ w.heap.size) (hlen : len ≤ 1000000) (first : Int) {wv : Value} {qs : List (Int × Int)} (hW : CellsP w wv qs) (hws : qs.length ≤ 1000000) (err : Int) (h : runsR xs first = (err, qs)) :
    Calls Try.prog 23 #[.slice av len cap, .int .i64 first, .int .i64 err, wv] w fun e w' => e = .returned (.bool true) ∧ Below w.heap.size w w' := by
  have h1 := runs9_any hR hn hlen first hW hws err
  rw [h] at h1
  simpa using h1
theorem block9_lit (W : World) (ls : List Int) (cs : Array Value) (len : Nat) (hcs : cs = (intV ls).toArray) (hlen : ls.length = len) (hl : len ≤ 1000) (hok : placesOk ls = true) (b : List Int) (hb : putAt9 zeros64 ls = b) (t : TypeId) :
    Calls Try.prog 22 #[.slice (some ⟨W.heap.size, 0, none⟩) len len] (W.alloc (.cells cs t (0, 0))) fun e w' => ∃ g, e = .returned (.slice (some ⟨g, 0, none⟩) 64 64) ∧ b.length = 64 ∧ NumsAt w' g 3 b ∧ Below W.heap.size W w' := by
  subst hcs hb
  have hR := rowV_new W (intV ls) t len (by simpa using hlen) hl
  refine (block9_any hR (Nat.le_refl _) hl hok).mono ?_
  rintro e w' ⟨g, rfl, hg, h64, hN, hB⟩
  exact ⟨g, rfl, h64, hN, below_chain ((Below.refl _ W).alloc (Nat.le_refl _) (.cells (intV ls).toArray t (0, 0))) (Nat.le_refl _) hB⟩
theorem NumsAt.cellsAt {w : World} {g : Nat} {t : TypeId} {b : List Int} (h : NumsAt w g t b) (hb : b.length = 64) : CellsAt w (.slice (some ⟨g, 0, none⟩) 64 64) (intV b) := cellsAt_own (h.own hb (Nat.zero_le _))
theorem NumsAt.rowV {w : World} {g : Nat} {t : TypeId} {b : List Int} (h : NumsAt w g t b) (hb : b.length = 64) : RowV w.heap.size w (some ⟨g, 0, none⟩) 64 64 (intV b) := by
  obtain ⟨a, c, e, hr⟩ := rowV_own4 (h.own hb (Nat.zero_le _))
  cases e
  exact hr
def pair2 : List (Int × Int) := [(0, 5), (1, -2)]

end Go.Proofs.Ytjfekhjfdapilaa
