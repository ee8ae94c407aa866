/- The contracts of pattern's functions: Has, Count, Put, tree, Get. -/
import Derived.Test.YtichkoilhnkmkaaDoorNFld
import Derived.Test.YtichkoilhnkmkaaDoorRound
/- The text of the codes; Has and Count. -/
namespace Go.Proofs.YtichkoilhnkmkaaDoor
open Go.RowKit Go.Shelf
set_option linter.unusedVariables false
attribute [local go_sem] Oper.semAt_some

/-- the codes' text, as the program has it -/
def text7 : ByteArray := ⟨#[10, 48, 49, 48, 49, 49, 32, 32, 32, 32, 48, 49, 48, 48, 49, 32, 32, 32, 32, 48, 48, 49, 49, 48, 49, 32, 32, 32, 32, 49, 49, 48, 49, 32, 32, 32, 48, 48, 49, 48, 49, 49, 49, 32, 32, 48, 48, 49, 48, 48, 49, 49, 32, 32, 48, 48, 48, 49, 49, 49, 49, 49, 32, 32, 49, 49, 48, 48, 10, 48, 48, 49, 48, 49, 49, 48, 32, 32, 48, 48, 49, 48, 48, 49, 48, 32, 32, 48, 48, 48, 49, 49, 49, 49, 48, 32, 32, 49, 48, 48, 49, 49, 32, 32, 48, 48, 48, 49, 49, 48, 49, 49, 32, 48, 48, 48, 49, 48, 49, 49, 49, 32, 48, 48, 48, 49, 48, 48, 49, 49, 32, 32, 49, 48, 49, 49, 10, 48, 48, 49, 48, 49, 48, 49, 32, 32, 48, 48, 49, 48, 48, 48, 49, 32, 32, 48, 48, 48, 49, 49, 49, 48, 49, 32, 32, 49, 48, 48, 48, 49, 32, 32, 48, 48, 48, 49, 49, 48, 48, 49, 32, 48, 48, 48, 49, 48, 49, 48, 49, 32, 48, 48, 48, 49, 48, 48, 48, 49, 32, 32, 48, 48, 49, 49, 49, 49, 10, 48, 48, 48, 48, 49, 49, 49, 49, 32, 48, 48, 48, 48, 49, 49, 48, 49, 32, 48, 48, 48, 48, 48, 48, 48, 49, 49, 32, 48, 49, 49, 49, 49, 32, 32, 48, 48, 48, 48, 49, 48, 49, 49, 32, 48, 48, 48, 48, 48, 49, 49, 49, 32, 48, 48, 48, 48, 48, 48, 49, 49, 49, 32, 49, 48, 49, 48, 10, 48, 48, 49, 48, 49, 48, 48, 32, 32, 48, 48, 49, 48, 48, 48, 48, 32, 32, 48, 48, 48, 49, 49, 49, 48, 48, 32, 32, 48, 48, 49, 49, 49, 48, 32, 48, 48, 48, 48, 49, 49, 49, 48, 32, 48, 48, 48, 48, 49, 49, 48, 48, 32, 48, 48, 48, 48, 48, 48, 48, 49, 48, 32, 49, 48, 48, 48, 48, 10, 48, 48, 48, 49, 49, 48, 48, 48, 32, 48, 48, 48, 49, 48, 49, 48, 48, 32, 48, 48, 48, 49, 48, 48, 48, 48, 32, 32, 48, 49, 49, 49, 48, 32, 32, 48, 48, 48, 48, 49, 48, 49, 48, 32, 48, 48, 48, 48, 48, 49, 49, 48, 32, 48, 48, 48, 48, 48, 48, 49, 49, 48, 32, 49, 48, 48, 49, 48, 10, 48, 48, 48, 49, 49, 48, 49, 48, 32, 48, 48, 48, 49, 48, 49, 49, 48, 32, 48, 48, 48, 49, 48, 48, 49, 48, 32, 32, 48, 49, 49, 48, 49, 32, 32, 48, 48, 48, 48, 49, 48, 48, 49, 32, 48, 48, 48, 48, 48, 49, 48, 49, 32, 48, 48, 48, 48, 48, 48, 49, 48, 49, 32, 48, 49, 49, 48, 48, 10, 48, 48, 48, 48, 49, 48, 48, 48, 32, 48, 48, 48, 48, 48, 49, 48, 48, 32, 48, 48, 48, 48, 48, 48, 49, 48, 48, 32, 49, 49, 49, 32, 32, 32, 32, 48, 49, 48, 49, 48, 32, 32, 32, 32, 48, 49, 48, 48, 48, 32, 32, 32, 32, 48, 48, 49, 49, 48, 48, 10]⟩
def code7 (k : Nat) : ByteArray := codes7[k]?.getD ⟨#[]⟩
theorem scan7 : scanL code7 63 text7 text7.data.toList 0 0 none = true := by kernel_rfl
theorem text7_size : text7.size ≤ 1000000 := by decide +kernel

set_option maxHeartbeats 1000000 in
theorem isPattern_any (n : Int) (w : World) : Calls Tryd.prog 33 #[.int .i64 n] w fun e w' => e = .returned (.bool (decide (1 ≤ n ∧ n ≤ 63))) ∧ w = w' := by
  by_cases h1 : 0 < n
  · by_cases h2 : n < 64
    · rw [decide_eq_true (show 1 ≤ n ∧ n ≤ 63 by omega)]
      go_enter Tryd.func33, Tryd.ntmps33
      go_wp2
      go_ret
      exact ⟨rfl, rfl⟩
    · rw [decide_eq_false (show ¬ (1 ≤ n ∧ n ≤ 63) by omega)]
      go_enter Tryd.func33, Tryd.ntmps33
      go_wp2
      go_ret
      exact ⟨rfl, rfl⟩
  · rw [decide_eq_false (show ¬ (1 ≤ n ∧ n ≤ 63) by omega)]
    go_enter Tryd.func33, Tryd.ntmps33
    go_wp2
    go_ret
    exact ⟨rfl, rfl⟩
set_option maxHeartbeats 1000000 in
theorem isBlock_any (n : Int) (w : World) : Calls Tryd.prog 34 #[.int .i64 n] w fun e w' => e = .returned (.bool (decide (1 ≤ n ∧ n ≤ 6))) ∧ w = w' := by
  by_cases h1 : 1 ≤ n
  · by_cases h2 : n ≤ 6
    · rw [decide_eq_true (show 1 ≤ n ∧ n ≤ 6 by omega)]
      go_enter Tryd.func34, Tryd.ntmps34
      go_wp2
      go_ret
      exact ⟨rfl, rfl⟩
    · rw [decide_eq_false (show ¬ (1 ≤ n ∧ n ≤ 6) by omega)]
      go_enter Tryd.func34, Tryd.ntmps34
      go_wp2
      go_ret
      exact ⟨rfl, rfl⟩
  · rw [decide_eq_false (show ¬ (1 ≤ n ∧ n ≤ 6) by omega)]
    go_enter Tryd.func34, Tryd.ntmps34
    go_wp2
    go_ret
    exact ⟨rfl, rfl⟩

theorem and_fin : ∀ n : Fin 64, ∀ b : Fin 6, (bits .and .i64 (n.val : Int) (32 / 2 ^ b.val) != 0) = decide (n.val / 2 ^ (5 - b.val) % 2 = 1) := by decide +kernel

set_option maxRecDepth 100000 in
set_option maxHeartbeats 4000000 in
theorem nhas_any (n b : Int) (w : World) (hn1 : -9223372036854775808 ≤ n) (hn2 : n ≤ 9223372036854775807) (hb1 : -9223372036854775808 ≤ b) (hb2 : b ≤ 9223372036854775807) :
    Calls Tryd.prog 16 #[.int .i64 n, .int .i64 b] w fun e w' => e = .returned (.bool (hasB n b)) ∧ w = w' := by
  have HP := Lib.hid (isPattern_any n w)
  have HB := Lib.hid (isBlock_any b w)
  by_cases h1 : 1 ≤ n ∧ n ≤ 63
  · rw [decide_eq_true h1] at HP
    by_cases h2 : 1 ≤ b ∧ b ≤ 6
    · rw [decide_eq_true h2] at HB
      obtain ⟨m, rfl⟩ := Int.eq_ofNat_of_zero_le (show 0 ≤ n by omega)
      rw [hasB_yes (by omega)]
      have h6 : b = 1 ∨ b = 2 ∨ b = 3 ∨ b = 4 ∨ b = 5 ∨ b = 6 := by omega
      have hm : m < 64 := by omega
      clear h1 h2 hn1 hn2 hb1 hb2
      rcases h6 with rfl | rfl | rfl | rfl | rfl | rfl
      · have ha := and_fin ⟨m, hm⟩ ⟨0, by decide⟩
        go_enter Tryd.func16, Tryd.ntmps16
        go_wp2_with fail
        refine HP.out.mono ?_
        rintro e w' ⟨rfl, rfl⟩
        go_wp2_with fail
        refine HB.out.mono ?_
        rintro e w' ⟨rfl, rfl⟩
        go_wp2
        go_ret
        exact ⟨ret_bool ha, rfl⟩
      · have ha := and_fin ⟨m, hm⟩ ⟨1, by decide⟩
        go_enter Tryd.func16, Tryd.ntmps16
        go_wp2_with fail
        refine HP.out.mono ?_
        rintro e w' ⟨rfl, rfl⟩
        go_wp2_with fail
        refine HB.out.mono ?_
        rintro e w' ⟨rfl, rfl⟩
        go_wp2
        go_ret
        exact ⟨ret_bool ha, rfl⟩
      · have ha := and_fin ⟨m, hm⟩ ⟨2, by decide⟩
        go_enter Tryd.func16, Tryd.ntmps16
        go_wp2_with fail
        refine HP.out.mono ?_
        rintro e w' ⟨rfl, rfl⟩
        go_wp2_with fail
        refine HB.out.mono ?_
        rintro e w' ⟨rfl, rfl⟩
        go_wp2
        go_ret
        exact ⟨ret_bool ha, rfl⟩
      · have ha := and_fin ⟨m, hm⟩ ⟨3, by decide⟩
        go_enter Tryd.func16, Tryd.ntmps16
        go_wp2_with fail
        refine HP.out.mono ?_
        rintro e w' ⟨rfl, rfl⟩
        go_wp2_with fail
        refine HB.out.mono ?_
        rintro e w' ⟨rfl, rfl⟩
        go_wp2
        go_ret
        exact ⟨ret_bool ha, rfl⟩
      · have ha := and_fin ⟨m, hm⟩ ⟨4, by decide⟩
        go_enter Tryd.func16, Tryd.ntmps16
        go_wp2_with fail
        refine HP.out.mono ?_
        rintro e w' ⟨rfl, rfl⟩
        go_wp2_with fail
        refine HB.out.mono ?_
        rintro e w' ⟨rfl, rfl⟩
        go_wp2
        go_ret
        exact ⟨ret_bool ha, rfl⟩
      · have ha := and_fin ⟨m, hm⟩ ⟨5, by decide⟩
        go_enter Tryd.func16, Tryd.ntmps16
        go_wp2_with fail
        refine HP.out.mono ?_
        rintro e w' ⟨rfl, rfl⟩
        go_wp2_with fail
        refine HB.out.mono ?_
        rintro e w' ⟨rfl, rfl⟩
        go_wp2
        go_ret
        exact ⟨ret_bool ha, rfl⟩
    · rw [decide_eq_false h2] at HB
      rw [hasB_no (by omega)]
      clear h1 h2 hn1 hn2 hb1 hb2
      go_enter Tryd.func16, Tryd.ntmps16
      go_wp2_with fail
      refine HP.out.mono ?_
      rintro e w' ⟨rfl, rfl⟩
      go_wp2_with fail
      refine HB.out.mono ?_
      rintro e w' ⟨rfl, rfl⟩
      go_wp2
      go_ret
      exact ⟨rfl, rfl⟩
  · rw [decide_eq_false h1] at HP
    rw [hasB_no (by omega)]
    clear h1 hn1 hn2 hb1 hb2
    go_enter Tryd.func16, Tryd.ntmps16
    go_wp2_with fail
    refine HP.out.mono ?_
    rintro e w' ⟨rfl, rfl⟩
    go_wp2
    go_ret
    exact ⟨rfl, rfl⟩

set_option maxRecDepth 100000 in
set_option maxHeartbeats 4000000 in
theorem ncount_any (n : Int) (w : World) (hn1 : -9223372036854775808 ≤ n) (hn2 : n ≤ 9223372036854775807) :
    Calls Tryd.prog 18 #[.int .i64 n] w fun e w' => e = .returned (.int .i64 (countN n)) ∧ w = w' := by
  go_enter Tryd.func18, Tryd.ntmps18
  go_wp2_with fail
  go_loopw [3, 4, 5] (fun c _ i wr => ∃ k : Nat, k ≤ 6 ∧ i = .int .i64 (k : Int) ∧ c = .int .i64 (cntTo n k : Nat) ∧ wr = w) (fun _ _ i _ => (6 - intOf i).toNat)
  case atStart => exact ⟨0, by omega, rfl, rfl, rfl⟩
  case round =>
    obtain ⟨k, hk, rfl, rfl, rfl⟩ := hrel
    have hle := cntTo_le n k
    by_cases hk2 : k < 6
    · have HH := Lib.hid (nhas_any n ((k : Int) + 1) wr hn1 hn2 (by omega) (by omega))
      have HS := Lib.hid (show cntTo n (k + 1) = cntTo n k + (if hasB n ((k : Int) + 1) = true then 1 else 0) from rfl)
      cases hh : hasB n ((k : Int) + 1) with
      | false =>
        rw [hh] at HH HS
        simp only [Bool.false_eq_true, if_false, Nat.add_zero] at HS
        go_wp2_with (go_at_call 16; refine HH.out.mono ?_; rintro e w2 ⟨rfl, rfl⟩)
        go_roundw
        case rel => exact ⟨k + 1, by omega, by go_num, by rw [HS.out], trivial⟩
        case measure => simp [intOf]; omega
      | true =>
        rw [hh] at HH HS
        simp only [if_true] at HS
        go_wp2_with (go_at_call 16; refine HH.out.mono ?_; rintro e w2 ⟨rfl, rfl⟩)
        go_roundw
        case rel => exact ⟨k + 1, by omega, by go_num, by rw [HS.out]; go_num, trivial⟩
        case measure => simp [intOf]; omega
    · have hkn : k = 6 := by omega
      subst hkn
      go_wp2
      go_ret
      exact ⟨rfl, rfl⟩

end Go.Proofs.YtichkoilhnkmkaaDoor

/- The contract of pattern's Put. -/
namespace Go.Proofs.YtichkoilhnkmkaaDoor
open Go.RowKit Go.Shelf
set_option linter.unusedVariables false
attribute [local go_sem] Oper.semAt_some

theorem put7_yes {k : Nat} (hk : k < 63) : putS codes7 nums7 ((k : Int) + 1) = code7 k ∧ putE3 nums7 ((k : Int) + 1) = 0 := by
  have h := nums7_at ⟨k, hk⟩
  simp only at h
  rw [Int.add_comm]
  exact ⟨h.2.1, h.2.2⟩
theorem put7_no {n : Int} (h : ∀ k : Nat, k < 63 → (k : Int) + 1 ≠ n) : putS codes7 nums7 n = ⟨#[]⟩ ∧ putE3 nums7 n = 18 := by
  have hn : n < 1 ∨ 63 < n := by
    false_or_by_contra
    exact h (n - 1).toNat (by omega) (by omega)
  have e : putI nums7 n = none := by
    unfold putI nums7
    rw [List.findIdx?_eq_none_iff]
    intro x hx
    simp at hx
    obtain ⟨a, ha, rfl⟩ := hx
    rw [beq_eq_false_iff_ne]
    omega
  unfold putS putE3
  rw [e]
  exact ⟨rfl, rfl⟩

/-- between two rounds of Put -/
structure PutI7 (w : World) (n : Int) (pre : List Nat) (W : World) : Prop where
  below : Below w.heap.size w W
  size : w.heap.size + 5 ≤ W.heap.size
  boxes : PutBoxes W w.heap.size n ⟨#[]⟩ 0
  place : W.heap[w.heap.size + 1 + 1 + 1]? = some (.cells #[.int .i64 (pre.length : Nat)] 3 (0, 0))
  none : ∀ k : Nat, k < pre.length → (k : Int) + 1 ≠ n
structure PutX7 (w : World) (n : Int) (pre : List Nat) (W : World) : Prop where
  below : Below w.heap.size w W
  here : (pre.length : Int) = n
  boxes : ∃ k, pre.getLast? = some k ∧ PutBoxes W w.heap.size n (code7 k) 0

set_option maxRecDepth 100000 in
set_option maxHeartbeats 4000000 in
theorem nput_in (n : Nat) (hn : 4 ≤ n) (x : Int) (w : World) (hSp : Spc w) (hx1 : -9223372036854775808 ≤ x) (hx2 : x ≤ 9223372036854775807) :
    CallsIn Fence.wide n Tryd.prog 14 #[.int .i64 x] w fun e w' => e = .returned (.tuple #[.string (putS codes7 nums7 x), .int .i64 (putE3 nums7 x)]) ∧ Below w.heap.size w w' := by
  have hn1 : 1 ≤ n := by omega
  have hgm : 0 < w.heap.size := World.block_lt_of_cell? w _ (hSp 0 (by decide))
  have HC := Lib.hid (fun W => fieldsSeq_in Fence.wide (n - 1) trivial rfl text7 W)
  have HS := Lib.hid (fun (w : World) (bb m : Nat) (hgm : 0 < m) (hm : m ≤ w.heap.size) (hbb : bb < w.heap.size) h hS => fields_stops (n - 1) (by omega) m bb text7 code7 63 scan7 text7_size hgm w hm hbb h hS)
  have HSp := Lib.hid (fun w' (hb : Below w.heap.size w w') => hSp.below hb)
  clear hSp
  refine callsIn_of_wp_marks Tryd.func14 rfl trivial ?_ rfl
  simp only [Tryd.ntmps14, List.size_toArray, List.length_cons, List.length_nil, Nat.reduceAdd, Nat.reduceSub, Array.replicate_succ, Array.replicate_zero, List.push_toArray, List.append_toArray, List.nil_append, List.cons_append]
  gi_wp2_with (refine ⟨trivial, ?_⟩; gi_at_call 31; refine (HC.out _).mono ?_; rintro e w' ⟨rfl, rfl⟩)
  have hB5 : Below w.heap.size w (((((w.alloc (Obj.cells #[Value.int IntKind.i64 x] 3)).alloc (Obj.cells #[Value.string { data := #[] }] 9)).alloc (Obj.cells #[Value.int IntKind.i64 0] 25)).alloc (Obj.cells #[Value.int IntKind.i64 0] 3)).alloc (Obj.cells #[Value.string text7] 9)) :=
    (((((Below.refl _ w).alloc (Nat.le_refl _) _).alloc (by simp) _).alloc (by simp; omega) _).alloc (by simp; omega) _).alloc (by simp; omega) _
  refine wpIn_rangeFunc_ownF rfl hn1 (gf := 50) (lb := #[.pointer (some ⟨w.heap.size + 1 + 1 + 1 + 1, 0, none⟩)]) rfl trivial (enters_of Tryd.func50 (by kernel_rfl) rfl)
    (HS.out _ (w.heap.size + 1 + 1 + 1 + 1) w.heap.size hgm (by simp; omega) (by simp) (one_cell (heap_new _ (by simp) _)).1 (HSp.out _ hB5)) KpB.t (KpB.b (by simp; omega) (by simp) (by simp)) (Below.refl _ _) (fun _ => rfl)
    (fun pre W => PutI7 w x pre W)
    (fun c pre W => c = .ret ∧ PutX7 w x pre W)
    ?own ?ownx ?start
    (fun k => { tmps := #[Value.int IntKind.i64 x, Value.pointer (some { block := w.heap.size, off := 0 }),
              Value.pointer (some { block := w.heap.size + 1, off := 0 }),
              Value.pointer (some { block := w.heap.size + 1 + 1, off := 0 }),
              Value.pointer (some { block := w.heap.size + 1 + 1 + 1, off := 0 }), .string (code7 k),
              Value.func (Fn.func 50) #[] #[Value.pointer (some { block := w.heap.size + 1 + 1 + 1 + 1, off := 0 })], .string (code7 k),
              undef, undef, undef, undef, undef, undef], defers := [] }) ?assign ?body ?done ?stop
  case own =>
    intro pre A B row hI hg' hr
    have hr2 : ∀ r, row = some r → ∃ o : Obj, A.heap[r]? = some o ∧ o.isCells = false := fun r e => (hr r e).2
    obtain ⟨h1, h2, h3, h4, h5⟩ := hI
    exact ⟨h1.grown hg' h1.size (fun r e => by have := (hr r e).1; simp at this; omega), Nat.le_trans h2 hg'.size, h3.kept hg' hr2, (grownBy_keeps_cells hg' hr2 h4 rfl).trans h4, h5⟩
  case ownx =>
    intro c pre A B row hI hg' hr
    have hr2 : ∀ r, row = some r → ∃ o : Obj, A.heap[r]? = some o ∧ o.isCells = false := fun r e => (hr r e).2
    obtain ⟨hc, h1, h4, k, h2, h3⟩ := hI
    exact ⟨hc, h1.grown hg' h1.size (fun r e => by have := (hr r e).1; simp at this; omega), h4, k, h2, h3.kept hg' hr2⟩
  case start =>
    exact ⟨hB5, by simp, ⟨heap_keep (heap_keep (heap_keep (heap_keep (heap_new _ rfl _) _) _) _) _, heap_keep (heap_keep (heap_keep (heap_new _ (by simp) _) _) _) _, heap_keep (heap_keep (heap_new _ (by simp) _) _) _⟩, heap_keep (heap_new _ (by simp) _) _, fun k hk => by simp at hk⟩
  case assign =>
    intro l k W K hK
    gi_wp2
    exact hK
  case body =>
    rintro l pre k W ⟨hBW, hW, hX, hPl, hno⟩ hlt
    obtain ⟨c0, _⟩ := one_cell hX.arg
    obtain ⟨c1, f1⟩ := one_cell hX.ra
    obtain ⟨c2, f2⟩ := one_cell hX.rb
    obtain ⟨c3, f3⟩ := one_cell hPl
    have HBW := Lib.hid hBW
    have HX := Lib.hid hX
    have HPl := Lib.hid hPl
    have HN := Lib.hid hno
    have hl1 : (pre ++ [k]).length = pre.length + 1 := by simp
    have HL1 := Lib.hid hl1
    clear hBW hX hPl hno hl1
    have z1 : (0 : Int) ≤ ((pre.length : Nat) : Int) := by omega
    have z2 : ((pre.length : Nat) : Int) < 63 := by omega
    by_cases hq : ((pre.length : Nat) : Int) + 1 = x
    · have hb : (((pre.length : Nat) : Int) + 1 == x) = true := by simp [hq]
      have HQ := Lib.hid hq
      clear hq
      gi_wp2
      refine ⟨((KeepsOthers.setCell _ _ _).trans (KeepsOthers.setCell _ _ _)).trans (KeepsOthers.setCell _ _ _), rfl, ((HBW.out.setCell (p := ⟨w.heap.size + 1 + 1 + 1, 0, none⟩) (by simp; omega) _).setCell (p := ⟨w.heap.size + 1, 0, none⟩) (by simp) _).setCell (p := ⟨w.heap.size + 1 + 1, 0, none⟩) (by simp; omega) _, by rw [HL1.out, ← HQ.out]; simp, k, by simp, ?_, ?_, ?_⟩
      · exact (Below.heap_setCell _ _ _ _ (by simp; omega)).trans ((Below.heap_setCell _ _ _ _ (by simp)).trans ((Below.heap_setCell _ _ _ _ (by simp; omega)).trans HX.out.arg))
      · exact (Below.heap_setCell _ _ _ _ (by simp)).trans (heap_setCell_same _ (w.heap.size + 1) 0 _ _ _ ((Below.heap_setCell _ _ _ _ (by simp)).trans HX.out.ra))
      · exact heap_setCell_same _ (w.heap.size + 1 + 1) 0 _ _ _ ((Below.heap_setCell _ _ _ _ (by simp)).trans ((Below.heap_setCell _ _ _ _ (by simp)).trans HX.out.rb))
    · have hb : (((pre.length : Nat) : Int) + 1 == x) = false := by simp [hq]
      have HQ := Lib.hid hq
      clear hq
      gi_wp2
      refine ⟨KeepsOthers.setCell _ _ _, ⟨(Below.refl _ W).setCell (p := ⟨w.heap.size + 1 + 1 + 1, 0, none⟩) (by simp; omega) _, World.cell?_of_block (Below.heap_setCell _ _ _ _ (by simp)), World.cell?_of_block (Below.heap_setCell _ _ _ _ (by simp))⟩, HBW.out.setCell (p := ⟨w.heap.size + 1 + 1 + 1, 0, none⟩) (by simp; omega) _, by simpa using hW, ⟨?_, ?_, ?_⟩, ?_, ?_⟩
      · exact (Below.heap_setCell _ _ _ _ (by simp; omega)).trans HX.out.arg
      · exact (Below.heap_setCell _ _ _ _ (by simp)).trans HX.out.ra
      · exact (Below.heap_setCell _ _ _ _ (by simp)).trans HX.out.rb
      · rw [HL1.out]
        exact heap_setCell_same _ (w.heap.size + 1 + 1 + 1) 0 _ _ _ HPl.out
      · intro j hj
        rw [HL1.out] at hj
        by_cases e : j = pre.length
        · rw [e]; exact HQ.out
        · exact HN.out j (by omega)
  case done =>
    rintro D ys W hD rfl ⟨hBW, hW, hX, hPl, hno⟩ hK
    have hD' : w.heap.size ≤ D := by simp only [World.size_alloc] at hD; omega
    have HP := Lib.hid (put7_no (n := x) (fun k hk => hno k (by simp; exact hk)))
    obtain ⟨c1, f1⟩ := one_cell hX.ra
    obtain ⟨c2, f2⟩ := one_cell hX.rb
    clear hno hPl
    gi_wp2
    have hKO : KeepsOthers W ((W.setCell ⟨w.heap.size + 1, 0, none⟩ (.string ⟨#[]⟩)).setCell ⟨w.heap.size + 1 + 1, 0, none⟩ (.int .i64 18)) := (KeepsOthers.setCell _ _ _).trans (KeepsOthers.setCell _ _ _)
    have hK' := hKO.same D _ hK rfl
    refine ⟨by simp, .inl ⟨_, _, rfl, run_takeDeferred hK', ?_⟩⟩
    have hX1 : ((W.setCell ⟨w.heap.size + 1, 0, none⟩ (.string ⟨#[]⟩)).setCell ⟨w.heap.size + 1 + 1, 0, none⟩ (.int .i64 18)).heap[w.heap.size + 1]? = some (.cells #[.string ⟨#[]⟩] 9 (0, 0)) :=
      (Below.heap_setCell _ _ _ _ (by simp)).trans (heap_setCell_same _ (w.heap.size + 1) 0 _ _ _ hX.ra)
    have hX2 : ((W.setCell ⟨w.heap.size + 1, 0, none⟩ (.string ⟨#[]⟩)).setCell ⟨w.heap.size + 1 + 1, 0, none⟩ (.int .i64 18)).heap[w.heap.size + 1 + 1]? = some (.cells #[.int .i64 18] 25 (0, 0)) :=
      heap_setCell_same _ (w.heap.size + 1 + 1) 0 _ _ _ ((Below.heap_setCell _ _ _ _ (by simp)).trans hX.rb)
    have g0 := (one_cell ((grownBy_keeps_cells (grownBy_putObj' _ D (.deferred none)) (fun r e => by cases e; exact ⟨_, hK', rfl⟩) hX1 rfl).trans hX1)).1
    have g1 := (one_cell ((grownBy_keeps_cells (grownBy_putObj' _ D (.deferred none)) (fun r e => by cases e; exact ⟨_, hK', rfl⟩) hX2 rfl).trans hX2)).1
    refine ⟨.tuple #[.string ⟨#[]⟩, .int .i64 18], by simp [results, Tryd.f14, go_sem, g0, g1], by rw [HP.out.1, HP.out.2], ?_⟩
    exact ((hBW.setCell (p := ⟨w.heap.size + 1, 0, none⟩) (by simp) _).setCell (p := ⟨w.heap.size + 1 + 1, 0, none⟩) (by simp; omega) _).trans (belowK_b (w := w) (Nat.le_refl _) _ D _ _ hD' hK' rfl rfl)
  case stop =>
    rintro D c pre W hD ⟨k, hk, rfl⟩ ⟨rfl, hBW, hhere, j, hj, hX⟩ hK
    have hjk : j = k := by rw [List.range_succ] at hj; simp at hj; omega
    subst hjk
    have HP := Lib.hid (put7_yes hk)
    rw [show (j : Int) + 1 = x by simpa using hhere] at HP
    clear hj hhere
    gi_wp2
    refine ⟨by simp, .inl ⟨_, _, rfl, run_takeDeferred hK, ?_⟩⟩
    have hX5 := hX.kept (grownBy_putObj' _ D (.deferred none)) (fun r e => by cases e; exact ⟨_, hK, rfl⟩)
    have g0 := (one_cell hX5.ra).1
    have g1 := (one_cell hX5.rb).1
    refine ⟨.tuple #[.string (code7 j), .int .i64 0], by simp [results, Tryd.f14, go_sem, g0, g1], by rw [HP.out.1, HP.out.2], ?_⟩
    exact hBW.trans (belowK_b (w := w) (Nat.le_refl _) _ D _ _ (by simp only [World.size_alloc] at hD; omega) hK rfl rfl)

theorem nput_any (x : Int) (w : World) (hSp : Spc w) (hx1 : -9223372036854775808 ≤ x) (hx2 : x ≤ 9223372036854775807) :
    Calls Tryd.prog 14 #[.int .i64 x] w fun e w' => e = .returned (.tuple #[.string (putS codes7 nums7 x), .int .i64 (putE3 nums7 x)]) ∧ Below w.heap.size w w' := callsIn_wide.1 (nput_in 4 (by omega) x w hSp hx1 hx2)

end Go.Proofs.YtichkoilhnkmkaaDoor

/- The contract of pattern's tree of codes, and of Get. -/
namespace Go.Proofs.YtichkoilhnkmkaaDoor
open Go.RowKit Go.Shelf
set_option linter.unusedVariables false
attribute [local go_sem] Oper.semAt_some

def num7 (k : Nat) : Int := (k : Int) + 1
theorem codes7_all : (List.range 63).map code7 = codes7 := by decide +kernel
theorem nums7_all : (List.range 63).map num7 = nums7 := rfl
theorem nums7_small : ∀ x ∈ nums7, -9223372036854775808 ≤ x ∧ x ≤ 9223372036854775807 := by
  intro x hx
  simp [nums7] at hx
  obtain ⟨a, ha, rfl⟩ := hx
  omega

/-- between two rounds of tree: two rows that grow -/
structure TreeR7 (m n : Nat) (ss ns : List Value) (sv iv : Value) (W : World) : Prop where
  ra : W.heap[m]? = some (.cells #[sv] 39 (0, 0))
  rb : W.heap[m + 1]? = some (.cells #[iv] 36 (0, 0))
  rowS : W.ownsRow (m + 3) 9 1 sv n ss
  rowI : W.ownsRow (m + 3) 3 1 iv n ns
  apart : ∀ k, sv.ownBlock = some k → iv.ownBlock ≠ some k
structure TreeW7 (w : World) (pre : List Nat) (W : World) : Prop where
  below : Below w.heap.size w W
  size : w.heap.size + 3 ≤ W.heap.size
  is : ∃ sv iv, TreeR7 w.heap.size pre.length (strV (pre.map code7)) (intV ((List.range pre.length).map num7)) sv iv W
theorem TreeR7.kept {W W' : World} {row : Option Nat} {m n : Nat} {ss ns : List Value} {sv iv : Value} (h : TreeR7 m n ss ns sv iv W) (hg : W.grownBy W' row) (hr : ∀ r, row = some r → ∃ o : Obj, W.heap[r]? = some o ∧ o.isCells = false) : TreeR7 m n ss ns sv iv W' :=
  ⟨(grownBy_keeps_cells hg hr h.ra rfl).trans h.ra, (grownBy_keeps_cells hg hr h.rb rfl).trans h.rb, ownsRow_keptN h.rowS hg hr, ownsRow_keptN h.rowI hg hr, h.apart⟩

set_option maxRecDepth 100000 in
set_option maxHeartbeats 4000000 in
theorem ntree_in (n : Nat) (hn : 4 ≤ n) (w : World) (hSp : Spc w) :
    CallsIn Fence.wide n Tryd.prog 27 #[] w fun e w' => ∃ n₀ m₁ b, e = .returned (.pointer (some ⟨b, 0, none⟩)) ∧ IsPT n₀ m₁ w' b codes7 nums7 ∧ Below w.heap.size w w' := by
  have hn1 : 1 ≤ n := by omega
  have hgm : 0 < w.heap.size := World.block_lt_of_cell? w _ (hSp 0 (by decide))
  have HC := Lib.hid (fun W => fieldsSeq_in Fence.wide (n - 1) trivial rfl text7 W)
  have HS := Lib.hid (fun (w : World) (bb m : Nat) (hgm : 0 < m) (hm : m ≤ w.heap.size) (hbb : bb < w.heap.size) h hS => fields_stops (n - 1) (by omega) m bb text7 code7 63 scan7 text7_size hgm w hm hbb h hS)
  have HSp := Lib.hid (fun w' (hb : Below w.heap.size w w') => hSp.below hb)
  clear hSp
  refine callsIn_of_wp_marks Tryd.func27 rfl trivial ?_ rfl
  simp only [Tryd.ntmps27, List.size_toArray, List.length_nil, Nat.reduceSub, Array.replicate_succ, Array.replicate_zero, List.push_toArray, List.append_toArray, List.nil_append, List.cons_append]
  gi_wp2_with (refine ⟨trivial, ?_⟩; gi_at_call 31; refine (HC.out _).mono ?_; rintro e w' ⟨rfl, rfl⟩)
  have hB3 : Below w.heap.size w (((w.alloc (Obj.cells #[Value.slice none 0 0] 39)).alloc (Obj.cells #[Value.slice none 0 0] 36)).alloc (Obj.cells #[Value.string text7] 9)) :=
    (((Below.refl _ w).alloc (Nat.le_refl _) _).alloc (by simp) _).alloc (by simp; omega) _
  refine wpIn_rangeFunc_ownF rfl hn1 (gf := 50) (lb := #[.pointer (some ⟨w.heap.size + 1 + 1, 0, none⟩)]) rfl trivial (enters_of Tryd.func50 (by kernel_rfl) rfl)
    (HS.out _ (w.heap.size + 1 + 1) w.heap.size hgm (by simp; omega) (by simp) (one_cell (heap_new _ (by simp) _)).1 (HSp.out _ hB3)) KpB.t (KpB.b (by simp; omega) (by simp) (by simp)) (Below.refl _ _) (fun _ => rfl)
    (fun pre W => TreeW7 w pre W)
    (fun _ _ _ => False)
    ?own (fun _ _ _ _ _ hs _ _ => hs) ?start
    (fun k => { tmps := #[Value.pointer none, Value.pointer (some { block := w.heap.size, off := 0 }),
              Value.pointer (some { block := w.heap.size + 1, off := 0 }), .string (code7 k), undef, undef,
              Value.func (Fn.func 50) #[] #[Value.pointer (some { block := w.heap.size + 1 + 1, off := 0 })], .string (code7 k),
              undef, undef, undef, undef, undef, undef, undef, undef, undef, undef, undef, undef, undef, undef, undef, undef], defers := [] }) ?assign ?body ?done (fun _ _ _ _ _ _ h _ => h.elim)
  case own =>
    intro pre A B row hI hg' hr
    have hr2 : ∀ r, row = some r → ∃ o : Obj, A.heap[r]? = some o ∧ o.isCells = false := fun r e => (hr r e).2
    obtain ⟨h1, h2, sv, iv, h3⟩ := hI
    exact ⟨h1.grown hg' h1.size (fun r e => by have := (hr r e).1; simp at this; omega), Nat.le_trans h2 hg'.size, sv, iv, h3.kept hg' hr2⟩
  case start =>
    exact ⟨hB3, by simp, .slice none 0 0, .slice none 0 0, heap_keep (heap_keep (heap_new _ rfl _) _) _, heap_keep (heap_new _ (by simp) _) _, World.ownsRow_nil _ _ _ _, World.ownsRow_nil _ _ _ _, fun k hk => by cases hk⟩
  case assign =>
    intro l k W K hK
    gi_wp2
    exact hK
  case body =>
    rintro l pre k W ⟨hBW, hW, sv, iv, hR⟩ hlt
    generalize hs7 : code7 k = s at *
    have HS7 := Lib.hid hs7
    clear hs7
    obtain ⟨c0, f0⟩ := one_cell hR.ra
    obtain ⟨c1, f1⟩ := one_cell hR.rb
    have HR := Lib.hid hR
    have HBW := Lib.hid hBW
    obtain ⟨i0, hi, hz0, hz1, hz2⟩ := info_parts Tryd.info9
    obtain ⟨i2, hi2, hz20, hz21, hz22⟩ := info_parts info_int5
    have hm1 := (Array.getElem?_eq_some_iff.1 hR.rb).1
    clear hR hBW
    have z2 : pre.length < 63 := hlt
    gi_wp2_with (gi_at_builtin; refine wpListIn_append_v rfl (.tmp 8) (.tmp 10) 39 9 i0 (.string ⟨#[]⟩) 16 rfl Tryd.underlying39x hi hz0 hz1 hz2 rfl (w.heap.size + 3) sv pre.length _ rfl (HR.out.rowS.alloc _) (some ⟨W.heap.size, 0, none⟩) 1 1 [.string s] rfl (src_one _ _ _) (fun e => nomatch e) (by simp [Value.oneCell']) (by omega) (by omega) (by simp; omega) ?_; intro v1 w1 hap; refine Hid.out ?_)
    obtain ⟨a1, a2, a3⟩ := hap
    have hsv := fun j e => HR.out.rowS.lt j e
    have hiv := fun j e => HR.out.rowI.lt j e
    have hs1 : W.heap.size + 1 ≤ w1.heap.size := by have := a2.size; simpa using this
    have ra1 : w1.heap[w.heap.size]? = some (.cells #[sv] 39 (0, 0)) := (a2.block w.heap.size (by simp; omega) (fun e => by have := hsv _ e.symm; omega)).trans (heap_keep HR.out.ra _)
    have rb1 : w1.heap[w.heap.size + 1]? = some (.cells #[iv] 36 (0, 0)) := (a2.block (w.heap.size + 1) (by simp; omega) (fun e => by have := hsv _ e.symm; omega)).trans (heap_keep HR.out.rb _)
    have bar1 : Bar (fun j => sv.ownBlock = some j) W w1 := ((Bar.refl _ _).alloc _).trans (bar_of_grown a2 (fun j e => e)) (fun j _ e => e)
    have rI1 : w1.ownsRow (w.heap.size + 3) 3 1 iv pre.length (intV ((List.range pre.length).map num7)) := ownsRow_bar HR.out.rowI bar1 (fun j e e2 => HR.out.apart j e2 e)
    obtain ⟨av, cv, rfl⟩ := row_form a1
    have rI2 := ownsRow_setCell_other rI1 (a := ⟨w.heap.size, 0, none⟩) (fun e => by have e := (hiv _ e).1; have e : w.heap.size + 3 ≤ w.heap.size := e; omega) (.slice av (pre.length + 1) cv)
    have rS2 := ownsRow_setCell_other a1 (a := ⟨w.heap.size, 0, none⟩) (fun e => by have e := (a1.lt _ e).1; have e : w.heap.size + 3 ≤ w.heap.size := e; omega) (.slice av (pre.length + 1) cv)
    have bar2 := bar1.wide (T := fun j => j = w.heap.size ∨ j = w.heap.size + 1 ∨ sv.ownBlock = some j ∨ iv.ownBlock = some j) (fun j e => .inr (.inr (.inl e)))
    have BAR2 := Lib.hid (bar2.setCell (p := ⟨w.heap.size, 0, none⟩) (fun _ => .inl rfl) (.slice av (pre.length + 1) cv))
    have ra2 : (w1.setCell ⟨w.heap.size, 0, none⟩ (.slice av (pre.length + 1) cv)).heap[w.heap.size]? = some (.cells #[.slice av (pre.length + 1) cv] 39 (0, 0)) := heap_setCell_same _ w.heap.size 0 _ _ _ ra1
    have rb2 : (w1.setCell ⟨w.heap.size, 0, none⟩ (.slice av (pre.length + 1) cv)).heap[w.heap.size + 1]? = some (.cells #[iv] 36 (0, 0)) := (Below.heap_setCell _ _ _ _ (by simp)).trans rb1
    obtain ⟨d0, e0⟩ := one_cell ra1
    obtain ⟨d1, e1⟩ := one_cell rb1
    have RI2 := Lib.hid rI2
    have RS2 := Lib.hid rS2
    have RA2 := Lib.hid ra2
    have RB2 := Lib.hid rb2
    have A3 := Lib.hid a3
    have HSV := Lib.hid hsv
    have HIV := Lib.hid hiv
    have A1 := Lib.hid a1
    clear a1 a2 a3 hsv hiv bar1 bar2 ra1 rb1 ra2 rb2 rI1 rI2 rS2 c0 c1 f0 f1
    refine Lib.hid ?_
    gi_wp2_with (gi_at_builtin; refine wpListIn_append_v rfl (.tmp 12) (.tmp 15) 36 3 i2 (.int .i64 0) 8 rfl Tryd.underlying36y hi2 hz20 hz21 hz22 rfl (w.heap.size + 3) iv pre.length _ rfl (RI2.out.alloc _) (some ⟨w1.heap.size, 0, none⟩) 1 1 [.int .i64 ((pre.length : Nat) + 1 : Int)] rfl (src_at (heap_new _ (by simp) _)) (fun e => nomatch e) (by simp [Value.oneCell']) (by omega) (by omega) (by simp; omega) ?_; intro v2 w2 hap; refine Hid.out ?_)
    obtain ⟨b1, b2, b3⟩ := hap
    have hs2 : w1.heap.size + 1 ≤ w2.heap.size := by have := b2.size; simpa using this
    have rb3 : w2.heap[w.heap.size + 1]? = some (.cells #[iv] 36 (0, 0)) := (b2.block (w.heap.size + 1) (by simp; omega) (fun e => by have := HIV.out _ e.symm; omega)).trans (heap_keep RB2.out _)
    have ra3 : w2.heap[w.heap.size]? = some (.cells #[.slice av (pre.length + 1) cv] 39 (0, 0)) := (b2.block w.heap.size (by simp; omega) (fun e => by have := HIV.out _ e.symm; omega)).trans (heap_keep RA2.out _)
    have hap1 : ∀ j, (Value.slice av (pre.length + 1) cv).ownBlock = some j → iv.ownBlock ≠ some j := fun j e e2 => by
      rcases A3.out j e with h | h
      · exact HR.out.apart j h e2
      · have := (HIV.out j e2).2
        simp only [World.size_alloc] at h
        omega
    have rS3 : w2.ownsRow (w.heap.size + 3) 9 1 (.slice av (pre.length + 1) cv) (pre.length + 1) _ := ownsRow_bar (RS2.out.alloc _) (bar_of_grown (S := fun j => iv.ownBlock = some j) b2 (fun j e => e)) (fun j e e2 => hap1 j e e2)
    obtain ⟨av2, cv2, rfl⟩ := row_form b1
    have rI4 := ownsRow_setCell_other b1 (a := ⟨w.heap.size + 1, 0, none⟩) (fun e => by have e := (b1.lt _ e).1; have e : w.heap.size + 3 ≤ w.heap.size + 1 := e; omega) (.slice av2 (pre.length + 1) cv2)
    have rS4 := ownsRow_setCell_other rS3 (a := ⟨w.heap.size + 1, 0, none⟩) (fun e => by have e := (rS3.lt _ e).1; have e : w.heap.size + 3 ≤ w.heap.size + 1 := e; omega) (.slice av2 (pre.length + 1) cv2)
    have bar3 := ((BAR2.out.alloc (.cells #[.int .i64 ((pre.length : Nat) + 1 : Int)] 3)).trans (bar_of_grown (S := fun j => iv.ownBlock = some j) b2 (fun j e => e)) (fun j _ e => .inr (.inr (.inr e)))).setCell (p := ⟨w.heap.size + 1, 0, none⟩) (fun _ => .inr (.inl rfl)) (.slice av2 (pre.length + 1) cv2)
    have hap2 : ∀ j, (Value.slice av (pre.length + 1) cv).ownBlock = some j → (Value.slice av2 (pre.length + 1) cv2).ownBlock ≠ some j := fun j e e2 => by
      rcases b3 j e2 with h | h
      · exact hap1 j e h
      · have := (A1.out.lt j e).2
        simp only [World.size_alloc, World.size_setCell] at h
        omega
    have ra4 : (w2.setCell ⟨w.heap.size + 1, 0, none⟩ (.slice av2 (pre.length + 1) cv2)).heap[w.heap.size]? = some (.cells #[.slice av (pre.length + 1) cv] 39 (0, 0)) := (Below.heap_setCell _ _ _ _ (by simp)).trans ra3
    have rb4 : (w2.setCell ⟨w.heap.size + 1, 0, none⟩ (.slice av2 (pre.length + 1) cv2)).heap[w.heap.size + 1]? = some (.cells #[.slice av2 (pre.length + 1) cv2] 36 (0, 0)) := heap_setCell_same _ (w.heap.size + 1) 0 _ _ _ rb3
    obtain ⟨g1, h1⟩ := one_cell rb3
    have RI4 := Lib.hid rI4
    have RS4 := Lib.hid rS4
    have RA4 := Lib.hid ra4
    have RB4 := Lib.hid rb4
    have BAR3 := Lib.hid bar3
    have HAP2 := Lib.hid hap2
    clear b1 b2 b3 rb3 ra3 hap1 rS3 rI4 rS4 bar3 hap2 ra4 rb4 d0 e0 d1 e1
    refine Lib.hid ?_
    gi_wp2
    have hS : ∀ j, (j = w.heap.size ∨ j = w.heap.size + 1 ∨ sv.ownBlock = some j ∨ iv.ownBlock = some j) → j = w.heap.size ∨ j = w.heap.size + 1 ∨ w.heap.size + 3 ≤ j := by
      rintro j (e | e | e | e)
      · exact .inl e
      · exact .inr (.inl e)
      · exact .inr (.inr (HSV.out j e).1)
      · exact .inr (.inr (HIV.out j e).1)
    refine ⟨keeps_of_bar BAR3.out (fun j hj hlt => ?_), ⟨BAR3.out.below (by omega) (fun j hj e => by have := hS j e; omega), ?_, ?_⟩, ?_⟩
    · rcases hj with rfl | rfl | e | e
      · exact ⟨_, HR.out.ra, rfl⟩
      · exact ⟨_, HR.out.rb, rfl⟩
      · exact ownsRow_obj HR.out.rowS e
      · exact ownsRow_obj HR.out.rowI e
    · exact World.cell?_of_block (BAR3.out.block (w.heap.size + 1 + 1) (by omega) (fun e => by have := hS _ e; omega))
    · exact World.cell?_of_block (BAR3.out.block (w.heap.size + 1 + 1) (by omega) (fun e => by have := hS _ e; omega))
    · refine ⟨HBW.out.trans (BAR3.out.below HBW.out.size (fun j hj e => by have := hS j e; omega)), Nat.le_trans hW BAR3.out.size, .slice av (pre.length + 1) cv, .slice av2 (pre.length + 1) cv2, ?_⟩
      have e1 : strV ((pre ++ [k]).map code7) = strV (pre.map code7) ++ [.string s] := by rw [List.map_append, ← HS7.out]; simp
      have e2 : intV ((List.range (pre ++ [k]).length).map num7) = intV ((List.range pre.length).map num7) ++ [.int .i64 ((pre.length : Nat) + 1 : Int)] := by rw [List.length_append, List.length_singleton, List.range_succ]; simp [num7]
      rw [e1, e2, List.length_append, List.length_singleton]
      exact ⟨RA4.out, RB4.out, RS4.out, RI4.out, HAP2.out⟩
  case done =>
    rintro D ys W hD rfl ⟨hBW, hW, sv, iv, hR⟩ hK
    have hD' : w.heap.size ≤ D := by simp only [World.size_alloc] at hD; omega
    obtain ⟨c0, _⟩ := one_cell hR.ra
    obtain ⟨c1, _⟩ := one_cell hR.rb
    have h1 := hR.rowS
    have h2 := hR.rowI
    rw [codes7_all, List.length_range] at h1
    rw [List.length_range, nums7_all] at h2
    obtain ⟨sa, sc, rfl, hsr⟩ := rowV_own4 h1
    obtain ⟨ia, ic, rfl, hir⟩ := rowV_own4 h2
    have HM := Lib.hid (makeP_any hsr hir codes7_small nums7_small)
    have HB := Lib.hid hBW
    have HKD := Lib.hid hK
    clear hR h1 h2 hsr hir hBW hK
    gi_wp2_with (refine ⟨trivial, ?_⟩; gi_at_call 41; refine (callsIn_wide.2 HM.out).mono ?_; rintro e w3 ⟨hb3, hm⟩; obtain ⟨_, bt, rfl, hT⟩ := hm.resolve_right (fun h => h.1 make7); have HB3 := Lib.hid hb3; have HT := Lib.hid hT; clear hb3 hT hm)
    have hlt := (Array.getElem?_eq_some_iff.1 HKD.out).1
    have hK3 := (HB3.out.block D hlt).trans HKD.out
    refine ⟨by simp, .inl ⟨_, _, rfl, run_takeDeferred hK3, ?_⟩⟩
    refine ⟨.pointer (some ⟨bt, 0, none⟩), by simp [results, Tryd.f27, go_sem], _, _, bt, rfl, HT.out.keep (S := fun j => j = D) (bar_of_grown (grownBy_putObj' _ D (.deferred none)) (fun k e => by cases e; rfl)) (fun k h1 _ e => by omega), ?_⟩
    exact (HB.out.trans (HB3.out.mono HB.out.size)).trans (belowK_b (w := w) (Nat.le_refl _) _ D _ _ hD' hK3 rfl rfl)

theorem ntree_any (w : World) (hSp : Spc w) :
    Calls Tryd.prog 27 #[] w fun e w' => ∃ n₀ m₁ b, e = .returned (.pointer (some ⟨b, 0, none⟩)) ∧ IsPT n₀ m₁ w' b codes7 nums7 ∧ Below w.heap.size w w' := callsIn_wide.1 (ntree_in 4 (by omega) w hSp)

set_option maxHeartbeats 1000000 in
theorem nget_any {n₁ : Nat} {w : World} {sv : Value} {zs : List UInt8} (hB : Byt n₁ w sv zs) (hn : n₁ ≤ w.heap.size) (hl : zs.length ≤ 1099511627776) (hSp : Spc w) (x : Int) (hx : x ≤ 9223372036854775807) :
    Calls Tryd.prog 11 #[sv, .int .i64 x] w fun e w' => e = .returned (getT codes7 nums7 zs x) ∧ Below w.heap.size w w' := by
  have HB := Lib.hid (fun w' (hb : Below w.heap.size w w') => hB.below (hb.mono hn))
  have HTr := Lib.hid (ntree_any w hSp)
  clear hB hSp
  obtain ⟨g, n, e0, hg⟩ := getT_form7 codes7 nums7 zs x
  have HG := Lib.hid hg
  rw [hg]
  clear hg
  go_enter Tryd.func11, Tryd.ntmps11
  go_wp2_with fail
  refine HTr.out.mono ?_
  rintro e w1 ⟨n₀, m₁, b, rfl, hT, b1⟩
  have HGt := Lib.hid (getP_any hT (HB.out _ b1) (by have := b1.size; omega) hl x hx)
  rw [HG.out] at HGt
  have HB1 := Lib.hid b1
  clear hT b1
  go_wp2_with (go_at_call 28; refine HGt.out.mono ?_; rintro e w2 ⟨rfl, b2⟩)
  go_ret3
  exact ⟨rfl, below_chain HB1.out (Nat.le_refl _) b2⟩

/-- pattern's functions, as the laws want them -/
theorem patternI : PatternI where
  get := fun hB hn hl hS x hx => nget_any hB hn hl hS x hx
  put := fun n w hS h1 h2 => nput_any n w hS h1 h2
  has := fun n b w h1 h2 h3 h4 => nhas_any n b w h1 h2 h3 h4
  count := fun n w h1 h2 => ncount_any n w h1 h2

end Go.Proofs.YtichkoilhnkmkaaDoor
