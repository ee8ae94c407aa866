/- The library's bytes.Repeat, of one byte (bytes, math/bits). -/
import Derived.Test.YtenplmmongphoaaBytR
import Derived.Lib.MinMax
import Derived.Lib.MakeNoZero
import Derived.Test.YtenplmmongphoaaTPic
namespace Go.Proofs.Ytenplmmongphoaa
open Go.RowKit Go.Shelf Go.Sort
set_option linter.unusedVariables false
attribute [local go_sem] Oper.semAt_some

set_option maxRecDepth 100000 in
theorem bmul64_one (N : Nat) (hN : N = 38016 ∨ N = 152064) (W : World) : Calls Try.prog 80 #[.int .u64 1, .int .u64 (N : Int)] W fun e W' => e = .returned (.tuple #[.int .u64 0, .int .u64 (N : Int)]) ∧ W = W' := by
  rcases hN with rfl | rfl
  · go_enter Try.func80, Try.ntmps80
    go_wp2
    go_ret2
    exact ⟨rfl, rfl⟩
  · go_enter Try.func80, Try.ntmps80
    go_wp2
    go_ret2
    exact ⟨rfl, rfl⟩
theorem bmul_one (N : Nat) (hN : N = 38016 ∨ N = 152064) (W : World) : Calls Try.prog 64 #[.int .u64 1, .int .u64 (N : Int)] W fun e W' => e = .returned (.tuple #[.int .u64 0, .int .u64 (N : Int)]) ∧ W = W' := by
  have H := Lib.hid (fun W => bmul64_one N hN W)
  clear hN
  go_enter Try.func64, Try.ntmps64
  go_wp2_with fail
  refine (H.out _).mono ?_
  rintro e w1 ⟨rfl, rfl⟩
  go_wp2
  go_ret2
  exact ⟨rfl, rfl⟩

/-- the first m cells of a row hold one byte; besides nothing has changed -/
structure RepW (W : World) (n : Nat) (x : UInt8) (m : Nat) (wr : World) : Prop where
  row : ∃ cur : List Value, wr.heap[W.heap.size]? = some (.cells cur.toArray 5 (0, 0)) ∧ cur.length = n ∧ cur.take m = u8s (List.replicate m x)
  below : Below W.heap.size W wr
theorem RepW.cells {W : World} {n : Nat} {x : UInt8} {m : Nat} {wr : World} (h : RepW W n x m wr) {k : Nat} (hk : k ≤ m) (hm : m ≤ n) : ∀ j v, (u8s (List.replicate k x))[j]? = some v → wr.cell? ((⟨W.heap.size, 0, none⟩ : Addr).add j) = some v := by
  obtain ⟨cur, h1, h2, h3⟩ := h.row
  intro j v hv
  have hj : j < k := by simpa [u8s] using (List.getElem?_eq_some_iff.1 hv).1
  have hadd : (⟨W.heap.size, 0, none⟩ : Addr).add j = ⟨W.heap.size, j, none⟩ := by unfold Addr.add; split <;> simp_all
  have e : cur[j]? = (cur.take m)[j]? := by rw [List.getElem?_take, if_pos (by omega)]
  rw [hadd]
  simp only [World.cell?, h1]
  have : cur[j]? = some v := by
    rw [e, h3, ← hv]
    simp [u8s, show j < m by omega, hj]
  simpa using this
theorem RepW.step {W : World} {n : Nat} {x : UInt8} {m k : Nat} {wr w' : World} {cur : List Value} (h1 : cur.length = n) (h2 : cur.take m = u8s (List.replicate m x)) (hb : Below W.heap.size W wr) (hw : CopiedTo wr w' W.heap.size 5 (splice cur m (u8s (List.replicate k x)))) (hm : m + k ≤ n) : RepW W n x (m + k) w' := by
  refine ⟨⟨_, hw.1, ?_, ?_⟩, hb.trans (hw.2.below hb.size (fun j hj e => by omega))⟩
  · rw [length_splice _ _ _ (by simp [u8s]; omega), h1]
  · unfold splice
    rw [h2, ← List.append_assoc, List.take_left' (by simp [u8s])]
    simp [u8s, List.replicate_append_replicate]

set_option maxRecDepth 100000 in
set_option maxHeartbeats 4000000 in
theorem brepeat_any {W : World} {b : Nat} {x : UInt8} {t : TypeId} (hb : W.heap[b]? = some (.cells #[.int .u8 x.toNat] t (0, 0))) (N : Nat) (hN : N = 38016 ∨ N = 152064) :
    Calls Try.prog 49 #[.slice (some ⟨b, 0, none⟩) 1 1, .int .i64 (N : Int)] W fun e W' => e = .returned (.slice (some ⟨W.heap.size, 0, none⟩) N N) ∧ (∃ rest, PicW W' W.heap.size [] (List.replicate N x) rest) ∧ Below W.heap.size W W' := by
  have HM := Lib.hid (fun W => bmul_one N hN W)
  obtain ⟨cs, hrun, hle, -⟩ := Lib.run_makeNoZero (P := Try.prog) W #[3] 22 5 Try.underlying22 N (by omega)
  have hcall : (callFunc 65 #[.int .i64 (N : Int)]).run Try.prog W = .ok (.value (.slice (some ⟨W.heap.size, 0, none⟩) N cs.size)) ((W.alloc (.cells cs 5)).drewN 2) := by
    rw [run_callFunc_extern Try.func65 (by kernel_rfl) (by kernel_rfl) (by kernel_rfl) (e := Extern.BytealgMakeNoZero.makeNoZero #[3] #[22]) (by kernel_rfl), hrun]
    rfl
  clear hrun
  have i0 : (8192 : Int) < (N : Int) := by omega
  have i1 : (N : Int) ≤ (cs.size : Int) := by omega
  have i2 : (N : Int) ≤ 152064 := by omega
  clear hN
  have hg0 : ((W.alloc (.cells cs 5)).drewN 2).heap[W.heap.size]? = some (.cells cs.toList.toArray 5 (0, 0)) := by simpa using World.alloc_heap_new W (.cells cs 5)
  have hb0 : Below W.heap.size W ((W.alloc (.cells cs 5)).drewN 2) := ((Below.refl _ W).alloc (Nat.le_refl _) _).trans (below_drewN _ _ _)
  have hbl : b < W.heap.size := (Array.getElem?_eq_some_iff.1 hb).1
  have hc0 : ∀ j v, (u8s (List.replicate 1 x))[j]? = some v → ((W.alloc (.cells cs 5)).drewN 2).cell? ((⟨b, 0, none⟩ : Addr).add j) = some v := by
    intro j v hv
    obtain rfl : j = 0 := by have := (List.getElem?_eq_some_iff.1 hv).1; simp [u8s] at this; omega
    have e1 : ((W.alloc (.cells cs 5)).drewN 2).heap[b]? = some (.cells #[.int .u8 x.toNat] t (0, 0)) := (hb0.block b hbl).trans hb
    have : some (Value.int .u8 x.toNat) = some v := by rw [← hv]; rfl
    rw [← this, show (⟨b, 0, none⟩ : Addr).add 0 = ⟨b, 0, none⟩ from rfl, Lib.cell_of_heap e1]
    rfl
  generalize hw0 : (W.alloc (.cells cs 5)).drewN 2 = W0 at *
  clear hw0
  have HG0 := Lib.hid hg0
  have HB0 := Lib.hid hb0
  have HC0 := Lib.hid hc0
  have HN := Lib.hid (show cs.size = cs.toList.length by simp)
  have HO := Lib.hid (fun k => (u8s_one : ∀ v ∈ u8s (List.replicate k x), v.oneCell' = true))
  have HL1 : Hid ((u8s (List.replicate 1 x)).length = Nat.min 1 N) := by
    show (u8s (List.replicate 1 x)).length = Nat.min 1 N
    rw [List.length_map, List.length_replicate]
    exact (Nat.min_eq_left (by omega)).symm
  have HL2 : Hid (0 + (u8s (List.replicate 1 x)).length ≤ cs.toList.length) := by
    show 0 + (u8s (List.replicate 1 x)).length ≤ cs.toList.length
    rw [List.length_map, List.length_replicate]
    simp
    omega
  clear hg0 hb0 hc0 hb
  go_enter Try.func49, Try.ntmps49
  go_wp2_with fail
  refine (HM.out _).mono ?_
  rintro e w1 ⟨rfl, rfl⟩
  go_wp2_with (refine wpList_copy_bar rfl (.tmp 58) (.tmp 59) 22 22 rfl 5 Try.underlying22 info1_byte (some ⟨W.heap.size, 0, none⟩) (some ⟨b, 0, none⟩) N N 1 1 (by rfl) (by rfl) W.heap.size 0 cs.toList 5 HG0.out (u8s (List.replicate 1 x)) HL1.out (fun _ => ⟨rfl, _, rfl, HC0.out⟩) HL2.out (HO.out 1) ?_; intro w1 hw1)
  have HR1 : Hid (RepW W cs.size x (0 + 1) w1) := RepW.step (m := 0) (by simp) (by simp [u8s]) HB0.out hw1.out (by omega)
  clear hw1 HG0 HC0
  go_loopw [10] (fun bp wr => ∃ m : Nat, bp = .int .i64 (m : Int) ∧ 1 ≤ m ∧ m ≤ N ∧ RepW W cs.size x m wr) (fun bp _ => N - (intOf bp).toNat)
  case atStart => exact ⟨1, rfl, by omega, by omega, HR1.out⟩
  case round =>
    obtain ⟨m, rfl, hm1, hm2, hR⟩ := hrel
    have HR := Lib.hid hR
    clear hR HR1
    by_cases hmN : m < N
    · have z1 : (m : Int) < (N : Int) := by omega
      obtain ⟨c, hc1, hc2, hc3⟩ : ∃ c : Nat, min (m : Int) 8192 = c ∧ 1 ≤ c ∧ c ≤ m := ⟨min m 8192, by omega, by omega, by omega⟩
      obtain ⟨k, hk⟩ : ∃ k, k = Nat.min c (N - m) := ⟨_, rfl⟩
      have hk2 : 1 ≤ k ∧ k ≤ c ∧ m + k ≤ N := by have : Nat.min c (N - m) = min c (N - m) := rfl; omega
      obtain ⟨cur, hg, hl, ht⟩ := HR.out.row
      have HG := Lib.hid (show wr.drew.heap[W.heap.size]? = some (.cells cur.toArray 5 (0, 0)) from hg)
      have HC : Hid (∀ j v, (u8s (List.replicate k x))[j]? = some v → wr.drew.cell? ((⟨W.heap.size, 0, none⟩ : Addr).add j) = some v) := HR.out.cells (k := k) (by omega) (by omega)
      have HA : Hid ((u8s (List.replicate k x)).length = Nat.min c (N - m)) := by
        show (u8s (List.replicate k x)).length = Nat.min c (N - m)
        rw [List.length_map, List.length_replicate, hk]
      have HBf : Hid (m + (u8s (List.replicate k x)).length ≤ cur.length) := by
        show m + (u8s (List.replicate k x)).length ≤ cur.length
        rw [List.length_map, List.length_replicate, hl]
        omega
      have HLt := Lib.hid (show cur.length = cs.size ∧ cur.take m = u8s (List.replicate m x) from ⟨hl, ht⟩)
      have HBw : Hid (Below W.heap.size W wr.drew) := HR.out.below.trans (below_drewN _ _ 1)
      have HK : Hid (goInt (u8s (List.replicate k x)).length = .int .i64 (k : Int)) := by
        show goInt (u8s (List.replicate k x)).length = .int .i64 (k : Int)
        rw [List.length_map, List.length_replicate]
        rfl
      have z2 : (c : Int) ≤ (N : Int) := by omega
      have z3 : ¬ N = m := by omega
      have z4 : (m : Int) ≤ (N : Int) := by omega
      have HK2 := Lib.hid hk2
      clear hg hl ht hk hk2 hmN
      go_wp2
      go_region_held3 (fun w' => True) (first | exact trivial) (first | (refine step_copy_bar rfl (.tmp 70) (.tmp 73) 22 22 rfl 5 Try.underlying22 info1_byte (some ⟨W.heap.size, m, none⟩) (some ⟨W.heap.size, 0, none⟩) (N - m) (N - m) c N (by rfl) (by rfl) W.heap.size m cur 5 HG.out (u8s (List.replicate k x)) HA.out (fun _ => ⟨rfl, _, rfl, HC.out⟩) HBf.out (HO.out k) ?_; intro w4 hw4))
      have e1 : IntKind.i64.wrap ((m : Int) + (k : Int)) = ((m + k : Nat) : Int) := by have := HK2.out; rw [IntKind.wrap_i64]; omega
      have HE := Lib.hid (RepW.step (k := k) HLt.out.1 HLt.out.2 HBw.out hw4.out (by have := HK2.out; omega))
      rw [e1]
      go_wp2
      go_roundw
      case rel => exact ⟨m + k, rfl, by omega, HK2.out.2.2, HE.out⟩
      case measure => have := HK2.out; simp [intOf]; omega
    · obtain rfl : m = N := by omega
      go_wp2
      go_ret
      obtain ⟨cur, h1, h2, h3⟩ := HR.out.row
      refine ⟨rfl, ⟨cur.drop m, ?_⟩, HR.out.below⟩
      unfold PicW
      rw [h1, List.nil_append, ← h3, List.take_append_drop]

end Go.Proofs.Ytenplmmongphoaa
