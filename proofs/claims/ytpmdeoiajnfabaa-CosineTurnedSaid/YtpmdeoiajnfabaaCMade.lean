/- The laws' helpers made and lines (praxinoscopelaw11). -/
import Derived.Test.YtpmdeoiajnfabaaCLaw
namespace Go.Proofs.Ytpmdeoiajnfabaa
open Go.RowKit Go.Shelf
set_option linter.unusedVariables false

theorem wrap_4096 (x : Int) : wrap64 (x + 2048) % 4096 = (x + 2048) % 4096 := by
  have h : IntKind.i64.wrap (x + 2048) = wrap64 (x + 2048) := by first | rfl | (rw [IntKind.wrap_i64]; rfl) | (unfold wrap64; rw [IntKind.wrap_i64])
  rw [← h, IntKind.wrap_i64]
  omega
/-- a number from -2,048 to 2,047, by any number -/
def mdC (x : Int) : Int := (x + 2048) % 4096 - 2048
def madeP (xs : List Int) (k : Nat) : List Int := ofC 64 fun j => if j < k then mdC (nthC xs j) else 0
def madeC (xs : List Int) : List Int := madeP xs xs.length
theorem madeP_length (xs : List Int) (k : Nat) : (madeP xs k).length = 64 := ofC_length _ _
theorem madeC_length (xs : List Int) : (madeC xs).length = 64 := ofC_length _ _
theorem madeP_zero (xs : List Int) : madeP xs 0 = zeros64 := listC_ext (madeP_length _ _) rfl (fun j hj => by unfold madeP; rw [ofC_get hj, if_neg (by omega)]; unfold nthC zeros64; rw [List.getElem?_replicate, if_pos hj]; rfl)
theorem madeP_step (xs : List Int) {k : Nat} (hk : k < 64) : (madeP xs k).set k (mdC (nthC xs k)) = madeP xs (k + 1) := by
  unfold madeP
  rw [ofC_set hk]
  apply ofC_congr
  intro j hj
  by_cases h : j = k
  · rw [if_pos h, if_pos (by omega), h]
  · rw [if_neg h]
    by_cases h2 : j < k
    · rw [if_pos h2, if_pos (by omega)]
    · rw [if_neg h2, if_neg (by omega)]
theorem mdC_in (x : Int) : -2048 ≤ mdC x ∧ mdC x ≤ 2047 := by unfold mdC; omega
theorem madeC_in (xs : List Int) (j : Nat) : -2048 ≤ nthC (madeC xs) j ∧ nthC (madeC xs) j ≤ 2047 := by
  unfold madeC madeP
  by_cases hj : j < 64
  · rw [ofC_get hj]
    split
    · exact mdC_in _
    · omega
  · rw [ofC_out (by omega)]
    omega
theorem checkR_made {b : List Int} (hb : b.length = 64) (h : ∀ j, -2048 ≤ nthC b j ∧ nthC b j ≤ 2047) : checkR b 64 (-2048) 2047 = 0 :=
  checkR_ok hb ((allC_iff b _ _).2 (fun j _ => (okNC_iff _ _ _).2 (h j)))

set_option maxRecDepth 100000 in
set_option maxHeartbeats 2000000 in
theorem made11_any {n₀ : Nat} {w : World} {av : Option Addr} {len cap : Nat} {xs : List Int} (hR : RowV n₀ w av len cap (intV xs)) (hn : n₀ ≤ w.heap.size) (hlen : len ≤ 64) :
    Calls Try.prog 22 #[.slice av len cap] w fun e w' => e = .returned (.slice (some ⟨w.heap.size, 0, none⟩) 64 64) ∧ NumsAt w' w.heap.size 3 (madeC xs) ∧ Below w.heap.size w w' := by
  have hl : xs.length = len := by have := hR.1; simpa using this
  have HR := Lib.hid hR
  have HP := Lib.hid (fun y W => pick_any y 4096 W (by omega) (by omega))
  obtain ⟨w0, hw0⟩ : ∃ w0, w.alloc (.cells (numsA zeros64) 3 (0, 0)) = w0 := ⟨_, rfl⟩
  have hmk := made64 w
  have HN := Lib.hid (numsAt_new w 3 zeros64)
  have HBn := Lib.hid (ints64_new w 3 zeros64)
  rw [hw0] at hmk HN HBn
  clear hw0 hR
  go_enter Try.func22, Try.ntmps22
  go_wp2_with fail
  clear hmk
  go_loopw [4] (fun i wr => ∃ k : Nat, i = .int .i64 k ∧ k ≤ len ∧ NumsAt wr w.heap.size 3 (madeP xs k) ∧ Below w.heap.size w wr) (fun i _ => len - (intOf i).toNat)
  case atStart => exact ⟨0, rfl, by omega, by rw [madeP_zero]; exact HN.out, HBn.out⟩
  case round =>
    obtain ⟨k, rfl, hk, hN, hB⟩ := hrel
    have HM := Lib.hid hN
    have HB := Lib.hid hB
    clear hN hB
    by_cases hk2 : k < len
    · obtain ⟨b, off, rfl, hbl, hc⟩ := HR.out.cells (by omega)
      have x1 := (HB.out.cell (p := ⟨b, off + k, none⟩) (by simp; omega)).trans (hc k (.int .i64 (xs[k]?.getD 0)) (by simp [show k < xs.length by omega]))
      change wr.cell? _ = some (.int .i64 (nthC xs k)) at x1
      have z1 : (k : Int) < len := by omega
      have z2 : (k : Int) < 64 := by omega
      have c1 := HM.out.cell (k := k) (by rw [madeP_length]; omega)
      have f1 := HM.out.frozen k
      have HSt := Lib.hid (madeP_step xs (show k < 64 by omega))
      clear hc
      generalize nthC xs k = x at *
      go_wp2_with fail
      refine (HP.out _ _).mono ?_
      rintro e w' ⟨rfl, rfl⟩
      rw [wrap_4096]
      have q1 : 0 ≤ (x + 2048) % 4096 := by omega
      have q2 : (x + 2048) % 4096 < 4096 := by omega
      unfold mdC at HSt
      generalize (x + 2048) % 4096 = q at *
      go_wp2_with fail
      go_roundw
      case rel => exact ⟨k + 1, by go_num, by omega, by rw [← HSt.out]; exact HM.out.set k _, HB.out.setCell (p := ⟨w.heap.size, k, none⟩) (Nat.le_refl _) _⟩
      case measure => simp [intOf]; omega
    · obtain rfl : k = len := by omega
      go_wp2_with fail
      go_ret
      exact ⟨rfl, by unfold madeC; rw [hl]; exact HM.out, HB.out⟩

end Go.Proofs.Ytpmdeoiajnfabaa
