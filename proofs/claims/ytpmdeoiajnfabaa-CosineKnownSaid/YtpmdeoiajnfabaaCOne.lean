/- cosine.Line. -/
import Derived.Test.YtpmdeoiajnfabaaCSml
namespace Go.Proofs.Ytpmdeoiajnfabaa
open Go.RowKit Go.Shelf
set_option linter.unusedVariables false

theorem NumsAt.ownC {w : World} {g n : Nat} {t : TypeId} {b : List Int} (h : NumsAt w g t b) (hb : b.length = n) (hn : n ≤ 64) {base : Nat} (hg : base ≤ g) : w.ownsRow base t 1 (.slice (some ⟨g, 0, none⟩) n n) n (intV b) :=
  ⟨by simp [hb], .inr ⟨g, n, numsA b, rfl, hg, h, Nat.le_refl _, by unfold maxLen; omega, by simp [hb], List.take_of_length_le (by simp [hb])⟩⟩
theorem lineR_size (l : List Int) : (lineR l).2.length ≤ 8 := by
  unfold lineR
  split <;> simp [lineS_length]

set_option maxRecDepth 100000 in
set_option maxHeartbeats 2000000 in
theorem line11_any {n₀ : Nat} {w : World} {av : Option Addr} {len cap : Nat} {xs : List Int} (hR : RowV n₀ w av len cap (intV xs)) (hn : n₀ ≤ w.heap.size) (hlen : len ≤ 1000000) :
    Calls Try.prog 16 #[.slice av len cap] w fun e w' => ∃ v, e = .returned (.tuple #[v, .int .i64 (lineR xs).1]) ∧ OwnI w' w.heap.size v (lineR xs).2 ∧ Below w.heap.size w w' := by
  have hl : xs.length = len := by have := hR.1; simpa using this
  have HC := Lib.hid (show Calls Try.prog 25 #[.slice av len cap, .int .i64 8, .int .i64 (-1099511627776), .int .i64 1099511627776] w _ from check11_any hR hn hlen 8 (-1099511627776) 1099511627776)
  rcases checkR_cases xs 8 (-1099511627776) 1099511627776 with h | h | ⟨h, h8, hall⟩
  · rw [lineR_bad (by rw [h]; decide)]
    rw [h] at HC ⊢
    clear h hR
    go_enter Try.func16, Try.ntmps16
    go_wp2_with fail
    refine HC.out.mono ?_
    rintro e w1 ⟨rfl, rfl⟩
    go_wp2_with fail
    go_ret2
    exact ⟨_, rfl, ownI_nil _ _, Below.refl _ _⟩
  · rw [lineR_bad (by rw [h]; decide)]
    rw [h] at HC ⊢
    clear h hR
    go_enter Try.func16, Try.ntmps16
    go_wp2_with fail
    refine HC.out.mono ?_
    rintro e w1 ⟨rfl, rfl⟩
    go_wp2_with fail
    go_ret2
    exact ⟨_, rfl, ownI_nil _ _, Below.refl _ _⟩
  · rw [lineR_ok h]
    rw [h] at HC
    obtain rfl : len = 8 := by omega
    have HIn := Lib.hid (checkR_in (m := 8) hall (M := 1099511627776) (by omega) (by omega) (by omega))
    obtain ⟨b, off, rfl, hb, hc⟩ := hR.cells (by omega)
    have HB := Lib.hid (fun w' (hb' : Below w.heap.size w w') j u (hu : (intV xs)[j]? = some u) => (hb'.cell (p := ⟨b, off + j, none⟩) (by simp; omega)).trans (hc j u hu))
    have HM := Lib.hid (makeWeights_any w)
    have HLn := Lib.hid (show (intV xs).length = 8 by simp [hl])
    clear h hR hall hc
    simp only
    go_enter Try.func16, Try.ntmps16
    go_wp2_with fail
    refine HC.out.mono ?_
    rintro e w1 ⟨rfl, rfl⟩
    go_wp2_with fail
    refine HM.out.mono ?_
    rintro e w1 ⟨rfl, b1⟩
    have B1 := Lib.hid b1
    have HB2 := Lib.hid (B1.out.alloc B1.out.size (.cells (numsA zeros64) 46))
    have HB3 := Lib.hid (below_setRowZ HB2.out B1.out.size (numsA wtL))
    have HN3 := Lib.hid ((numsAt_new w1 46 zeros64).setRow (c := wtL))
    have HAd := Lib.hid (RowV.addCells (n₀ := 0) (len := 8) (cap := 8) (HB.out _ HB3.out))
    have HZ := Lib.hid (World.alloc_heap_new w1 (.cells (numsA zeros64) 46))
    clear b1
    refine Lib.hid ?_
    go_wp2_with (first
      | (with_reducible refine wpList_allocZ rfl 46 (numsA zeros64) rfl wts_zero ?_)
      | (with_reducible refine wpList_storeZ rfl 46 _ _ rfl w1.heap.size (numsA wtL) rfl rfl 46 (numsA zeros64) HZ.out 64 wtL_size wts_info zeroW_size (numsA_one _) ?_)
      | (with_reducible refine wpList_arrZ rfl 48 _ rfl _ 8 _ 8 3 rfl eight_under (Nat.le_refl _) ?_)
      | (with_reducible refine wpList_loadZ rfl 48 _ rfl ⟨b, off, none⟩ rfl (intV xs) HAd.out 8 3 eight_under 8 HLn.out eight_info ?_))
    refine (line_any HN3.out xs h8 HIn.out).mono ?_
    rintro e w4 ⟨rfl, b4⟩
    have B4 := Lib.hid (HB3.out.trans (b4.mono HB3.out.size))
    have HZ4 := Lib.hid (World.alloc_heap_new w4 (.cells (numsA zeros8) 48))
    have HLz := Lib.hid (show (numsA (lineS xs)).size = 8 by simp [lineS_length])
    have HN5 := Lib.hid ((numsAt_new w4 48 zeros8).setRow (c := lineS xs))
    have h5 := B4.out.size
    have HB5 := Lib.hid (below_setRowZ (B4.out.alloc h5 (.cells (numsA zeros8) 48)) h5 (numsA (lineS xs)))
    clear b4
    go_wp2_with (first
      | (with_reducible refine wpList_allocZ rfl 48 (numsA zeros8) rfl eight_zero ?_)
      | (with_reducible refine wpList_storeZ rfl 48 _ _ rfl w4.heap.size (numsA (lineS xs)) rfl rfl 48 (numsA zeros8) HZ4.out 8 HLz.out eight_info zeros8_size (numsA_one _) ?_))
    go_ret2
    exact ⟨_, rfl, ⟨48, by rw [lineS_length]; exact HN5.out.ownC (lineS_length _) (by omega) h5⟩, HB5.out⟩

end Go.Proofs.Ytpmdeoiajnfabaa
