/- motion: the kit's Size, Scene, Spot. -/
import Derived.Test.YtenplmmongphoaaMPlain
namespace Go.Proofs.Ytenplmmongphoaa
open Go.RowKit Go.Shelf Go.Sort
set_option linter.unusedVariables false

theorem ksize14_any (f : Int) (W : World) : Calls Try.prog 40 #[.int .i64 f] W fun e W' => e = .returned (.int .i64 (sN f)) ∧ W = W' := by
  rcases f_cases f with rfl | rfl | ⟨h0, h1⟩
  · go_enter Try.func40, Try.ntmps40
    go_wp2
    go_ret
    exact ⟨rfl, rfl⟩
  · go_enter Try.func40, Try.ntmps40
    go_wp2
    go_ret
    exact ⟨rfl, rfl⟩
  · rw [(none_ans h0 h1).2.2.1]
    go_enter Try.func40, Try.ntmps40
    go_wp2
    go_ret
    exact ⟨rfl, rfl⟩
theorem sN_nat (f : Int) : ∃ n : Nat, sN f = (n : Int) ∧ n ≤ 152064 := by
  rcases f_cases f with rfl | rfl | ⟨h0, h1⟩
  · exact ⟨38016, rfl, by omega⟩
  · exact ⟨152064, rfl, by omega⟩
  · exact ⟨0, by rw [(none_ans h0 h1).2.2.1]; rfl, by omega⟩

/-- n bytes at the head of block b -/
def BytesAt (b n : Nat) (W : World) : Prop := ∃ zs : List UInt8, zs.length = n ∧ W.heap[b]? = some (.cells (u8s zs).toArray 5 (0, 0))

theorem BytesAt.put {b n : Nat} {W : World} (h : BytesAt b n W) (k : Nat) (z : Int) (h0 : 0 ≤ z) (h1 : z < 256) : BytesAt b n (W.setCell ⟨b, k, none⟩ (.int .u8 z)) := by
  obtain ⟨zs, hl, hz⟩ := h
  refine ⟨zs.set k (UInt8.ofNat z.toNat), by simpa using hl, ?_⟩
  rw [heap_setCell_same W b k _ _ _ hz]
  have e : ((UInt8.ofNat z.toNat).toNat : Int) = z := by
    have : (UInt8.ofNat z.toNat).toNat = z.toNat := by simp; omega
    rw [this]; omega
  simp only [u8s, List.map_set, e]
  simp

set_option maxRecDepth 100000 in
set_option maxHeartbeats 2000000 in
theorem scene14_any (f a b : Int) (ha : -9223372036854775808 ≤ a ∧ a ≤ 9223372036854775807) (hb : -9223372036854775808 ≤ b ∧ b ≤ 9223372036854775807) (W : World) :
    Calls Try.prog 23 #[.int .i64 f, .int .i64 a, .int .i64 b] W fun e W' => ∃ zs : List UInt8, (zs.length : Int) = sN f ∧ e = .returned (.slice (some ⟨W.heap.size, 0, none⟩) zs.length zs.length) ∧ W'.heap[W.heap.size]? = some (.cells (u8s zs).toArray 5 (0, 0)) ∧ Below W.heap.size W W' := by
  have HS := Lib.hid (ksize14_any f)
  obtain ⟨n, hn, hn2⟩ := sN_nat f
  rw [hn] at HS ⊢
  clear hn
  obtain ⟨i0, hi, hz0, hz1, hz2⟩ := info_parts Try.info5
  go_enter Try.func23, Try.ntmps23
  go_wp2_with (first | (go_at_call 40; refine (HS.out _).mono ?_; rintro e w' ⟨rfl, rfl⟩) | (at_make; refine wpList_make_full _ rfl _ _ 22 rfl W.heap.size 5 i0 (.int .u8 0) 1 Try.underlying22 hi hz0 hz1 .i64 .i64 _ _ n rfl rfl ?m1 ?m2 ?m3 ?m4 (Nat.le_refl _) ?_))
  case m1 => rfl
  case m2 => rfl
  case m3 => rw [hz2]; omega
  case m4 => unfold maxLen; omega
  intro w1 hown hgrow
  have hs := hgrow.size
  have hrow := row_block hown
  rw [made_u8] at hrow
  have hb : Below W.heap.size W w1 := ⟨hgrow.os, hgrow.tape, hgrow.output, hgrow.size, fun k hk => hgrow.block k hk (by simp)⟩
  clear hown hgrow hz0 hz1 hz2 hi
  go_wp2_with fail
  go_loopw [8, 9] (fun x i wr => ∃ (X : Int) (k : Nat), x = .int .u64 X ∧ i = .int .i64 (k : Int) ∧ k ≤ n ∧ BytesAt W.heap.size n wr ∧ Below W.heap.size W wr) (fun _ i _ => n - (intOf i).toNat)
  case atStart => exact ⟨_, 0, rfl, rfl, by omega, ⟨_, by simp, hrow⟩, hb⟩
  case round =>
    obtain ⟨X, k, rfl, rfl, hk, hB, hbw⟩ := hrel
    have HBw := Lib.hid hbw
    have HBy := Lib.hid hB
    obtain ⟨zs, hzl, hzs⟩ := hB
    clear hbw hrow hb
    by_cases hk2 : k < n
    · have hk3 : (k : Int) < (n : Int) := by omega
      have ck : wr.cell? ⟨W.heap.size, k, none⟩ = some (.int .u8 ((zs[k]?.getD 0).toNat)) := by
        have hk4 : k < zs.length := by omega
        unfold World.cell?
        simp only
        rw [hzs]
        simp [u8s, hk4]
      have fk : wr.frozen? ⟨W.heap.size, k, none⟩ = false := by
        unfold World.frozen?
        simp only
        rw [hzs]
        simp
      have HZ := Lib.hid hzs
      clear hzs
      go_wp2_with fail
      exact ⟨⟨_, k + 1, rfl, by go_num, by omega, HBy.out.put k _ (Int.emod_nonneg _ (by decide)) (Int.emod_lt_of_pos _ (by decide)), HBw.out.setCell (p := ⟨W.heap.size, k, none⟩) (Nat.le_refl _) _⟩, by simp [intOf]; omega⟩
    · obtain rfl : k = n := by omega
      go_wp2
      go_ret
      exact ⟨zs, by omega, by rw [hzl]; rfl, hzs, HBw.out⟩


set_option maxRecDepth 100000 in
set_option maxHeartbeats 2000000 in
theorem kspot_any (f g a : Int) (W : World) :
    Calls Try.prog 33 #[.int .i64 f, .int .i64 g, .int .i64 a] W fun e W' => ∃ F G A, cE F G A = 0 ∧ (1 ≤ G ∧ G ≤ 12) ∧ (1 ≤ A ∧ A ≤ 33) ∧ e = .returned (.agg #[.int .i64 F, .int .i64 G, .int .i64 A]) ∧ Below W.heap.size W W' := by
  have HP2 := Lib.hid (fun W => pick_any f 2 W (by omega) (by omega))
  have HP12 := Lib.hid (fun W => pick_any g 12 W (by omega) (by omega))
  have HP3 := Lib.hid (fun W => pick_any g 3 W (by omega) (by omega))
  have HP33 := Lib.hid (fun W => pick_any a 33 W (by omega) (by omega))
  obtain ⟨i, hi, hi2⟩ : ∃ i : Nat, a % 33 = (i : Int) ∧ i < 33 := ⟨(a % 33).toNat, by omega, by omega⟩
  obtain ⟨p, hp, hp2⟩ : ∃ p : Nat, g % 12 = (p : Int) ∧ p < 12 := ⟨(g % 12).toNat, by omega, by omega⟩
  obtain ⟨q, hq, hq2⟩ : ∃ q : Nat, g % 3 = (q : Int) ∧ q < 3 := ⟨(g % 3).toNat, by omega, by omega⟩
  rw [hi] at HP33
  rw [hp] at HP12
  rw [hq] at HP3
  clear hi hp hq
  rcases (show f % 2 = 0 ∨ f % 2 = 1 by omega) with hf | hf
  · rw [hf] at HP2
    clear hf
    have hc : cE 0 (1 + 2 * (q : Int)) (1 + (i : Int)) = 0 := by
      have : q = 0 ∨ q = 1 ∨ q = 2 := by omega
      unfold cE
      rw [if_pos (by rfl), if_pos (by rcases this with rfl | rfl | rfl <;> decide), if_pos (by omega)]
    have HC := Lib.hid hc
    clear hc
    go_enter Try.func33, Try.ntmps33
    go_wp2_with fail
    refine (HP2.out _).mono ?_
    rintro e w' ⟨rfl, rfl⟩
    go_wp2_with fail
    refine (HP12.out _).mono ?_
    rintro e w' ⟨rfl, rfl⟩
    go_wp2_with fail
    refine (HP33.out _).mono ?_
    rintro e w' ⟨rfl, rfl⟩
    go_wp2_with fail
    refine (HP3.out _).mono ?_
    rintro e w' ⟨rfl, rfl⟩
    go_wp2
    exact bodyPost_ret (v := .agg #[.int .i64 0, .int .i64 (1 + 2 * (q : Int)), .int .i64 (1 + (i : Int))]) (by simp [results, Try.f33, go_sem]) rfl ⟨_, _, _, HC.out, by omega, by omega, rfl, ((Below.refl _ W).alloc (Nat.le_refl _) _).alloc (by simp) _⟩
  · rw [hf] at HP2
    clear hf
    have hc : cE 1 (1 + (p : Int)) (1 + (i : Int)) = 0 := by
      unfold cE
      rw [if_pos (by rfl), if_pos (by unfold isG; simp; omega), if_pos (by omega)]
    have HC := Lib.hid hc
    clear hc
    go_enter Try.func33, Try.ntmps33
    go_wp2_with fail
    refine (HP2.out _).mono ?_
    rintro e w' ⟨rfl, rfl⟩
    go_wp2_with fail
    refine (HP12.out _).mono ?_
    rintro e w' ⟨rfl, rfl⟩
    go_wp2_with fail
    refine (HP33.out _).mono ?_
    rintro e w' ⟨rfl, rfl⟩
    go_wp2
    exact bodyPost_ret (v := .agg #[.int .i64 1, .int .i64 (1 + (p : Int)), .int .i64 (1 + (i : Int))]) (by simp [results, Try.f33, go_sem]) rfl ⟨_, _, _, HC.out, by omega, by omega, rfl, ((Below.refl _ W).alloc (Nat.le_refl _) _).alloc (by simp) _⟩

end Go.Proofs.Ytenplmmongphoaa
