/- paint: the reference's Clip, Grey, Add, Flat (praxinoscoperef16). -/
import Derived.Test.YtenplmmongphoaaTPlain
import Derived.Test.YtenplmmongphoaaTPic
import Derived.Test.YtenplmmongphoaaQTail
import Derived.Test.YtenplmmongphoaaMKit
namespace Go.Proofs.Ytenplmmongphoaa
open Go.RowKit Go.Shelf Go.Sort
set_option linter.unusedVariables false

theorem rclip16_any (n : Int) (W : World) : Calls Try.prog 18 #[.int .i64 n] W fun e W' => e = .returned (.int .u8 (((clB n).toNat : Nat) : Int)) ∧ W = W' := by
  have hv : min (max n 0) 255 = (((clB n).toNat : Nat) : Int) := by rw [clB_val]; rfl
  generalize clB n = z at *
  have hz := z.toNat_lt
  have e1 : IntKind.u8.wrap ((z.toNat : Nat) : Int) = ((z.toNat : Nat) : Int) := by rw [IntKind.wrap_u8]; omega
  go_enter Try.func18, Try.ntmps18
  go_wp2
  go_ret
  exact ⟨rfl, rfl⟩

/-- so many bytes grey -/
def greyP (n k : Nat) : List UInt8 := List.replicate k 128 ++ List.replicate (n - k) 0
theorem greyP_length {n k : Nat} (h : k ≤ n) : (greyP n k).length = n := by unfold greyP; simp; omega
theorem greyP_step {n k : Nat} (h : k < n) : (greyP n k).set k 128 = greyP n (k + 1) := by
  unfold greyP
  rw [List.set_append_right _ _ (by simp), List.length_replicate, Nat.sub_self, show n - k = (n - (k + 1)) + 1 by omega, List.replicate_succ, List.replicate_succ', List.append_assoc]
  rfl
set_option maxRecDepth 100000 in
set_option maxHeartbeats 2000000 in
theorem rgrey16_any (f : Int) (W : World) : Calls Try.prog 29 #[.int .i64 f] W fun e W' => ∃ v, e = .returned v ∧ W'.ownsRow W.heap.size 5 1 v (greyL f).length (u8s (greyL f)) ∧ Below W.heap.size W W' := by
  have HS := Lib.hid (fun W => rsize13_any f W)
  by_cases hf : isF f = true
  · have hE : sE f = 0 := if_pos hf
    rw [hE] at HS
    obtain ⟨n, hn, hn2⟩ := sN_nat f
    have hg : greyL f = List.replicate n 128 := by unfold greyL; rw [hn]; rfl
    rw [hn] at HS
    rw [hg, List.length_replicate]
    clear hn hg hE hf
    obtain ⟨i0, hi, hz0, hz1, hz2⟩ := info_parts Try.info5
    go_enter Try.func29, Try.ntmps29
    go_wp2_with (first | (go_at_call 50; refine (HS.out _).mono ?_; rintro e w' ⟨rfl, rfl⟩) | (at_make; refine wpList_make_full _ rfl _ _ 22 rfl W.heap.size 5 i0 (.int .u8 0) 1 Try.underlying22 hi hz0 hz1 .i64 .i64 _ _ n rfl rfl ?m1 ?m2 ?m3 ?m4 (Nat.le_refl _) ?_))
    case m1 => rfl
    case m2 => rfl
    case m3 => rw [hz2]; omega
    case m4 => unfold maxLen; omega
    intro w1 hown hgrow
    have hs := hgrow.size
    have hrow := row_block hown
    rw [made_u8] at hrow
    have hb : Below W.heap.size W w1 := ⟨hgrow.os, hgrow.tape, hgrow.output, hgrow.size, fun k hk => hgrow.block k hk (by simp)⟩
    have HN := Lib.hid (show BytR w1 W.heap.size (greyP n 0) by unfold BytR greyP; simpa using hrow)
    have HB := Lib.hid hb
    clear hown hgrow hrow hb hz0 hz1 hz2 hi
    go_wp2_with fail
    go_loopw [8] (fun i wr => ∃ k : Nat, i = .int .i64 (k : Int) ∧ k ≤ n ∧ BytR wr W.heap.size (greyP n k) ∧ Below W.heap.size W wr) (fun i _ => n - (intOf i).toNat)
    case atStart => exact ⟨0, rfl, by omega, HN.out, HB.out⟩
    case round =>
      obtain ⟨k, rfl, hk, hN, hB⟩ := hrel
      have HO := Lib.hid hN
      have HBr := Lib.hid hB
      clear hN hB
      by_cases hk2 : k < n
      · have i0 : (k : Int) < n := by omega
        have c1 := HO.out.cell (k := k) (by rw [greyP_length (by omega)]; omega)
        have f1 := HO.out.frozen k
        have HSt := Lib.hid (greyP_step hk2)
        go_wp2_with fail
        go_roundw
        case rel => exact ⟨k + 1, by go_num, by omega, by rw [← HSt.out]; exact HO.out.set k 128, HBr.out.setCell (p := ⟨W.heap.size, k, none⟩) (Nat.le_refl _) _⟩
        case measure => simp [intOf]; omega
      · obtain rfl : k = n := by omega
        have hown := HO.out.own (n := k) (greyP_length (Nat.le_refl _)) (by omega) (Nat.le_refl _)
        rw [show greyP k k = List.replicate k 128 by unfold greyP; simp] at hown
        have HOw := Lib.hid hown
        clear hown
        go_wp2_with fail
        go_ret
        exact ⟨_, rfl, HOw.out, HBr.out⟩
  · have hE : sE f = 3 := if_neg hf
    have hN : greyL f = [] := by
      unfold greyL sN
      have h := isF_no (by simpa using hf)
      have n0 : f ≠ 0 := by simpa using h.1
      have n1 : f ≠ 1 := by simpa using h.2
      rw [if_neg n0, if_neg n1]
      rfl
    rw [hE] at HS
    rw [hN]
    go_enter Try.func29, Try.ntmps29
    go_wp2_with (go_at_call 50; refine (HS.out _).mono ?_; rintro e w' ⟨rfl, rfl⟩)
    go_ret
    exact ⟨_, rfl, World.ownsRow_nil _ _ _ _, Below.refl _ _⟩

/-- what has come up in Add's region -/
structure AddC (inp inr : Value) (q b off b2 off2 : Nat) (zb cb : UInt8) (y : Int) (v : Value) (k : Nat) (cs : List Value) (z : Value) (base : Nat) (W0 : World) (L : Nat → Bool) (x32 x33 x34 x35 x36 x37 x38 x39 x40 x41 x42 x43 x44 x45 x6 : Value) (W : World) : Prop where
  bar : Bar (fun j => v.ownBlock = some j) W0 W
  l0 : L 0 = true → x32 = v
  l1 : L 1 = true → x33 = inp
  l2 : L 2 = true → x34 = .int .i64 (q : Int)
  l3 : L 3 = true → x35 = .pointer (some ⟨b, off + q, none⟩)
  l4 : L 4 = true → x36 = .int .u8 ((zb.toNat : Nat) : Int)
  l5 : L 5 = true → x37 = .int .i64 ((zb.toNat : Nat) : Int)
  l6 : L 6 = true → x38 = inr
  l7 : L 7 = true → x39 = .int .i64 (q : Int)
  l8 : L 8 = true → x40 = .pointer (some ⟨b2, off2 + q, none⟩)
  l9 : L 9 = true → x41 = .int .i64 (y)
  l10 : L 10 = true → x42 = .int .i64 (((zb.toNat : Nat) : Int) + y)
  l11 : L 11 = true → x43 = .int .u8 ((cb.toNat : Nat) : Int)
  l12 : L 12 = true → ∃ g, x44 = .slice (some ⟨g, 0, none⟩) 1 1 ∧ W0.heap.size ≤ g ∧ (L 13 = false → W.heap[g]? = some (.cells #[z] 5 (0, 0)))
  n13 : L 13 = false → W.ownsRow base 5 1 v k cs
  l13 : L 13 = true → W.ownsRow base 5 1 x45 (k + 1) (cs ++ [z])
  l14 : x6 = if L 14 = true then x45 else v
def AddI (inp inr : Value) (q b off b2 off2 : Nat) (zb cb : UInt8) (y : Int) (fr : Value → Value → Value → Value → Value → Value → Value → Value → Value → Value → Value → Value → Value → Value → Value → Act) (v : Value) (k : Nat) (cs : List Value) (z : Value) (base : Nat) (W0 : World) (L : Nat → Bool) (ac : Act) (W : World) : Prop :=
  ∃ x32 x33 x34 x35 x36 x37 x38 x39 x40 x41 x42 x43 x44 x45 x6, ac = fr x32 x33 x34 x35 x36 x37 x38 x39 x40 x41 x42 x43 x44 x45 x6 ∧ AddC inp inr q b off b2 off2 zb cb y v k cs z base W0 L x32 x33 x34 x35 x36 x37 x38 x39 x40 x41 x42 x43 x44 x45 x6 W

set_option maxRecDepth 100000 in
set_option maxHeartbeats 4000000 in
theorem radd16_any {n₀ n₁ : Nat} {w : World} {sv : Value} {zs : List UInt8} {av : Option Addr} {len cap2 : Nat} {rs : List Int} (hB : Byt n₀ w sv zs) (hn : n₀ ≤ w.heap.size) (hR : RowV n₁ w av len cap2 (intV rs)) (hn₁ : n₁ ≤ w.heap.size) (hlen : len ≤ 1000000) :
    Calls Try.prog 13 #[sv, .slice av len cap2] w fun e w' => ∃ v, e = .returned (.tuple #[v, .int .i64 (adE zs.length rs)]) ∧ w'.ownsRow w.heap.size 5 1 v (adL zs rs).length (u8s (adL zs rs)) ∧ Below w.heap.size w w' := by
  have hl : rs.length = len := by have := hR.1; simpa using this
  obtain ⟨a', cap, rfl, hzl, hcell⟩ := hB
  rcases adE_cases zs.length rs with ⟨hn2, he⟩ | ⟨h8, h8', hall, he⟩ | ⟨h8, h8', hall, he⟩
  · have hL : adL zs rs = [] := by unfold adL; rw [if_neg (by omega)]
    rw [hL, he]
    by_cases h1 : zs.length = 64
    · have t1 : ((zs.length : Int) != 64) = false := by simp; omega
      have t2 : ((len : Int) != 64) = true := by simp; omega
      clear hcell hR
      go_enter Try.func13, Try.ntmps13
      go_wp2
      exact bodyPost_ret (v := .tuple #[.slice none 0 0, .int .i64 2]) (by simp [results, Try.f13, go_sem]) rfl ⟨.slice none 0 0, rfl, World.ownsRow_nil _ _ _ _, Below.refl _ _⟩
    · have t1 : ((zs.length : Int) != 64) = true := by simp; omega
      clear hcell hR
      go_enter Try.func13, Try.ntmps13
      go_wp2
      exact bodyPost_ret (v := .tuple #[.slice none 0 0, .int .i64 2]) (by simp [results, Try.f13, go_sem]) rfl ⟨.slice none 0 0, rfl, World.ownsRow_nil _ _ _ _, Below.refl _ _⟩
  all_goals
    obtain rfl : len = 64 := by omega
    obtain ⟨b2, off2, rfl, hbl2, hc2⟩ := hR.cells (by omega)
    rcases hcell with e | ⟨b, off, rfl, hbl, hc⟩
    · rw [e] at h8; cases h8
    have HX := Lib.hid (fun W' (h : Below w.heap.size w W') j (hj : j < 64) => (h.cell (p := ⟨b, off + j, none⟩) (by simp; omega)).trans (hc j (by omega)))
    have HY := Lib.hid (fun W' (h : Below w.heap.size w W') j (hj : j < 64) => (h.cell (p := ⟨b2, off2 + j, none⟩) (by simp; omega)).trans (hc2 j (.int .i64 (nthC rs j)) (by simp [nthC, show j < rs.length by omega])))
    have HCl := Lib.hid (fun n W => rclip16_any n W)
    rw [h8]
    have HStp : Hid (∀ k, u8s ((List.range k).map (adB zs rs)) ++ [.int .u8 (((adB zs rs k).toNat : Nat) : Int)] = u8s ((List.range (k + 1)).map (adB zs rs))) := fun k => by rw [List.range_succ]; simp [u8s]
    have HVal : Hid (∀ k, clB ((((zs[k]?.getD 0).toNat : Nat) : Int) + nthC rs k) = adB zs rs k) := fun k => rfl
  · have hL : adL zs rs = [] := by unfold adL; rw [if_neg (by omega)]
    have HNo : Hid (¬ ∀ j, j < 64 → -1048576 ≤ nthC rs j ∧ nthC rs j ≤ 1048576) := fun h => by
      rw [(allC_iff rs _ _).2 (fun j hj => (okNC_iff _ _ _).2 (h j (by omega)))] at hall
      cases hall
    rw [hL, show adE 64 rs = 3 by rw [← h8]; exact he]
    have HRes : Hid ((∀ j, j < 64 → -1048576 ≤ nthC rs j ∧ nthC rs j ≤ 1048576) → False) := HNo.out
    have HBad : Hid (∀ w' : World, Below w.heap.size w w' → ∃ v, Ending.returned (.tuple #[.slice none 0 0, .int .i64 3]) = Ending.returned (.tuple #[v, .int .i64 3]) ∧ w'.ownsRow w.heap.size 5 1 v ([] : List UInt8).length (u8s []) ∧ Below w.heap.size w w') := fun w' hb => ⟨.slice none 0 0, rfl, World.ownsRow_nil _ _ _ _, hb⟩
    clear hR hc hc2 hall he hL HNo
    go_enter Try.func13, Try.ntmps13
    go_wp2
    go_loopw [6, 7] (fun v i wr => ∃ k : Nat, i = .int .i64 (k : Int) ∧ k ≤ 64 ∧ wr.ownsRow w.heap.size 5 1 v k (u8s ((List.range k).map (adB zs rs))) ∧ Below w.heap.size w wr ∧ ∀ j, j < k → -1048576 ≤ nthC rs j ∧ nthC rs j ≤ 1048576) (fun _ i _ => 64 - (intOf i).toNat)
    case atStart => exact ⟨0, rfl, by omega, World.ownsRow_nil _ _ _ _, Below.refl _ _, fun j hj => by omega⟩
    case round =>
      obtain ⟨k, rfl, hk, ho, hb, hok⟩ := hrel
      have HO := Lib.hid ho
      have HB := Lib.hid hb
      clear ho hb
      by_cases hk2 : k < 64
      · have z1 : (k : Int) < 64 := by omega
        have z0 : (0 : Int) ≤ k := by omega
        have x1 := HX.out _ HB.out k hk2
        have x2 := HY.out _ HB.out k hk2
        have hst := HStp.out k
        have hvl := HVal.out k
        have HOk := Lib.hid (show (-1048576 ≤ nthC rs k ∧ nthC rs k ≤ 1048576) → ∀ j, j < k + 1 → -1048576 ≤ nthC rs j ∧ nthC rs j ≤ 1048576 from fun h j hj => by
          by_cases e : j = k
          · rw [e]; exact h
          · exact hok j (by omega))
        clear hok
        generalize nthC rs k = y at *
        generalize zs[k]?.getD 0 = z at *
        generalize adB zs rs k = c at *
        have hz8 := z.toNat_lt
        have hz9 : ((z.toNat : Nat) : Int) < 256 := by omega
        have hz7 : (0 : Int) ≤ ((z.toNat : Nat) : Int) := by omega
        have e0 : IntKind.i64.wrap ((z.toNat : Nat) : Int) = ((z.toNat : Nat) : Int) := by rw [IntKind.wrap_i64]; omega
        generalize u8s ((List.range k).map (adB zs rs)) = cs at *
        have HSt := Lib.hid hst
        have HC1 := Lib.hid (fun W => HCl.out (((z.toNat : Nat) : Int) + y) W)
        rw [hvl] at HC1
        have hrd : ∀ Wr, Bar (fun j => u6.ownBlock = some j) wr Wr → Wr.cell? ⟨b, off + k, none⟩ = some (.int .u8 ((z.toNat : Nat) : Int)) ∧ Wr.cell? ⟨b2, off2 + k, none⟩ = some (.int .i64 y) := fun Wr hbr => by
          have hlt := HO.out.lt
          exact ⟨(hbr.cellC (p := ⟨b, off + k, none⟩) (by have := HB.out.size; simp; omega) (fun e => by have := (hlt _ e).1; simp at this; omega)).trans x1, (hbr.cellC (p := ⟨b2, off2 + k, none⟩) (by have := HB.out.size; simp; omega) (fun e => by have := (hlt _ e).1; simp at this; omega)).trans x2⟩
        have HRd := Lib.hid hrd
        have HLt := Lib.hid HO.out.lt
        have hzW := HB.out.size
        clear hst hvl hrd
        by_cases d1 : -1048576 ≤ y
        · by_cases d2 : y ≤ 1048576
          · have e1 : IntKind.i64.wrap (((z.toNat : Nat) : Int) + y) = ((z.toNat : Nat) : Int) + y := by rw [IntKind.wrap_i64]; omega
            have HOk2 := Lib.hid (HOk.out ⟨d1, d2⟩)
            have d1b : decide (y < -1048576) = false := by simp; omega
            have d2b : decide (1048576 < y) = false := by simp; omega
            go_wp2_with fail
            refine wp_region_inv (by kernel_rfl) (by kernel_rfl) (by kernel_rfl) (AddI (.slice (some ⟨b, off, none⟩) 64 cap) (.slice (some ⟨b2, off2, none⟩) 64 cap2) k b off b2 off2 z c y (fun x32 x33 x34 x35 x36 x37 x38 x39 x40 x41 x42 x43 x44 x45 x6 => { tmps := #[.slice (some ⟨b, off, none⟩) 64 cap, .slice (some ⟨b2, off2, none⟩) 64 cap2, undef, undef, u4, u5, x6, .int .i64 (k : Int), .slice (some ⟨b, off, none⟩) 64 cap, .int .i64 64, .bool false, .bool false, .slice (some ⟨b2, off2, none⟩) 64 cap2, .int .i64 64, .bool false, .bool false, .int .i64 (k : Int), .bool true, u18, u19, .slice (some ⟨b2, off2, none⟩) 64 cap2, .int .i64 (k : Int), .pointer (some ⟨b2, off2 + k, none⟩), .int .i64 y, .bool false, .bool false, .slice (some ⟨b2, off2, none⟩) 64 cap2, .int .i64 (k : Int), .pointer (some ⟨b2, off2 + k, none⟩), .int .i64 y, .bool false, .bool false, x32, x33, x34, x35, x36, x37, x38, x39, x40, x41, x42, x43, x44, x45, undef], defers := [] }) u6 k cs (.int .u8 ((c.toNat : Nat) : Int)) w.heap.size wr) ?h0 ?st ?hd
            case h0 =>
              intro L hL
              have e : ∀ i, ¬ L i = true := fun i h => by rw [hL i] at h; cases h
              exact ⟨u32, u33, u34, u35, u36, u37, u38, u39, u40, u41, u42, u43, u44, u45, u6, rfl, ⟨(Bar.refl _ _).drew, fun h => (e _ h).elim, fun h => (e _ h).elim, fun h => (e _ h).elim, fun h => (e _ h).elim, fun h => (e _ h).elim, fun h => (e _ h).elim, fun h => (e _ h).elim, fun h => (e _ h).elim, fun h => (e _ h).elim, fun h => (e _ h).elim, fun h => (e _ h).elim, fun h => (e _ h).elim, fun h => (e _ h).elim, fun _ => HO.out, fun h => (e _ h).elim, by rw [if_neg (e _)]⟩⟩
            case st =>
              refine ⟨?o0, ?o1, ?o2, ?o3, ?o4, ?o5, ?o6, ?o7, ?o8, ?o9, ?o10, ?o11, ?o12, ?o13, ?o14, trivial⟩
              case o0 =>
                rintro L a Wr hL hbe hcl ⟨x32, x33, x34, x35, x36, x37, x38, x39, x40, x41, x42, x43, x44, x45, x6, rfl, hC⟩
                have hE : L 14 = false := by rw [Bool.eq_false_iff]; intro h; have h2 := hcl 14 _ rfl h { on := 13, ground := .data } (by simp) rfl; have h3 := hcl 13 _ rfl h2 { on := 0, ground := .data } (by simp) rfl; rw [hL] at h3; cases h3
                have e5 := hC.l14
                rw [hE] at e5
                obtain rfl : x6 = u6 := e5
                have HC := Lib.hid hC
                clear hC hcl hbe
                go_simp
                exact ⟨_, x33, x34, x35, x36, x37, x38, x39, x40, x41, x42, x43, x44, x45, _, rfl, ⟨HC.out.bar, fun _ => rfl, HC.out.l1, HC.out.l2, HC.out.l3, HC.out.l4, HC.out.l5, HC.out.l6, HC.out.l7, HC.out.l8, HC.out.l9, HC.out.l10, HC.out.l11, HC.out.l12, HC.out.n13, HC.out.l13, HC.out.l14⟩⟩
              case o1 =>
                rintro L a Wr hL hbe hcl ⟨x32, x33, x34, x35, x36, x37, x38, x39, x40, x41, x42, x43, x44, x45, x6, rfl, hC⟩
                have HC := Lib.hid hC
                clear hC hcl hbe
                go_simp
                exact ⟨x32, _, x34, x35, x36, x37, x38, x39, x40, x41, x42, x43, x44, x45, x6, rfl, ⟨HC.out.bar, HC.out.l0, fun _ => rfl, HC.out.l2, HC.out.l3, HC.out.l4, HC.out.l5, HC.out.l6, HC.out.l7, HC.out.l8, HC.out.l9, HC.out.l10, HC.out.l11, HC.out.l12, HC.out.n13, HC.out.l13, HC.out.l14⟩⟩
              case o2 =>
                rintro L a Wr hL hbe hcl ⟨x32, x33, x34, x35, x36, x37, x38, x39, x40, x41, x42, x43, x44, x45, x6, rfl, hC⟩
                have HC := Lib.hid hC
                clear hC hcl hbe
                go_simp
                exact ⟨x32, x33, _, x35, x36, x37, x38, x39, x40, x41, x42, x43, x44, x45, x6, rfl, ⟨HC.out.bar, HC.out.l0, HC.out.l1, fun _ => rfl, HC.out.l3, HC.out.l4, HC.out.l5, HC.out.l6, HC.out.l7, HC.out.l8, HC.out.l9, HC.out.l10, HC.out.l11, HC.out.l12, HC.out.n13, HC.out.l13, HC.out.l14⟩⟩
              case o3 =>
                rintro L a Wr hL hbe hcl ⟨x32, x33, x34, x35, x36, x37, x38, x39, x40, x41, x42, x43, x44, x45, x6, rfl, hC⟩
                obtain rfl := hC.l1 (hbe { on := 1, ground := .data } (by simp) rfl)
                obtain rfl := hC.l2 (hbe { on := 2, ground := .data } (by simp) rfl)
                have HC := Lib.hid hC
                clear hC hcl hbe
                go_simp
                exact ⟨x32, _, _, _, x36, x37, x38, x39, x40, x41, x42, x43, x44, x45, x6, rfl, ⟨HC.out.bar, HC.out.l0, HC.out.l1, HC.out.l2, fun _ => rfl, HC.out.l4, HC.out.l5, HC.out.l6, HC.out.l7, HC.out.l8, HC.out.l9, HC.out.l10, HC.out.l11, HC.out.l12, HC.out.n13, HC.out.l13, HC.out.l14⟩⟩
              case o4 =>
                rintro L a Wr hL hbe hcl ⟨x32, x33, x34, x35, x36, x37, x38, x39, x40, x41, x42, x43, x44, x45, x6, rfl, hC⟩
                obtain rfl := hC.l3 (hbe { on := 3, ground := .data } (by simp) rfl)
                obtain ⟨p0, p1⟩ := HRd.out Wr hC.bar
                have HC := Lib.hid hC
                clear hC hcl hbe
                go_simp
                exact ⟨x32, x33, x34, _, _, x37, x38, x39, x40, x41, x42, x43, x44, x45, x6, rfl, ⟨HC.out.bar, HC.out.l0, HC.out.l1, HC.out.l2, HC.out.l3, fun _ => rfl, HC.out.l5, HC.out.l6, HC.out.l7, HC.out.l8, HC.out.l9, HC.out.l10, HC.out.l11, HC.out.l12, HC.out.n13, HC.out.l13, HC.out.l14⟩⟩
              case o5 =>
                rintro L a Wr hL hbe hcl ⟨x32, x33, x34, x35, x36, x37, x38, x39, x40, x41, x42, x43, x44, x45, x6, rfl, hC⟩
                obtain rfl := hC.l4 (hbe { on := 4, ground := .data } (by simp) rfl)
                have HC := Lib.hid hC
                clear hC hcl hbe
                go_simp
                exact ⟨x32, x33, x34, x35, _, _, x38, x39, x40, x41, x42, x43, x44, x45, x6, rfl, ⟨HC.out.bar, HC.out.l0, HC.out.l1, HC.out.l2, HC.out.l3, HC.out.l4, fun _ => rfl, HC.out.l6, HC.out.l7, HC.out.l8, HC.out.l9, HC.out.l10, HC.out.l11, HC.out.l12, HC.out.n13, HC.out.l13, HC.out.l14⟩⟩
              case o6 =>
                rintro L a Wr hL hbe hcl ⟨x32, x33, x34, x35, x36, x37, x38, x39, x40, x41, x42, x43, x44, x45, x6, rfl, hC⟩
                have HC := Lib.hid hC
                clear hC hcl hbe
                go_simp
                exact ⟨x32, x33, x34, x35, x36, x37, _, x39, x40, x41, x42, x43, x44, x45, x6, rfl, ⟨HC.out.bar, HC.out.l0, HC.out.l1, HC.out.l2, HC.out.l3, HC.out.l4, HC.out.l5, fun _ => rfl, HC.out.l7, HC.out.l8, HC.out.l9, HC.out.l10, HC.out.l11, HC.out.l12, HC.out.n13, HC.out.l13, HC.out.l14⟩⟩
              case o7 =>
                rintro L a Wr hL hbe hcl ⟨x32, x33, x34, x35, x36, x37, x38, x39, x40, x41, x42, x43, x44, x45, x6, rfl, hC⟩
                have HC := Lib.hid hC
                clear hC hcl hbe
                go_simp
                exact ⟨x32, x33, x34, x35, x36, x37, x38, _, x40, x41, x42, x43, x44, x45, x6, rfl, ⟨HC.out.bar, HC.out.l0, HC.out.l1, HC.out.l2, HC.out.l3, HC.out.l4, HC.out.l5, HC.out.l6, fun _ => rfl, HC.out.l8, HC.out.l9, HC.out.l10, HC.out.l11, HC.out.l12, HC.out.n13, HC.out.l13, HC.out.l14⟩⟩
              case o8 =>
                rintro L a Wr hL hbe hcl ⟨x32, x33, x34, x35, x36, x37, x38, x39, x40, x41, x42, x43, x44, x45, x6, rfl, hC⟩
                obtain rfl := hC.l6 (hbe { on := 6, ground := .data } (by simp) rfl)
                obtain rfl := hC.l7 (hbe { on := 7, ground := .data } (by simp) rfl)
                have HC := Lib.hid hC
                clear hC hcl hbe
                go_simp
                exact ⟨x32, x33, x34, x35, x36, x37, _, _, _, x41, x42, x43, x44, x45, x6, rfl, ⟨HC.out.bar, HC.out.l0, HC.out.l1, HC.out.l2, HC.out.l3, HC.out.l4, HC.out.l5, HC.out.l6, HC.out.l7, fun _ => rfl, HC.out.l9, HC.out.l10, HC.out.l11, HC.out.l12, HC.out.n13, HC.out.l13, HC.out.l14⟩⟩
              case o9 =>
                rintro L a Wr hL hbe hcl ⟨x32, x33, x34, x35, x36, x37, x38, x39, x40, x41, x42, x43, x44, x45, x6, rfl, hC⟩
                obtain rfl := hC.l8 (hbe { on := 8, ground := .data } (by simp) rfl)
                obtain ⟨p0, p1⟩ := HRd.out Wr hC.bar
                have HC := Lib.hid hC
                clear hC hcl hbe
                go_simp
                exact ⟨x32, x33, x34, x35, x36, x37, x38, x39, _, _, x42, x43, x44, x45, x6, rfl, ⟨HC.out.bar, HC.out.l0, HC.out.l1, HC.out.l2, HC.out.l3, HC.out.l4, HC.out.l5, HC.out.l6, HC.out.l7, HC.out.l8, fun _ => rfl, HC.out.l10, HC.out.l11, HC.out.l12, HC.out.n13, HC.out.l13, HC.out.l14⟩⟩
              case o10 =>
                rintro L a Wr hL hbe hcl ⟨x32, x33, x34, x35, x36, x37, x38, x39, x40, x41, x42, x43, x44, x45, x6, rfl, hC⟩
                obtain rfl := hC.l5 (hbe { on := 5, ground := .data } (by simp) rfl)
                obtain rfl := hC.l9 (hbe { on := 9, ground := .data } (by simp) rfl)
                have HC := Lib.hid hC
                clear hC hcl hbe
                go_simp
                exact ⟨x32, x33, x34, x35, x36, _, x38, x39, x40, _, _, x43, x44, x45, x6, rfl, ⟨HC.out.bar, HC.out.l0, HC.out.l1, HC.out.l2, HC.out.l3, HC.out.l4, HC.out.l5, HC.out.l6, HC.out.l7, HC.out.l8, HC.out.l9, fun _ => rfl, HC.out.l11, HC.out.l12, HC.out.n13, HC.out.l13, HC.out.l14⟩⟩
              case o11 =>
                rintro L a Wr hL hbe hcl ⟨x32, x33, x34, x35, x36, x37, x38, x39, x40, x41, x42, x43, x44, x45, x6, rfl, hC⟩
                obtain rfl := hC.l10 (hbe { on := 10, ground := .data } (by simp) rfl)
                have HC := Lib.hid hC
                clear hC hcl hbe
                go_simp
                refine ⟨trivial, rfl, (callsIn_wide.2 (HC1.out _)).mono ?_⟩
                rintro e W6 ⟨rfl, rfl⟩
                exact ⟨x32, x33, x34, x35, x36, x37, x38, x39, x40, x41, _, _, x44, x45, x6, rfl, ⟨HC.out.bar, HC.out.l0, HC.out.l1, HC.out.l2, HC.out.l3, HC.out.l4, HC.out.l5, HC.out.l6, HC.out.l7, HC.out.l8, HC.out.l9, HC.out.l10, fun _ => rfl, HC.out.l12, HC.out.n13, HC.out.l13, HC.out.l14⟩⟩
              case o12 =>
                rintro L a Wr hL hbe hcl ⟨x32, x33, x34, x35, x36, x37, x38, x39, x40, x41, x42, x43, x44, x45, x6, rfl, hC⟩
                obtain rfl := hC.l11 (hbe { on := 11, ground := .data } (by simp) rfl)
                have HC := Lib.hid hC
                clear hC hcl hbe
                go_simp
                exact ⟨x32, x33, x34, x35, x36, x37, x38, x39, x40, x41, x42, _, _, x45, x6, rfl, ⟨HC.out.bar.alloc _, HC.out.l0, HC.out.l1, HC.out.l2, HC.out.l3, HC.out.l4, HC.out.l5, HC.out.l6, HC.out.l7, HC.out.l8, HC.out.l9, HC.out.l10, HC.out.l11, fun _ => ⟨Wr.heap.size, rfl, HC.out.bar.size, fun _ => World.alloc_heap_new _ _⟩, fun h => (HC.out.n13 h).alloc _, fun h => (HC.out.l13 h).alloc _, HC.out.l14⟩⟩
              case o13 =>
                rintro L a Wr hL hbe hcl ⟨x32, x33, x34, x35, x36, x37, x38, x39, x40, x41, x42, x43, x44, x45, x6, rfl, hC⟩
                have hE : L 14 = false := by rw [Bool.eq_false_iff]; intro h; have h2 := hcl 14 _ rfl h { on := 13, ground := .data } (by simp) rfl; rw [hL] at h2; cases h2
                have e5 := hC.l14
                rw [hE] at e5
                obtain rfl : x6 = u6 := e5
                obtain rfl := hC.l0 (hbe { on := 0, ground := .data } (by simp) rfl)
                obtain ⟨g, rfl, hg1, hg2⟩ := hC.l12 (hbe { on := 12, ground := .data } (by simp) rfl)
                have hgh := hg2 hL
                obtain ⟨i0, hi0, hz0, hz1, hz2⟩ := info_parts Try.info5
                have hown := hC.n13 hL
                have hsz := hC.bar.size
                refine operIn_append_v (.tmp 32) (.tmp 44) 22 5 i0 (.int .u8 0) 1 rfl Try.underlying22 hi0 hz0 hz1 hz2 rfl (w.heap.size) _ k _ rfl hown (some ⟨g, 0, none⟩) 1 1 [.int .u8 ((c.toNat : Nat) : Int)] rfl (src_at hgh) (fun e => by cases e) (by simp [Value.oneCell']) (by omega) (by omega) (by omega) (fun v' w2 hap => ?_)
                obtain ⟨ha1, ha2, ha3⟩ := hap
                exact ⟨_, x33, x34, x35, x36, x37, x38, x39, x40, x41, x42, x43, _, v', _, rfl, ⟨hC.bar.trans (bar_of_grown (S := fun j => Value.ownBlock _ = some j) ha2 (fun k e => e)) (fun j _ e => e), hC.l0, hC.l1, hC.l2, hC.l3, hC.l4, hC.l5, hC.l6, hC.l7, hC.l8, hC.l9, hC.l10, hC.l11, fun _ => ⟨g, rfl, hg1, fun h => by cases h⟩, fun h => by (cases h), fun _ => ha1, by (show _ = if L 14 = true then _ else _; rw [hE]; rfl)⟩⟩
              case o14 =>
                rintro L a Wr hL hbe hcl ⟨x32, x33, x34, x35, x36, x37, x38, x39, x40, x41, x42, x43, x44, x45, x6, rfl, hC⟩
                have hAt : L 13 = true := hbe { on := 13, ground := .data } (by simp) rfl
                have HC := Lib.hid hC
                clear hC hcl hbe
                go_simp
                exact ⟨x32, x33, x34, x35, x36, x37, x38, x39, x40, x41, x42, x43, x44, x45, _, rfl, ⟨HC.out.bar, HC.out.l0, HC.out.l1, HC.out.l2, HC.out.l3, HC.out.l4, HC.out.l5, HC.out.l6, HC.out.l7, HC.out.l8, HC.out.l9, HC.out.l10, HC.out.l11, HC.out.l12, HC.out.n13, HC.out.l13, by simp [setB]⟩⟩
            case hd =>
              rintro L a Wr hL ⟨x32, x33, x34, x35, x36, x37, x38, x39, x40, x41, x42, x43, x44, x45, x6, rfl, hC⟩
              have h5 := hC.l14
              rw [if_pos (hL 14 (by decide))] at h5
              subst h5
              have hrow := hC.l13 (hL 13 (by decide))
              rw [HSt.out] at hrow
              have hbw : Below w.heap.size w Wr := HB.out.trans (hC.bar.below HB.out.size (fun j hj e => by have := (HLt.out j e).1; omega))
              have HRow := Lib.hid hrow
              have HBw := Lib.hid hbw
              clear hC hrow hbw hL
              go_wp2_with fail
              go_roundw
              case rel => exact ⟨k + 1, by go_num, by omega, HRow.out, HBw.out, HOk2.out⟩
              case measure => simp [intOf]; omega
          · go_wp2_with fail
            exact bodyPost_ret (v := .tuple #[.slice none 0 0, .int .i64 3]) (by simp [results, Try.f13, go_sem]) rfl (HBad.out _ HB.out)
        · go_wp2_with fail
          exact bodyPost_ret (v := .tuple #[.slice none 0 0, .int .i64 3]) (by simp [results, Try.f13, go_sem]) rfl (HBad.out _ HB.out)
      · obtain rfl : k = 64 := by omega
        exact (HRes.out hok).elim
  · have hL : adL zs rs = (List.range 64).map (adB zs rs) := by unfold adL; rw [if_pos (by omega)]
    rw [hL, show adE 64 rs = 0 by rw [← h8]; exact he, List.length_map, List.length_range]
    have hbd : ∀ j, j < 64 → -1048576 ≤ nthC rs j ∧ nthC rs j ≤ 1048576 := fun j hj => (okNC_iff _ _ _).1 ((allC_iff _ _ _).1 hall j (by omega))
    have HBd := Lib.hid hbd
    clear hR hc hc2 hall he hL hbd
    go_enter Try.func13, Try.ntmps13
    go_wp2
    go_loopw [6, 7] (fun v i wr => ∃ k : Nat, i = .int .i64 (k : Int) ∧ k ≤ 64 ∧ wr.ownsRow w.heap.size 5 1 v k (u8s ((List.range k).map (adB zs rs))) ∧ Below w.heap.size w wr) (fun _ i _ => 64 - (intOf i).toNat)
    case atStart => exact ⟨0, rfl, by omega, World.ownsRow_nil _ _ _ _, Below.refl _ _⟩
    case round =>
      obtain ⟨k, rfl, hk, ho, hb⟩ := hrel
      have HO := Lib.hid ho
      have HB := Lib.hid hb
      clear ho hb
      by_cases hk2 : k < 64
      · have z1 : (k : Int) < 64 := by omega
        have z0 : (0 : Int) ≤ k := by omega
        have x1 := HX.out _ HB.out k hk2
        have x2 := HY.out _ HB.out k hk2
        have hst := HStp.out k
        have hvl := HVal.out k
        obtain ⟨d1, d2⟩ := HBd.out k hk2
        generalize nthC rs k = y at *
        generalize zs[k]?.getD 0 = z at *
        generalize adB zs rs k = c at *
        have hz8 := z.toNat_lt
        have hz9 : ((z.toNat : Nat) : Int) < 256 := by omega
        have hz7 : (0 : Int) ≤ ((z.toNat : Nat) : Int) := by omega
        have e0 : IntKind.i64.wrap ((z.toNat : Nat) : Int) = ((z.toNat : Nat) : Int) := by rw [IntKind.wrap_i64]; omega
        generalize u8s ((List.range k).map (adB zs rs)) = cs at *
        have HSt := Lib.hid hst
        have HC1 := Lib.hid (fun W => HCl.out (((z.toNat : Nat) : Int) + y) W)
        rw [hvl] at HC1
        have hrd : ∀ Wr, Bar (fun j => u6.ownBlock = some j) wr Wr → Wr.cell? ⟨b, off + k, none⟩ = some (.int .u8 ((z.toNat : Nat) : Int)) ∧ Wr.cell? ⟨b2, off2 + k, none⟩ = some (.int .i64 y) := fun Wr hbr => by
          have hlt := HO.out.lt
          exact ⟨(hbr.cellC (p := ⟨b, off + k, none⟩) (by have := HB.out.size; simp; omega) (fun e => by have := (hlt _ e).1; simp at this; omega)).trans x1, (hbr.cellC (p := ⟨b2, off2 + k, none⟩) (by have := HB.out.size; simp; omega) (fun e => by have := (hlt _ e).1; simp at this; omega)).trans x2⟩
        have HRd := Lib.hid hrd
        have HLt := Lib.hid HO.out.lt
        have hzW := HB.out.size
        clear hst hvl hrd
        have e1 : IntKind.i64.wrap (((z.toNat : Nat) : Int) + y) = ((z.toNat : Nat) : Int) + y := by rw [IntKind.wrap_i64]; omega
        have d1b : decide (y < -1048576) = false := by simp; omega
        have d2b : decide (1048576 < y) = false := by simp; omega
        go_wp2_with fail
        refine wp_region_inv (by kernel_rfl) (by kernel_rfl) (by kernel_rfl) (AddI (.slice (some ⟨b, off, none⟩) 64 cap) (.slice (some ⟨b2, off2, none⟩) 64 cap2) k b off b2 off2 z c y (fun x32 x33 x34 x35 x36 x37 x38 x39 x40 x41 x42 x43 x44 x45 x6 => { tmps := #[.slice (some ⟨b, off, none⟩) 64 cap, .slice (some ⟨b2, off2, none⟩) 64 cap2, undef, undef, u4, u5, x6, .int .i64 (k : Int), .slice (some ⟨b, off, none⟩) 64 cap, .int .i64 64, .bool false, .bool false, .slice (some ⟨b2, off2, none⟩) 64 cap2, .int .i64 64, .bool false, .bool false, .int .i64 (k : Int), .bool true, u18, u19, .slice (some ⟨b2, off2, none⟩) 64 cap2, .int .i64 (k : Int), .pointer (some ⟨b2, off2 + k, none⟩), .int .i64 y, .bool false, .bool false, .slice (some ⟨b2, off2, none⟩) 64 cap2, .int .i64 (k : Int), .pointer (some ⟨b2, off2 + k, none⟩), .int .i64 y, .bool false, .bool false, x32, x33, x34, x35, x36, x37, x38, x39, x40, x41, x42, x43, x44, x45, undef], defers := [] }) u6 k cs (.int .u8 ((c.toNat : Nat) : Int)) w.heap.size wr) ?h0 ?st ?hd
        case h0 =>
          intro L hL
          have e : ∀ i, ¬ L i = true := fun i h => by rw [hL i] at h; cases h
          exact ⟨u32, u33, u34, u35, u36, u37, u38, u39, u40, u41, u42, u43, u44, u45, u6, rfl, ⟨(Bar.refl _ _).drew, fun h => (e _ h).elim, fun h => (e _ h).elim, fun h => (e _ h).elim, fun h => (e _ h).elim, fun h => (e _ h).elim, fun h => (e _ h).elim, fun h => (e _ h).elim, fun h => (e _ h).elim, fun h => (e _ h).elim, fun h => (e _ h).elim, fun h => (e _ h).elim, fun h => (e _ h).elim, fun h => (e _ h).elim, fun _ => HO.out, fun h => (e _ h).elim, by rw [if_neg (e _)]⟩⟩
        case st =>
          refine ⟨?o0, ?o1, ?o2, ?o3, ?o4, ?o5, ?o6, ?o7, ?o8, ?o9, ?o10, ?o11, ?o12, ?o13, ?o14, trivial⟩
          case o0 =>
            rintro L a Wr hL hbe hcl ⟨x32, x33, x34, x35, x36, x37, x38, x39, x40, x41, x42, x43, x44, x45, x6, rfl, hC⟩
            have hE : L 14 = false := by rw [Bool.eq_false_iff]; intro h; have h2 := hcl 14 _ rfl h { on := 13, ground := .data } (by simp) rfl; have h3 := hcl 13 _ rfl h2 { on := 0, ground := .data } (by simp) rfl; rw [hL] at h3; cases h3
            have e5 := hC.l14
            rw [hE] at e5
            obtain rfl : x6 = u6 := e5
            have HC := Lib.hid hC
            clear hC hcl hbe
            go_simp
            exact ⟨_, x33, x34, x35, x36, x37, x38, x39, x40, x41, x42, x43, x44, x45, _, rfl, ⟨HC.out.bar, fun _ => rfl, HC.out.l1, HC.out.l2, HC.out.l3, HC.out.l4, HC.out.l5, HC.out.l6, HC.out.l7, HC.out.l8, HC.out.l9, HC.out.l10, HC.out.l11, HC.out.l12, HC.out.n13, HC.out.l13, HC.out.l14⟩⟩
          case o1 =>
            rintro L a Wr hL hbe hcl ⟨x32, x33, x34, x35, x36, x37, x38, x39, x40, x41, x42, x43, x44, x45, x6, rfl, hC⟩
            have HC := Lib.hid hC
            clear hC hcl hbe
            go_simp
            exact ⟨x32, _, x34, x35, x36, x37, x38, x39, x40, x41, x42, x43, x44, x45, x6, rfl, ⟨HC.out.bar, HC.out.l0, fun _ => rfl, HC.out.l2, HC.out.l3, HC.out.l4, HC.out.l5, HC.out.l6, HC.out.l7, HC.out.l8, HC.out.l9, HC.out.l10, HC.out.l11, HC.out.l12, HC.out.n13, HC.out.l13, HC.out.l14⟩⟩
          case o2 =>
            rintro L a Wr hL hbe hcl ⟨x32, x33, x34, x35, x36, x37, x38, x39, x40, x41, x42, x43, x44, x45, x6, rfl, hC⟩
            have HC := Lib.hid hC
            clear hC hcl hbe
            go_simp
            exact ⟨x32, x33, _, x35, x36, x37, x38, x39, x40, x41, x42, x43, x44, x45, x6, rfl, ⟨HC.out.bar, HC.out.l0, HC.out.l1, fun _ => rfl, HC.out.l3, HC.out.l4, HC.out.l5, HC.out.l6, HC.out.l7, HC.out.l8, HC.out.l9, HC.out.l10, HC.out.l11, HC.out.l12, HC.out.n13, HC.out.l13, HC.out.l14⟩⟩
          case o3 =>
            rintro L a Wr hL hbe hcl ⟨x32, x33, x34, x35, x36, x37, x38, x39, x40, x41, x42, x43, x44, x45, x6, rfl, hC⟩
            obtain rfl := hC.l1 (hbe { on := 1, ground := .data } (by simp) rfl)
            obtain rfl := hC.l2 (hbe { on := 2, ground := .data } (by simp) rfl)
            have HC := Lib.hid hC
            clear hC hcl hbe
            go_simp
            exact ⟨x32, _, _, _, x36, x37, x38, x39, x40, x41, x42, x43, x44, x45, x6, rfl, ⟨HC.out.bar, HC.out.l0, HC.out.l1, HC.out.l2, fun _ => rfl, HC.out.l4, HC.out.l5, HC.out.l6, HC.out.l7, HC.out.l8, HC.out.l9, HC.out.l10, HC.out.l11, HC.out.l12, HC.out.n13, HC.out.l13, HC.out.l14⟩⟩
          case o4 =>
            rintro L a Wr hL hbe hcl ⟨x32, x33, x34, x35, x36, x37, x38, x39, x40, x41, x42, x43, x44, x45, x6, rfl, hC⟩
            obtain rfl := hC.l3 (hbe { on := 3, ground := .data } (by simp) rfl)
            obtain ⟨p0, p1⟩ := HRd.out Wr hC.bar
            have HC := Lib.hid hC
            clear hC hcl hbe
            go_simp
            exact ⟨x32, x33, x34, _, _, x37, x38, x39, x40, x41, x42, x43, x44, x45, x6, rfl, ⟨HC.out.bar, HC.out.l0, HC.out.l1, HC.out.l2, HC.out.l3, fun _ => rfl, HC.out.l5, HC.out.l6, HC.out.l7, HC.out.l8, HC.out.l9, HC.out.l10, HC.out.l11, HC.out.l12, HC.out.n13, HC.out.l13, HC.out.l14⟩⟩
          case o5 =>
            rintro L a Wr hL hbe hcl ⟨x32, x33, x34, x35, x36, x37, x38, x39, x40, x41, x42, x43, x44, x45, x6, rfl, hC⟩
            obtain rfl := hC.l4 (hbe { on := 4, ground := .data } (by simp) rfl)
            have HC := Lib.hid hC
            clear hC hcl hbe
            go_simp
            exact ⟨x32, x33, x34, x35, _, _, x38, x39, x40, x41, x42, x43, x44, x45, x6, rfl, ⟨HC.out.bar, HC.out.l0, HC.out.l1, HC.out.l2, HC.out.l3, HC.out.l4, fun _ => rfl, HC.out.l6, HC.out.l7, HC.out.l8, HC.out.l9, HC.out.l10, HC.out.l11, HC.out.l12, HC.out.n13, HC.out.l13, HC.out.l14⟩⟩
          case o6 =>
            rintro L a Wr hL hbe hcl ⟨x32, x33, x34, x35, x36, x37, x38, x39, x40, x41, x42, x43, x44, x45, x6, rfl, hC⟩
            have HC := Lib.hid hC
            clear hC hcl hbe
            go_simp
            exact ⟨x32, x33, x34, x35, x36, x37, _, x39, x40, x41, x42, x43, x44, x45, x6, rfl, ⟨HC.out.bar, HC.out.l0, HC.out.l1, HC.out.l2, HC.out.l3, HC.out.l4, HC.out.l5, fun _ => rfl, HC.out.l7, HC.out.l8, HC.out.l9, HC.out.l10, HC.out.l11, HC.out.l12, HC.out.n13, HC.out.l13, HC.out.l14⟩⟩
          case o7 =>
            rintro L a Wr hL hbe hcl ⟨x32, x33, x34, x35, x36, x37, x38, x39, x40, x41, x42, x43, x44, x45, x6, rfl, hC⟩
            have HC := Lib.hid hC
            clear hC hcl hbe
            go_simp
            exact ⟨x32, x33, x34, x35, x36, x37, x38, _, x40, x41, x42, x43, x44, x45, x6, rfl, ⟨HC.out.bar, HC.out.l0, HC.out.l1, HC.out.l2, HC.out.l3, HC.out.l4, HC.out.l5, HC.out.l6, fun _ => rfl, HC.out.l8, HC.out.l9, HC.out.l10, HC.out.l11, HC.out.l12, HC.out.n13, HC.out.l13, HC.out.l14⟩⟩
          case o8 =>
            rintro L a Wr hL hbe hcl ⟨x32, x33, x34, x35, x36, x37, x38, x39, x40, x41, x42, x43, x44, x45, x6, rfl, hC⟩
            obtain rfl := hC.l6 (hbe { on := 6, ground := .data } (by simp) rfl)
            obtain rfl := hC.l7 (hbe { on := 7, ground := .data } (by simp) rfl)
            have HC := Lib.hid hC
            clear hC hcl hbe
            go_simp
            exact ⟨x32, x33, x34, x35, x36, x37, _, _, _, x41, x42, x43, x44, x45, x6, rfl, ⟨HC.out.bar, HC.out.l0, HC.out.l1, HC.out.l2, HC.out.l3, HC.out.l4, HC.out.l5, HC.out.l6, HC.out.l7, fun _ => rfl, HC.out.l9, HC.out.l10, HC.out.l11, HC.out.l12, HC.out.n13, HC.out.l13, HC.out.l14⟩⟩
          case o9 =>
            rintro L a Wr hL hbe hcl ⟨x32, x33, x34, x35, x36, x37, x38, x39, x40, x41, x42, x43, x44, x45, x6, rfl, hC⟩
            obtain rfl := hC.l8 (hbe { on := 8, ground := .data } (by simp) rfl)
            obtain ⟨p0, p1⟩ := HRd.out Wr hC.bar
            have HC := Lib.hid hC
            clear hC hcl hbe
            go_simp
            exact ⟨x32, x33, x34, x35, x36, x37, x38, x39, _, _, x42, x43, x44, x45, x6, rfl, ⟨HC.out.bar, HC.out.l0, HC.out.l1, HC.out.l2, HC.out.l3, HC.out.l4, HC.out.l5, HC.out.l6, HC.out.l7, HC.out.l8, fun _ => rfl, HC.out.l10, HC.out.l11, HC.out.l12, HC.out.n13, HC.out.l13, HC.out.l14⟩⟩
          case o10 =>
            rintro L a Wr hL hbe hcl ⟨x32, x33, x34, x35, x36, x37, x38, x39, x40, x41, x42, x43, x44, x45, x6, rfl, hC⟩
            obtain rfl := hC.l5 (hbe { on := 5, ground := .data } (by simp) rfl)
            obtain rfl := hC.l9 (hbe { on := 9, ground := .data } (by simp) rfl)
            have HC := Lib.hid hC
            clear hC hcl hbe
            go_simp
            exact ⟨x32, x33, x34, x35, x36, _, x38, x39, x40, _, _, x43, x44, x45, x6, rfl, ⟨HC.out.bar, HC.out.l0, HC.out.l1, HC.out.l2, HC.out.l3, HC.out.l4, HC.out.l5, HC.out.l6, HC.out.l7, HC.out.l8, HC.out.l9, fun _ => rfl, HC.out.l11, HC.out.l12, HC.out.n13, HC.out.l13, HC.out.l14⟩⟩
          case o11 =>
            rintro L a Wr hL hbe hcl ⟨x32, x33, x34, x35, x36, x37, x38, x39, x40, x41, x42, x43, x44, x45, x6, rfl, hC⟩
            obtain rfl := hC.l10 (hbe { on := 10, ground := .data } (by simp) rfl)
            have HC := Lib.hid hC
            clear hC hcl hbe
            go_simp
            refine ⟨trivial, rfl, (callsIn_wide.2 (HC1.out _)).mono ?_⟩
            rintro e W6 ⟨rfl, rfl⟩
            exact ⟨x32, x33, x34, x35, x36, x37, x38, x39, x40, x41, _, _, x44, x45, x6, rfl, ⟨HC.out.bar, HC.out.l0, HC.out.l1, HC.out.l2, HC.out.l3, HC.out.l4, HC.out.l5, HC.out.l6, HC.out.l7, HC.out.l8, HC.out.l9, HC.out.l10, fun _ => rfl, HC.out.l12, HC.out.n13, HC.out.l13, HC.out.l14⟩⟩
          case o12 =>
            rintro L a Wr hL hbe hcl ⟨x32, x33, x34, x35, x36, x37, x38, x39, x40, x41, x42, x43, x44, x45, x6, rfl, hC⟩
            obtain rfl := hC.l11 (hbe { on := 11, ground := .data } (by simp) rfl)
            have HC := Lib.hid hC
            clear hC hcl hbe
            go_simp
            exact ⟨x32, x33, x34, x35, x36, x37, x38, x39, x40, x41, x42, _, _, x45, x6, rfl, ⟨HC.out.bar.alloc _, HC.out.l0, HC.out.l1, HC.out.l2, HC.out.l3, HC.out.l4, HC.out.l5, HC.out.l6, HC.out.l7, HC.out.l8, HC.out.l9, HC.out.l10, HC.out.l11, fun _ => ⟨Wr.heap.size, rfl, HC.out.bar.size, fun _ => World.alloc_heap_new _ _⟩, fun h => (HC.out.n13 h).alloc _, fun h => (HC.out.l13 h).alloc _, HC.out.l14⟩⟩
          case o13 =>
            rintro L a Wr hL hbe hcl ⟨x32, x33, x34, x35, x36, x37, x38, x39, x40, x41, x42, x43, x44, x45, x6, rfl, hC⟩
            have hE : L 14 = false := by rw [Bool.eq_false_iff]; intro h; have h2 := hcl 14 _ rfl h { on := 13, ground := .data } (by simp) rfl; rw [hL] at h2; cases h2
            have e5 := hC.l14
            rw [hE] at e5
            obtain rfl : x6 = u6 := e5
            obtain rfl := hC.l0 (hbe { on := 0, ground := .data } (by simp) rfl)
            obtain ⟨g, rfl, hg1, hg2⟩ := hC.l12 (hbe { on := 12, ground := .data } (by simp) rfl)
            have hgh := hg2 hL
            obtain ⟨i0, hi0, hz0, hz1, hz2⟩ := info_parts Try.info5
            have hown := hC.n13 hL
            have hsz := hC.bar.size
            refine operIn_append_v (.tmp 32) (.tmp 44) 22 5 i0 (.int .u8 0) 1 rfl Try.underlying22 hi0 hz0 hz1 hz2 rfl (w.heap.size) _ k _ rfl hown (some ⟨g, 0, none⟩) 1 1 [.int .u8 ((c.toNat : Nat) : Int)] rfl (src_at hgh) (fun e => by cases e) (by simp [Value.oneCell']) (by omega) (by omega) (by omega) (fun v' w2 hap => ?_)
            obtain ⟨ha1, ha2, ha3⟩ := hap
            exact ⟨_, x33, x34, x35, x36, x37, x38, x39, x40, x41, x42, x43, _, v', _, rfl, ⟨hC.bar.trans (bar_of_grown (S := fun j => Value.ownBlock _ = some j) ha2 (fun k e => e)) (fun j _ e => e), hC.l0, hC.l1, hC.l2, hC.l3, hC.l4, hC.l5, hC.l6, hC.l7, hC.l8, hC.l9, hC.l10, hC.l11, fun _ => ⟨g, rfl, hg1, fun h => by cases h⟩, fun h => by (cases h), fun _ => ha1, by (show _ = if L 14 = true then _ else _; rw [hE]; rfl)⟩⟩
          case o14 =>
            rintro L a Wr hL hbe hcl ⟨x32, x33, x34, x35, x36, x37, x38, x39, x40, x41, x42, x43, x44, x45, x6, rfl, hC⟩
            have hAt : L 13 = true := hbe { on := 13, ground := .data } (by simp) rfl
            have HC := Lib.hid hC
            clear hC hcl hbe
            go_simp
            exact ⟨x32, x33, x34, x35, x36, x37, x38, x39, x40, x41, x42, x43, x44, x45, _, rfl, ⟨HC.out.bar, HC.out.l0, HC.out.l1, HC.out.l2, HC.out.l3, HC.out.l4, HC.out.l5, HC.out.l6, HC.out.l7, HC.out.l8, HC.out.l9, HC.out.l10, HC.out.l11, HC.out.l12, HC.out.n13, HC.out.l13, by simp [setB]⟩⟩
        case hd =>
          rintro L a Wr hL ⟨x32, x33, x34, x35, x36, x37, x38, x39, x40, x41, x42, x43, x44, x45, x6, rfl, hC⟩
          have h5 := hC.l14
          rw [if_pos (hL 14 (by decide))] at h5
          subst h5
          have hrow := hC.l13 (hL 13 (by decide))
          rw [HSt.out] at hrow
          have hbw : Below w.heap.size w Wr := HB.out.trans (hC.bar.below HB.out.size (fun j hj e => by have := (HLt.out j e).1; omega))
          have HRow := Lib.hid hrow
          have HBw := Lib.hid hbw
          clear hC hrow hbw hL
          go_wp2_with fail
          go_roundw
          case rel => exact ⟨k + 1, by go_num, by omega, HRow.out, HBw.out⟩
          case measure => simp [intOf]; omega
      · obtain rfl : k = 64 := by omega
        obtain ⟨av, cv, rfl⟩ := row_form HO.out
        go_wp2_with fail
        exact bodyPost_ret (v := .tuple #[.slice av 64 cv, .int .i64 0]) (by simp [results, Try.f13, go_sem]) rfl ⟨_, rfl, HO.out, HB.out⟩

end Go.Proofs.Ytenplmmongphoaa
