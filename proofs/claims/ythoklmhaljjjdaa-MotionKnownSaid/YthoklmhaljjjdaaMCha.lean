/- motion: the laws' chapter (praxinoscopelaw14). -/
import Derived.Test.YthoklmhaljjjdaaMKit
namespace Go.Proofs.Ythoklmhaljjjdaa
open Go.RowKit Go.Shelf Go.Sort
set_option linter.unusedVariables false

/-- the chapter's picture, byte by byte -/
def chG (k : Nat) : UInt8 := if k < 25344 then UInt8.ofNat (k % 176) else UInt8.ofNat ((k - 25344) % 6336 / 88)
theorem chG_luma {y x : Nat} (hy : y < 144) (hx : x < 176) : (((chG (176 * y + x)).toNat : Nat) : Int) = (x : Int) := by
  have e : (176 * y + x) % 176 = x := by omega
  unfold chG
  rw [if_pos (by omega), e]
  have : (UInt8.ofNat x).toNat = x := by simp; omega
  rw [this]
theorem chG_chroma {k y x : Nat} (hk : k < 2) (hy : y < 72) (hx : x < 88) : (((chG (25344 + (6336 * k + (88 * y + x)))).toNat : Nat) : Int) = (y : Int) := by
  have e : (25344 + (6336 * k + (88 * y + x)) - 25344) % 6336 / 88 = y := by omega
  unfold chG
  rw [if_neg (by omega), e]
  have : (UInt8.ofNat y).toNat = y := by simp; omega
  rw [this]
/-- the first t bytes of it -/
def chT (t : Nat) : List UInt8 := (List.range t).map chG
theorem chT_succ (t : Nat) {z : Int} (h : (((chG t).toNat : Nat) : Int) = z) : u8s (chT (t + 1)) = u8s (chT t) ++ [.int .u8 z] := by
  unfold chT
  rw [List.range_succ, List.map_append]
  simp [u8s, h]
theorem chT_length (t : Nat) : (chT t).length = t := by simp [chT]

set_option maxRecDepth 100000 in
set_option maxHeartbeats 4000000 in
theorem chapter14_any (W : World) : Calls Try.prog 22 #[] W fun e W' => ∃ v, e = .returned v ∧ W'.ownsRow W.heap.size 5 1 v 38016 (u8s (chT 38016)) ∧ Below W.heap.size W W' := by
  have HL := Lib.hid (fun (y x : Nat) (hy : y < 144) (hx : x < 176) => chT_succ (176 * y + x) (chG_luma hy hx))
  have HC := Lib.hid (fun (k y x : Nat) (hk : k < 2) (hy : y < 72) (hx : x < 88) => chT_succ (25344 + (6336 * k + (88 * y + x))) (chG_chroma hk hy hx))
  have H0 : Hid (u8s (chT 0) = []) := rfl
  obtain ⟨cT, hcT⟩ : ∃ cT : Nat → List Value, cT = fun t => u8s (chT t) := ⟨_, rfl⟩
  replace HL : Hid (∀ y x : Nat, y < 144 → x < 176 → cT (176 * y + x + 1) = cT (176 * y + x) ++ [.int .u8 (x : Int)]) := fun y x hy hx => by rw [hcT]; exact HL.out y x hy hx
  replace HC : Hid (∀ k y x : Nat, k < 2 → y < 72 → x < 88 → cT (25344 + (6336 * k + (88 * y + x)) + 1) = cT (25344 + (6336 * k + (88 * y + x))) ++ [.int .u8 (y : Int)]) := fun k y x hk hy hx => by rw [hcT]; exact HC.out k y x hk hy hx
  replace H0 : Hid (cT 0 = []) := by rw [hcT]; exact H0
  rw [show u8s (chT 38016) = cT 38016 by rw [hcT]]
  clear hcT
  obtain ⟨i0, hi0, hz0, hz1, hz2⟩ := info_parts Try.info5
  go_enter Try.func22, Try.ntmps22
  go_wp2_with fail
  go_loopw [1, 2] (fun v r wr => ∃ y : Nat, r = .int .i64 (y : Int) ∧ y ≤ 144 ∧ wr.ownsRow W.heap.size 5 1 v (176 * y) (cT (176 * y)) ∧ Below W.heap.size W wr) (fun _ r _ => 144 - (intOf r).toNat)
  case atStart => exact ⟨0, rfl, by omega, by rw [H0.out]; exact World.ownsRow_nil _ _ _ _, Below.refl _ _⟩
  case round =>
    obtain ⟨y, rfl, hy, ho, hb⟩ := hrel
    have HO := Lib.hid ho
    have HB := Lib.hid hb
    clear ho hb
    by_cases hy2 : y < 144
    · have hy3 : (y : Int) < 144 := by omega
      go_wp2
      go_loopg [1, 3] 176 (fun gh v r wy => ∃ x : Nat, x + gh = 176 ∧ r = .int .i64 (x : Int) ∧ wy.ownsRow W.heap.size 5 1 v (176 * y + x) (cT (176 * y + x)) ∧ Below W.heap.size W wy)
      case atStart => exact ⟨0, by omega, rfl, HO.out, HB.out⟩
      case round =>
        obtain ⟨x, hxg, rfl, ho, hb⟩ := hrel
        have HO := Lib.hid ho
        have HB := Lib.hid hb
        clear ho hb
        cases gk with
        | zero =>
          obtain rfl : x = 176 := by omega
          rw [show 176 * y + 176 = 176 * (y + 1) by omega] at HO
          go_wp2
          exact ⟨⟨y + 1, by go_num, by omega, HO.out, HB.out⟩, by simp [intOf]; omega⟩
        | succ gh =>
          have hx3 : (x : Int) < 176 := by omega
          have HE := Lib.hid (show x + 1 + gh = 176 by omega)
          have HLs := Lib.hid (HL.out y x hy2 (by omega))
          have hz := HB.out.size
          clear hxg
          go_wp2_with (at_builtin; refine wpList_append_v rfl (.tmp 15) (.tmp 18) 24 5 i0 (.int .u8 0) 1 rfl Try.underlying24 hi0 hz0 hz1 hz2 rfl W.heap.size u1 (176 * y + x) _ rfl (HO.out.alloc _) (some ⟨wr.heap.size, 0, none⟩) 1 1 [.int .u8 (x : Int)] rfl (src_at (heap_new _ rfl _)) (fun e => nomatch e) (by simp [Value.oneCell']) (by omega) (by omega) (by simp; omega) ?_; intro v1 w5 hap; refine Hid.out ?_)
          obtain ⟨a1, a2, a3⟩ := hap
          have bar1 := ((Bar.refl (fun k => u1.ownBlock = some k) wr).alloc (.cells #[.int .u8 (x : Int)] 5 (0, 0))).trans (bar_of_grown (S := fun k => u1.ownBlock = some k) a2 (fun j e => e)) (fun j _ e => e)
          have HB5 := Lib.hid (HB.out.trans (bar1.below hz (fun k hk e => by have := (HO.out.lt k e).1; omega)))
          have HO5 : Hid (w5.ownsRow W.heap.size 5 1 v1 (176 * y + (x + 1)) (cT (176 * y + (x + 1)))) := by
            rw [show 176 * y + (x + 1) = 176 * y + x + 1 by omega, HLs.out]; exact a1
          clear a1 a2 a3 bar1
          refine Lib.hid ?_
          go_wp2
          go_roundg gh
          case measure => omega
          case rel => exact ⟨x + 1, HE.out, by go_num, HO5.out, HB5.out⟩
    · obtain rfl : y = 144 := by omega
      go_wp2_with fail
      have HO : Hid (wr.ownsRow W.heap.size 5 1 u1 25344 (cT 25344)) := HO
      go_loopw [1, 4] (fun v r wk => ∃ k : Nat, r = .int .i64 (k : Int) ∧ k ≤ 2 ∧ wk.ownsRow W.heap.size 5 1 v (25344 + 6336 * k) (cT (25344 + 6336 * k)) ∧ Below W.heap.size W wk) (fun _ r _ => 2 - (intOf r).toNat)
      case atStart => exact ⟨0, rfl, by omega, HO.out, HB.out⟩
      case round =>
        obtain ⟨k, rfl, hk, ho, hb⟩ := hrel
        have HO := Lib.hid ho
        have HB := Lib.hid hb
        clear ho hb
        by_cases hk2 : k < 2
        · have hk3 : (k : Int) < 2 := by omega
          go_wp2
          go_loopg [1, 5] 72 (fun gh v r wy => ∃ y : Nat, y + gh = 72 ∧ r = .int .i64 (y : Int) ∧ wy.ownsRow W.heap.size 5 1 v (25344 + (6336 * k + 88 * y)) (cT (25344 + (6336 * k + 88 * y))) ∧ Below W.heap.size W wy)
          case atStart => exact ⟨0, by omega, rfl, HO.out, HB.out⟩
          case round =>
            obtain ⟨y, hyg, rfl, ho, hb⟩ := hrel
            have HO := Lib.hid ho
            have HB := Lib.hid hb
            clear ho hb
            cases gk with
            | zero =>
              obtain rfl : y = 72 := by omega
              rw [show 25344 + (6336 * k + 88 * 72) = 25344 + 6336 * (k + 1) by omega] at HO
              go_wp2
              exact ⟨⟨k + 1, by go_num, by omega, HO.out, HB.out⟩, by simp [intOf]; omega⟩
            | succ gy =>
              have hy3 : (y : Int) < 72 := by omega
              have HEy := Lib.hid (show y + 1 + gy = 72 by omega)
              have hy72 : y < 72 := by omega
              clear hyg
              go_wp2
              go_loopg [1, 6] 88 (fun gh v r wx => ∃ x : Nat, x + gh = 88 ∧ r = .int .i64 (x : Int) ∧ wx.ownsRow W.heap.size 5 1 v (25344 + (6336 * k + (88 * y + x))) (cT (25344 + (6336 * k + (88 * y + x)))) ∧ Below W.heap.size W wx)
              case atStart => exact ⟨0, by omega, rfl, HO.out, HB.out⟩
              case round =>
                obtain ⟨x, hxg, rfl, ho, hb⟩ := hrel
                have HO := Lib.hid ho
                have HB := Lib.hid hb
                clear ho hb
                cases gk with
                | zero =>
                  obtain rfl : x = 88 := by omega
                  rw [show 25344 + (6336 * k + (88 * y + 88)) = 25344 + (6336 * k + 88 * (y + 1)) by omega] at HO
                  go_wp2
                  go_roundg gy
                  case measure => omega
                  case rel => exact ⟨y + 1, HEy.out, by go_num, HO.out, HB.out⟩
                | succ gh =>
                  have hx3 : (x : Int) < 88 := by omega
                  have HE := Lib.hid (show x + 1 + gh = 88 by omega)
                  have HLs := Lib.hid (HC.out k y x hk2 hy72 (by omega))
                  have hz := HB.out.size
                  clear hxg
                  go_wp2_with (at_builtin; refine wpList_append_v rfl (.tmp 32) (.tmp 35) 24 5 i0 (.int .u8 0) 1 rfl Try.underlying24 hi0 hz0 hz1 hz2 rfl W.heap.size u1 (25344 + (6336 * k + (88 * y + x))) _ rfl (HO.out.alloc _) (some ⟨wr.heap.size, 0, none⟩) 1 1 [.int .u8 (y : Int)] rfl (src_at (heap_new _ rfl _)) (fun e => nomatch e) (by simp [Value.oneCell']) (by omega) (by omega) (by simp; omega) ?_; intro v1 w5 hap; refine Hid.out ?_)
                  obtain ⟨a1, a2, a3⟩ := hap
                  have bar1 := ((Bar.refl (fun k => u1.ownBlock = some k) wr).alloc (.cells #[.int .u8 (y : Int)] 5 (0, 0))).trans (bar_of_grown (S := fun k => u1.ownBlock = some k) a2 (fun j e => e)) (fun j _ e => e)
                  have HB5 := Lib.hid (HB.out.trans (bar1.below hz (fun k hk e => by have := (HO.out.lt k e).1; omega)))
                  have HO5 : Hid (w5.ownsRow W.heap.size 5 1 v1 (25344 + (6336 * k + (88 * y + (x + 1)))) (cT (25344 + (6336 * k + (88 * y + (x + 1)))))) := by
                    rw [show 25344 + (6336 * k + (88 * y + (x + 1))) = 25344 + (6336 * k + (88 * y + x)) + 1 by omega, HLs.out]; exact a1
                  clear a1 a2 a3 bar1
                  refine Lib.hid ?_
                  go_wp2
                  go_roundg gh
                  case measure => omega
                  case rel => exact ⟨x + 1, HE.out, by go_num, HO5.out, HB5.out⟩
        · obtain rfl : k = 2 := by omega
          go_wp2
          go_ret
          exact ⟨_, rfl, HO.out, HB.out⟩

end Go.Proofs.Ythoklmhaljjjdaa
