/- picture: the walk of PictureAgain (praxinoscopelaw17). -/
import Derived.Test.YtlcaboddkcpgaaaDoorHLaw3
namespace Go.Proofs.YtlcaboddkcpgaaaDoor
open Go.RowKit Go.Shelf Go.Sort
set_option linter.unusedVariables false

theorem stands_at {zs : List UInt8} {A : Nat} {c : ByteArray} (h : Stands zs A c) {i : Nat} (hi : i < c.size) : (c[i].toNat : Int) = 48 + (bt zs (A + i) : Nat) := by
  have h2 := h.2 i hi
  have e : c.data.toList[i]? = some c[i] := by
    rw [List.getElem?_eq_getElem (by simpa using hi)]
    rfl
  rw [e] at h2
  have h3 := Option.some.inj h2
  rw [h3, UInt8.toNat_ofNat_of_lt' (by have := bt_lt2 zs (A + i); show _ < 256; omega)]
  omega
theorem read_bit17 {n₀ : Nat} {w : World} {sv : Value} {zs : List UInt8} (hB : Byt n₀ w sv zs) (i : Int) (q : Nat) (hi : i = q) (hq : q < 8 * zs.length) (hl : zs.length ≤ 1000000) :
    Calls Tryd.prog 29 #[sv, .int .i64 i, .int .i64 1] w fun e w' => e = .returned (.tuple #[.int .i64 (bt zs q : Nat), .int .i64 0]) ∧ w = w' := by
  subst hi
  have := read_two hB (q : Int) 1 (by omega)
  have hno : ¬ ((q : Int) < 0 ∨ (1 : Int) < 0 ∨ 32 < (1 : Int)) := by omega
  have e1 : readN zs (q : Int) 1 = (bt zs q : Nat) := by
    unfold readN
    rw [if_neg hno, if_neg (by omega), Int.toNat_natCast, show (1 : Int).toNat = 1 from rfl, num_one1]
  have e2 : readE zs (q : Int) 1 = 0 := by
    unfold readE
    rw [if_neg hno, if_neg (by omega)]
  rw [e1, e2] at this
  exact this

set_option maxRecDepth 100000 in
set_option maxHeartbeats 1000000 in
theorem again17_walk (I : PictureI) (x : Int) {w : World} {ra : Option Addr} {len cap : Nat} {zs : List UInt8} (hT : Tab2 w) (hR : Row8 w.heap.size w ra len cap zs) :
    Calls Tryd.prog 7 #[.slice ra len cap, .int .i64 x] w fun e w' => e = .returned (.bool true) ∧ Below w.heap.size w w' := by
  have HKn := Lib.hid (fun W (hW : Below w.heap.size w W) => known17_any I W (hT.below hW))
  have hzl : zs.length = len := hR.1
  by_cases hl : 60 < len
  · have q1 : (60 : Int) < (len : Int) := by omega
    clear hR hzl
    go_enter Tryd.func7, Tryd.ntmps7
    go_wp2_with fail
    refine (HKn.out _ (Below.refl _ w)).mono ?_
    rintro e w2 ⟨rfl, hb⟩
    go_wp2_with fail
    go_ret
    exact ⟨rfl, hb⟩
  · have q1 : ¬ (60 : Int) < (len : Int) := by omega
    have HBy : Hid (∀ W', Below w.heap.size w W' → Byt w.heap.size W' (.slice ra len cap) zs) := fun W' hb => Byt.below hb (row8_byt17 hR (by omega))
    have HKv := Lib.hid (show Capped (.slice ra len cap) from ⟨_, _, _, rfl, hR.2.1⟩)
    have HPk := Lib.hid (fun W => pick_any x (8 * (len : Int) + 1) W (by omega) (by omega))
    have hm1 := Int.emod_nonneg x (show 8 * (len : Int) + 1 ≠ 0 by omega)
    have hm2 := Int.emod_lt_of_pos x (show 0 < 8 * (len : Int) + 1 by omega)
    obtain ⟨A, hA, hA2⟩ : ∃ A : Nat, x % (8 * (len : Int) + 1) = A ∧ A ≤ 8 * len := ⟨(x % (8 * (len : Int) + 1)).toNat, by omega, by omega⟩
    clear hm1 hm2
    rw [hA] at HPk
    clear hA hR
    have hsh := gtH_short zs A
    have hEr := gtH_err zs A
    have hSt := @gtH_stand zs A
    obtain ⟨R, hRd⟩ : ∃ R, gtH zs A = R := ⟨_, rfl⟩
    rw [hRd] at hsh hEr hSt
    have HRd := Lib.hid hRd
    have HEr := Lib.hid hEr
    have HSt := Lib.hid hSt
    clear hRd hEr hSt
    go_enter Tryd.func7, Tryd.ntmps7
    go_wp2_with fail
    refine (HKn.out _ (Below.refl _ w)).mono ?_
    rintro e w1 ⟨rfl, hb⟩
    have HB1 := Lib.hid hb
    clear hb
    go_wp2_with fail
    refine (HPk.out _).mono ?_
    rintro e w' ⟨rfl, rfl⟩
    have HG := Lib.hid (I.get (HBy.out w1 HB1.out) HB1.out.size HKv.out (by omega) (A : Int) (by unfold I64; omega))
    rw [HRd.out] at HG
    go_wp2_with fail
    refine HG.out.mono ?_
    rintro e w2 ⟨v, rfl, ho, hb⟩
    have HB2 := Lib.hid (HB1.out.trans (hb.mono HB1.out.size))
    obtain ⟨av, cv, rfl, -⟩ := byt_own ho (by omega) (Nat.le_refl _)
    have HO := Lib.hid ho
    have HKo := Lib.hid (capped_own ho)
    clear hb ho HG HPk
    obtain ⟨w3, hw3⟩ : ∃ w3, w2.alloc (.cells #[.int .i64 R.time, .int .i64 R.type, .slice av R.spare.length cv] 24 (0, 0)) = w3 := ⟨_, rfl⟩
    have hb3 : Below w2.heap.size w2 w3 := by rw [← hw3]; exact (Below.refl _ w2).alloc (Nat.le_refl _) _
    have hx3 : w3.heap[w2.heap.size]? = some (.cells #[.int .i64 R.time, .int .i64 R.type, .slice av R.spare.length cv] 24 (0, 0)) := by rw [← hw3]; exact World.alloc_heap_new w2 _
    have HB3 := Lib.hid (HB2.out.trans (hb3.mono HB2.out.size))
    have HO3 := Lib.hid (ownsRow_belowN HO.out hb3)
    have hx3l := (Array.getElem?_eq_some_iff.1 hx3).1
    obtain ⟨k0, k1, k2⟩ := three_cells hx3
    clear hb3 HO
    by_cases he : R.err = 0
    · obtain ⟨hck, hst, hmn⟩ := HSt.out he
      have hi64 : I64 R.time ∧ I64 R.type := by
        obtain ⟨a1, a2, a3, a4, -⟩ := (ckH_iff _ _ _).1 hck
        unfold I64
        omega
      have hsz := txH_size hck
      have HP := Lib.hid (I.put R.time R.type (hT.below HB3.out) (byt_own HO3.out (by omega) (Nat.le_refl _)) (Nat.le_refl _) HKo.out (by omega) hi64.1 hi64.2)
      rw [hck] at HP
      have HAt := Lib.hid (fun i (hi : i < (txH R.time R.type R.spare).size) => stands_at hst hi)
      have hsl := hst.1
      have HCk := Lib.hid hck
      have hen : (R.err != 0) = false := by simpa using he
      clear HEr HSt hst
      rw [hsz] at hsl
      generalize hts : txH R.time R.type R.spare = s at *
      have HHi := Lib.hid hi64
      have hmn2 : R.many = ((12 + 9 * R.spare.length : Nat) : Int) := by omega
      obtain ⟨N, hN⟩ : ∃ N, 12 + 9 * R.spare.length = N := ⟨_, rfl⟩
      rw [hN] at hmn2 hsz hsl
      clear hmn hts hck hi64
      go_wp2_with fail
      refine HP.out.mono ?_
      rintro e w4 ⟨rfl, hb⟩
      have HB4 := Lib.hid (HB3.out.trans (hb.mono HB3.out.size))
      have hx4 := (hb.block _ hx3l).trans hx3
      have HO4 := Lib.hid (ownsRow_belowN HO3.out hb)
      have HC := Lib.hid (I.check R.time R.type (byt_own HO4.out (by omega) (Nat.le_refl _)) (Nat.le_refl _) HKo.out (by omega) HHi.out.1 HHi.out.2)
      rw [HCk.out] at HC
      clear hb k0 k1 k2 HP hw3
      obtain ⟨k0, k1, k2⟩ := three_cells hx4
      go_wp2_with fail
      refine HC.out.mono ?_
      rintro e w5 ⟨rfl, hb⟩
      have HB5 := Lib.hid (HB4.out.trans (hb.mono HB4.out.size))
      have HRd5 : Hid (∀ k : Nat, k < N → Calls Tryd.prog 29 #[.slice ra len cap, .int .i64 ((A : Int) + k), .int .i64 1] w5 fun e w' => e = .returned (.tuple #[.int .i64 (bt zs (A + k) : Nat), .int .i64 0]) ∧ w5 = w') := fun k hk => read_bit17 (HBy.out w5 HB5.out) _ (A + k) (by omega) (by omega) (by omega)
      clear hb k0 k1 k2 hx4 hx3
      go_wp2_with fail
      go_loopw [11] (fun i wr => ∃ k : Nat, i = .int .i64 (k : Int) ∧ k ≤ N ∧ w5 = wr) (fun i _ => N - (intOf i).toNat)
      case atStart => exact ⟨0, rfl, Nat.zero_le _, rfl⟩
      case round =>
        obtain ⟨k, rfl, hk, rfl⟩ := hrel
        by_cases hk2 : k < N
        · have z1 : (k : Int) < (N : Int) := by omega
          have hks : k < s.size := by omega
          have e1 := HAt.out k hks
          have HR := Lib.hid (HRd5.out k hk2)
          have hb2 := bt_lt2 zs (A + k)
          generalize bt zs (A + k) = b at *
          rcases (by omega : b = 0 ∨ b = 1) with rfl | rfl
          · have e2 : (s[k].toNat : Int) = 48 := e1
            clear e1
            go_wp2_with fail
            refine HR.out.mono ?_
            rintro e w' ⟨rfl, rfl⟩
            go_wp2_with fail
            go_roundw
            case rel => exact ⟨k + 1, by go_num, by omega, trivial⟩
            case measure => simp [intOf]; omega
          · have e2 : (s[k].toNat : Int) = 49 := e1
            clear e1
            go_wp2_with fail
            refine HR.out.mono ?_
            rintro e w' ⟨rfl, rfl⟩
            go_wp2_with fail
            go_roundw
            case rel => exact ⟨k + 1, by go_num, by omega, trivial⟩
            case measure => simp [intOf]; omega
        · obtain rfl : k = N := by omega
          go_wp2_with fail
          go_ret
          exact ⟨rfl, HB5.out⟩
    · have hR : R = badH 4 ∨ R = badH 5 := by
        rcases HEr.out with ⟨h, -⟩ | h
        · exact absurd h he
        · exact h
      have HSm := Lib.hid (sameHead_any R.time R.type 0 0 (byt_own HO3.out (by omega) (Nat.le_refl _)) (Nat.le_refl _) (byt_nil w3) (Nat.le_refl _) (by rcases hR with h | h <;> rw [h] <;> rfl) (by rcases hR with h | h <;> rw [h] <;> rfl) (by rcases hR with h | h <;> rw [h] <;> rfl))
      have hm : R.many = 0 := by rcases hR with h | h <;> rw [h] <;> rfl
      have hen : (R.err != 0) = true := by simpa using he
      have hee : R.err = 4 ∨ R.err = 5 := by
        rcases hR with h | h <;> rw [h]
        · exact .inl rfl
        · exact .inr rfl
      clear HEr HSt he hR
      rcases hee with hee | hee
      · clear hen
        go_wp2_with fail
        refine HSm.out.mono ?_
        rintro e w4 ⟨rfl, hb⟩
        have HB4 := Lib.hid (HB3.out.trans (hb.mono HB3.out.size))
        clear hb
        go_wp2_with fail
        go_ret
        exact ⟨rfl, HB4.out⟩
      · clear hen
        go_wp2_with fail
        refine HSm.out.mono ?_
        rintro e w4 ⟨rfl, hb⟩
        have HB4 := Lib.hid (HB3.out.trans (hb.mono HB3.out.size))
        clear hb
        go_wp2_with fail
        go_ret
        exact ⟨rfl, HB4.out⟩

end Go.Proofs.YtlcaboddkcpgaaaDoor
