/- picture: the walks of PictureReads and PictureAgain (praxinoscopelaw17). -/
import Derived.Test.YtlcaboddkcpgaaaDoorHLaw2
namespace Go.Proofs.YtlcaboddkcpgaaaDoor
open Go.RowKit Go.Shelf Go.Sort
set_option linter.unusedVariables false

theorem gtH_short (zs : List UInt8) (x : Int) : (gtH zs x).spare.length ≤ 32 := by
  by_cases h0 : x < 0
  · rw [show gtH zs x = badH 3 from if_pos h0]
    exact Nat.zero_le _
  · obtain ⟨A, rfl⟩ : ∃ A : Nat, x = A := ⟨x.toNat, by omega⟩
    rcases gtH_err zs A with ⟨he, -, -⟩ | e | e
    · exact ((ckH_iff _ _ _).1 (gtH_stand he).1).2.2.2.2
    · rw [e]; exact Nat.zero_le _
    · rw [e]; exact Nat.zero_le _


set_option maxRecDepth 100000 in
set_option maxHeartbeats 1000000 in
theorem reads17_walk (I : PictureI) (x : Int) (hx : I64 x) {w : World} {ra : Option Addr} {len cap : Nat} {zs : List UInt8} (hT : Tab2 w) (hR : Row8 w.heap.size w ra len cap zs) :
    Calls Tryd.prog 4 #[.slice ra len cap, .int .i64 x] w fun e w' => e = .returned (.bool true) ∧ Below w.heap.size w w' := by
  have HAw := Lib.hid (fun W (hW : Below w.heap.size w W) => awake17_any I W (hT.below hW))
  have hzl : zs.length = len := hR.1
  by_cases hl : 100 < len
  · have q1 : (100 : Int) < (len : Int) := by omega
    clear hR hzl
    go_enter Tryd.func4, Tryd.ntmps4
    go_wp2_with fail
    refine (HAw.out _ (Below.refl _ w)).mono ?_
    rintro e w2 ⟨rfl, hb⟩
    go_wp2_with fail
    go_ret
    exact ⟨rfl, hb⟩
  · have q1 : ¬ (100 : Int) < (len : Int) := by omega
    have HBy : Hid (∀ W', Below w.heap.size w W' → Byt w.heap.size W' (.slice ra len cap) zs) := fun W' hb => Byt.below hb (row8_byt17 hR (by omega))
    have hS : Src w ra zs.length (u8s zs) := by
      have := hR.src (n := len) (Nat.le_refl _)
      rwa [List.take_of_length_le (by omega), ← hzl] at this
    have HLt := Lib.hid (lent_any (w := w) (cap := cap) hS hR.nocap (by omega))
    rw [hzl] at HLt
    clear hS hR
    have hsh := gtH_short zs x
    obtain ⟨R, hRd⟩ : ∃ R, gtH zs x = R := ⟨_, rfl⟩
    rw [hRd] at hsh
    have HRd := Lib.hid hRd
    clear hRd
    go_enter Tryd.func4, Tryd.ntmps4
    go_wp2_with fail
    refine HLt.out.mono ?_
    rintro e w1 ⟨lv, rfl, hLn, hb⟩
    have HB1 := Lib.hid hb
    have HL1 := Lib.hid hLn
    have HLk := Lib.hid (lent_lt17 hLn)
    have HG := Lib.hid (I.get (hLn.byt (by omega)) (Nat.le_refl _) (capped_lent hLn) (by omega) x hx)
    rw [HRd.out] at HG
    clear hb hLn HLt
    go_wp2_with fail
    refine HG.out.mono ?_
    rintro e w2 ⟨v, rfl, ho, hb⟩
    have HB2 := Lib.hid (HB1.out.trans (hb.mono HB1.out.size))
    have HL2 := Lib.hid (HL1.out.bar (S := fun _ => False) (bar_of_below hb) (fun k _ e => e))
    obtain ⟨av, cv, rfl, -⟩ := byt_own ho (by omega) (Nat.le_refl _)
    have HO := Lib.hid ho
    clear hb ho HG HL1
    obtain ⟨w3, hw3⟩ : ∃ w3, w2.alloc (.cells #[.int .i64 R.time, .int .i64 R.type, .slice av R.spare.length cv] 24 (0, 0)) = w3 := ⟨_, rfl⟩
    have hb3 : Below w2.heap.size w2 w3 := by rw [← hw3]; exact (Below.refl _ w2).alloc (Nat.le_refl _) _
    have hx3 : w3.heap[w2.heap.size]? = some (.cells #[.int .i64 R.time, .int .i64 R.type, .slice av R.spare.length cv] 24 (0, 0)) := by rw [← hw3]; exact World.alloc_heap_new w2 _
    have HB3 := Lib.hid (HB2.out.trans (hb3.mono HB2.out.size))
    have HL3 := Lib.hid (HL2.out.bar (S := fun _ => False) (bar_of_below hb3) (fun k _ e => e))
    have HO3 := Lib.hid (ownsRow_belowN HO.out hb3)
    have HR := Lib.hid (get17_any (HBy.out w3 HB3.out) HB3.out.size (by omega) x hx)
    rw [HRd.out] at HR
    have hx3l := (Array.getElem?_eq_some_iff.1 hx3).1
    clear hb3 HL2 HO
    go_wp2_with fail
    refine HR.out.mono ?_
    rintro e w4 ⟨u, rfl, ho, hb⟩
    have HB4 := Lib.hid (HB3.out.trans (hb.mono HB3.out.size))
    have HL4 := Lib.hid (HL3.out.bar (S := fun _ => False) (bar_of_below hb) (fun k _ e => e))
    have HO4 := Lib.hid (ownsRow_belowN HO3.out hb)
    have hx4 := (hb.block _ hx3l).trans hx3
    obtain ⟨au, cu, rfl, -⟩ := byt_own ho (by omega) (Nat.le_refl _)
    have HU := Lib.hid ho
    clear hb ho HR HL3 HO3 hw3 hx3
    obtain ⟨w5, hw5⟩ : ∃ w5, w4.alloc (.cells #[.int .i64 R.time, .int .i64 R.type, .slice au R.spare.length cu] 24 (0, 0)) = w5 := ⟨_, rfl⟩
    have hb5 : Below w4.heap.size w4 w5 := by rw [← hw5]; exact (Below.refl _ w4).alloc (Nat.le_refl _) _
    have hx5 : w5.heap[w4.heap.size]? = some (.cells #[.int .i64 R.time, .int .i64 R.type, .slice au R.spare.length cu] 24 (0, 0)) := by rw [← hw5]; exact World.alloc_heap_new w4 _
    have hx4l := (Array.getElem?_eq_some_iff.1 hx4).1
    have hx5b := (hb5.block _ hx4l).trans hx4
    have HB5 := Lib.hid (HB4.out.trans (hb5.mono HB4.out.size))
    have HL5 := Lib.hid (HL4.out.bar (S := fun _ => False) (bar_of_below hb5) (fun k _ e => e))
    have HO5 := Lib.hid (ownsRow_belowN HO4.out hb5)
    have HU5 := Lib.hid (ownsRow_belowN HU.out hb5)
    have HSm := Lib.hid (sameHead_any R.time R.type R.time R.type (byt_own HO5.out (by omega) (Nat.le_refl _)) (Nat.le_refl _) (byt_own HU5.out (by omega) (Nat.le_refl _)) (Nat.le_refl _) rfl rfl rfl)
    obtain ⟨k0, k1, k2⟩ := three_cells hx5
    obtain ⟨k3, k4, k5⟩ := three_cells hx5b
    have hx5bl := (Array.getElem?_eq_some_iff.1 hx5b).1
    clear HL4 HO4 HU hb5 hx4
    go_wp2_with fail
    refine HSm.out.mono ?_
    rintro e w6 ⟨rfl, hb⟩
    have HB6 := Lib.hid (HB5.out.trans (hb.mono HB5.out.size))
    have HL6 := Lib.hid (HL5.out.bar (S := fun _ => False) (bar_of_below hb) (fun k _ e => e))
    have HO6 := Lib.hid (ownsRow_belowN HO5.out hb)
    have hx6 := (hb.block _ hx5bl).trans hx5b
    clear k0 k1 k2 k3 k4 k5
    obtain ⟨k0, k1, k2⟩ := three_cells hx6
    have HOv := Lib.hid (over_any HO6.out (by omega))
    clear hb HL5 HO5 HU5 HSm hx5 hx5b hw5
    go_wp2_with fail
    refine HOv.out.mono ?_
    rintro e w7 ⟨rfl, hb⟩
    have HB7 := Lib.hid (HB6.out.trans (hb.below (B := w.heap.size) HB6.out.size (fun k hk e => by have := (HO6.out.lt k e).1; have := HB1.out.size; omega)))
    have HL7 := Lib.hid (HL6.out.bar hb (fun k e e2 => by
      have h1 := (HO6.out.lt k e2).1
      have h2 := HLk.out k e
      omega))
    have HKp := Lib.hid (kept_any HL7.out (HBy.out w7 HB7.out) (by omega))
    clear hb
    go_wp2_with fail
    refine HKp.out.mono ?_
    rintro e w8 ⟨rfl, hb⟩
    have HB8 := Lib.hid (HB7.out.trans (hb.mono HB7.out.size))
    clear hb
    go_wp2_with fail
    refine (HAw.out _ HB8.out).mono ?_
    rintro e w9 ⟨rfl, hb⟩
    have HB9 := Lib.hid (HB8.out.trans (hb.mono HB8.out.size))
    clear hb
    go_wp2_with fail
    go_ret
    exact ⟨rfl, HB9.out⟩

end Go.Proofs.YtlcaboddkcpgaaaDoor
