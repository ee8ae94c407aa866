/- The contract of the kit's Bits (bits packed as bytes). -/
import Derived.Test.YtbcfiafgolcbpaaGreatDoorLit
namespace Go.Proofs.YtbcfiafgolcbpaaGreatDoor
open Go.RowKit Go.Shelf
set_option linter.unusedVariables false

theorem or_fin : ∀ z : Fin 256, ∀ r : Fin 8, bits BinOp.or .u8 (z.val : Int) ((128 / 2 ^ r.val : Nat) : Int) = ((z.val ||| (128 / 2 ^ r.val) : Nat) : Int) := by decide +kernel
theorem get_fin : ∀ z : Fin 256, ∀ r : Fin 8, ∀ q : Fin 8, (z.val ||| (128 / 2 ^ r.val)) / 2 ^ (7 - q.val) % 2 = if q = r then 1 else z.val / 2 ^ (7 - q.val) % 2 := by decide +kernel
theorem lt_fin : ∀ z : Fin 256, ∀ r : Fin 8, (z.val ||| (128 / 2 ^ r.val)) < 256 := by decide +kernel

/-- bytes with a bit set -/
def setBit (zs : List UInt8) (i : Nat) : List UInt8 := zs.set (i / 8) (UInt8.ofNat ((zs[i / 8]?.getD 0).toNat ||| (128 / 2 ^ (i % 8))))
theorem setBit_length (zs : List UInt8) (i : Nat) : (setBit zs i).length = zs.length := by simp [setBit]
theorem bt_setBit (zs : List UInt8) (i j : Nat) (hi : i < 8 * zs.length) : bt (setBit zs i) j = if j = i then 1 else bt zs j := by
  have hz := UInt8.toNat_lt (zs[i / 8]?.getD 0)
  have hg := get_fin ⟨(zs[i / 8]?.getD 0).toNat, hz⟩ ⟨i % 8, by omega⟩ ⟨j % 8, by omega⟩
  have hl := lt_fin ⟨(zs[i / 8]?.getD 0).toNat, hz⟩ ⟨i % 8, by omega⟩
  simp only at hg hl
  unfold bt setBit
  rw [List.getD_eq_getElem?_getD, List.getD_eq_getElem?_getD]
  by_cases h : j / 8 = i / 8
  · rw [h, List.getElem?_set_self (by omega)]
    simp only [Option.getD_some]
    have h5 : (UInt8.ofNat ((zs[i / 8]?.getD 0).toNat ||| 128 / 2 ^ (i % 8))).toNat = (zs[i / 8]?.getD 0).toNat ||| 128 / 2 ^ (i % 8) := by rw [UInt8.toNat_ofNat', Nat.mod_eq_of_lt hl]
    rw [h5, hg]
    by_cases e : j = i
    · subst e; simp
    · rw [if_neg e, if_neg (by simp; omega)]
  · rw [List.getElem?_set_ne (by omega), if_neg (by intro e; exact h (by rw [e]))]
theorem u8s_setBit (zs : List UInt8) (i : Nat) (u : Int) (hu : u = ((zs[i / 8]?.getD 0).toNat ||| (128 / 2 ^ (i % 8)) : Nat)) : (u8s zs).set (i / 8) (.int .u8 u) = u8s (setBit zs i) := by
  subst hu
  have hz := UInt8.toNat_lt (zs[i / 8]?.getD 0)
  have hl := lt_fin ⟨(zs[i / 8]?.getD 0).toNat, hz⟩ ⟨i % 8, by omega⟩
  simp only at hl
  unfold setBit
  have h5 : (UInt8.ofNat ((zs[i / 8]?.getD 0).toNat ||| 128 / 2 ^ (i % 8))).toNat = (zs[i / 8]?.getD 0).toNat ||| 128 / 2 ^ (i % 8) := by rw [UInt8.toNat_ofNat', Nat.mod_eq_of_lt hl]
  simp only [u8s, List.map_set]
  rw [h5]
theorem bt_zero (n j : Nat) : bt (List.replicate n 0) j = 0 := by
  unfold bt
  rw [List.getD_eq_getElem?_getD, List.getElem?_replicate]
  split <;> simp

/-- is a number odd? -/
def par (x : Int) : Nat := if x.tmod 2 = 0 then 0 else 1

set_option maxRecDepth 100000 in
set_option maxHeartbeats 2000000 in
theorem kbits_any {n₀ : Nat} {w : World} {a : Option Addr} {len cap : Nat} {L : List Int} (h : RowV n₀ w a len cap (intV L)) (hn₀ : n₀ ≤ w.heap.size) (hlen : len ≤ 4000) :
    Calls Tryz.prog 52 #[.slice a len cap] w fun e w' => ∃ zs : List UInt8, e = .returned (.slice (some ⟨w.heap.size, 0, none⟩) ((len + 7) / 8) ((len + 7) / 8)) ∧ zs.length = (len + 7) / 8 ∧ w'.ownsRow w.heap.size 5 1 (.slice (some ⟨w.heap.size, 0, none⟩) ((len + 7) / 8) ((len + 7) / 8)) ((len + 7) / 8) (u8s zs) ∧ (∀ j, j < len → bt zs j = par (L[j]?.getD 0)) ∧ Below w.heap.size w w' := by
  obtain ⟨i0, hi, hz0, hz1, hz2⟩ := info_parts Tryz.info5
  have hl : L.length = len := by have := h.1; simpa using this
  have HR := Lib.hid h
  clear h
  obtain ⟨m, hm⟩ : ∃ m, m = (len + 7) / 8 := ⟨_, rfl⟩
  rw [← hm]
  have HM := Lib.hid hm
  have hm1 : len ≤ 8 * m := by omega
  have hm2 : m ≤ 501 := by omega
  clear hm
  go_enter Tryz.func52, Tryz.ntmps52
  go_wp2_with (at_make; refine wpList_make_full _ rfl _ _ 22 rfl w.heap.size 5 i0 (.int .u8 0) 1 Tryz.underlying22 hi hz0 hz1 .i64 .i64 _ _ m rfl rfl ?m1 ?m2 ?m3 ?m4 (Nat.le_refl _) ?_)
  case m1 => have := HM.out; omega
  case m2 => have := HM.out; omega
  case m3 => rw [hz2]; omega
  case m4 => unfold maxLen; omega
  intro w1 hown1 hgrow1
  rw [made_u8] at hown1
  have HO1 := Lib.hid hown1
  have HB1 : Hid (Below w.heap.size w w1) := (Below.refl w.heap.size w).grown hgrow1 (Nat.le_refl _) (fun k e => nomatch e)
  clear hown1 hgrow1
  go_wp2_with fail
  go_loopw [4] (fun i wr => ∃ (t : Nat) (zs : List UInt8), i = .int .i64 t ∧ t ≤ len ∧ zs.length = m ∧ wr.ownsRow w.heap.size 5 1 (.slice (some ⟨w.heap.size, 0, none⟩) m m) m (u8s zs) ∧ (∀ j, j < t → bt zs j = par (L[j]?.getD 0)) ∧ (∀ j, t ≤ j → bt zs j = 0) ∧ Below w.heap.size w wr) (fun i _ => len - (intOf i).toNat)
  case atStart => exact ⟨0, List.replicate m 0, rfl, by omega, by simp, HO1.out, fun j hj => by omega, fun j _ => bt_zero m j, HB1.out⟩
  case round =>
    obtain ⟨t, zs, rfl, ht, hzl, ho, hd, hr, hb⟩ := hrel
    have HO := Lib.hid ho
    have HD := Lib.hid hd
    have HRs := Lib.hid hr
    have HB := Lib.hid hb
    clear ho hd hr hb
    by_cases htl : t < len
    · obtain ⟨b, off, rfl, hbl, hc⟩ := HR.out.cells (by omega)
      have hcell : wr.cell? ⟨b, off + t, none⟩ = some (.int .i64 (L[t]?.getD 0)) := (HB.out.cell (p := ⟨b, off + t, none⟩) (Nat.lt_of_lt_of_le hbl hn₀)).trans (hc t _ (by simp [hl, htl]))
      clear hc
      have HP : Hid (par (L[t]?.getD 0) = if (L[t]?.getD 0).tmod 2 = 0 then 0 else 1) := rfl
      generalize hy : L[t]?.getD 0 = y at *
      have HY := Lib.hid hy
      clear hy
      by_cases hodd : y.tmod 2 = 0
      · have t1 : (y.tmod 2 != 0) = false := by rw [hodd]; rfl
        have HP2 : Hid (par y = 0) := by show par y = 0; rw [HP.out, if_pos hodd]
        clear hodd
        go_wp2
        go_roundw
        case rel =>
          exact ⟨t + 1, zs, by go_num, by omega, hzl, HO.out, fun j hj => by
            by_cases e : j = t
            · subst e; rw [HY.out, HP2.out]; exact HRs.out j (by omega)
            · exact HD.out j (by omega), fun j hj => HRs.out j (by omega), HB.out⟩
        case measure => simp [intOf]; omega
      · have t1 : (y.tmod 2 != 0) = true := by rw [bne_iff_ne]; exact hodd
        have HP2 : Hid (par y = 1) := by show par y = 1; rw [HP.out, if_neg hodd]
        clear hodd
        have h8 : t / 8 < m := by omega
        have hc8 : wr.cell? ⟨w.heap.size, t / 8, none⟩ = some (.int .u8 ((zs[t / 8]?.getD 0).toNat)) := by
          rw [HO.out.cellAt (t / 8) (by omega)]
          simp [u8s, show t / 8 < zs.length by omega]
        have hf8 : wr.frozen? ⟨w.heap.size, t / 8, none⟩ = false := HO.out.frozenAt (t / 8)
        have hz8 := UInt8.toNat_lt (zs[t / 8]?.getD 0)
        have hor := or_fin ⟨(zs[t / 8]?.getD 0).toNat, hz8⟩ ⟨t % 8, by omega⟩
        simp only at hor
        have HSt := Lib.hid (fun u => HO.out.stored (t / 8) (.int .u8 u))
        have HSet := Lib.hid (fun u hu => u8s_setBit zs t u hu)
        generalize (zs[t / 8]?.getD 0).toNat = z at *
        have hv : bits BinOp.or .u8 (z : Int) (128 / 2 ^ (t % 8)) = ((z ||| (128 / 2 ^ (t % 8)) : Nat) : Int) := by
          rw [← hor, Int.natCast_ediv, Int.natCast_pow]; rfl
        have HV := Lib.hid hv
        clear hv hor
        go_wp2
        go_roundw
        case rel =>
          refine ⟨t + 1, setBit zs t, by go_num, by omega, by rw [setBit_length]; exact hzl, ?_, fun j hj => ?_, fun j hj => ?_, HB.out.setCell (Nat.le_refl _) _⟩
          · rw [← HSet.out _ HV.out]
            exact (HSt.out _).1
          · rw [bt_setBit zs t j (by omega)]
            by_cases e : j = t
            · rw [if_pos e, e, HY.out, HP2.out]
            · rw [if_neg e]; exact HD.out j (by omega)
          · rw [bt_setBit zs t j (by omega), if_neg (by omega)]
            exact HRs.out j (by omega)
        case measure => simp [intOf]; omega
    · have htn : t = len := by omega
      subst htn
      go_wp2
      go_ret
      exact ⟨zs, rfl, hzl, HO.out, HD.out, HB.out⟩

end Go.Proofs.YtbcfiafgolcbpaaGreatDoor
