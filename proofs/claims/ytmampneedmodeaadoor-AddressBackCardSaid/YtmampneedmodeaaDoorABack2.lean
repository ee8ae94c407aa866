/- The walk of AddressBack. -/
import Derived.Test.YtmampneedmodeaaDoorABack
namespace Go.Proofs.YtmampneedmodeaaDoor
open Go.RowKit Go.Shelf
set_option linter.unusedVariables false

theorem own_one (w : World) (x : Value) (t : TypeId) : (w.alloc (.cells #[x] t (0, 0))).ownsRow w.heap.size t 1 (.slice (some ⟨w.heap.size, 0, none⟩) 1 1) 1 [x] :=
  ⟨rfl, .inr ⟨w.heap.size, 1, #[x], rfl, Nat.le_refl _, World.alloc_heap_new _ _, Nat.le_refl _, by unfold maxLen; decide, rfl, rfl⟩⟩
theorem bt_cons (z : UInt8) (zs : List UInt8) (i : Nat) : bt (z :: zs) (8 + i) = bt zs i := by
  unfold bt
  rw [show (8 + i) / 8 = i / 8 + 1 by omega, show (8 + i) % 8 = i % 8 by omega]
  simp
theorem bt_take (zs : List UInt8) (q i : Nat) (h : i < 8 * q) : bt (zs.take q) i = bt zs i := by
  unfold bt
  rw [List.getD_eq_getElem?_getD, List.getD_eq_getElem?_getD, List.getElem?_take, if_pos (by omega)]

theorem wpList_append_src_w {w : World} {ops : Array Oper} {rest : List Oper} {o : Oper} {a : Act} {Q : Exit → Act → World → Prop} (hw : Region.wanted o (yielded ops a.tmps) = true) (s x : Operand)
    (ho : o.op = .call { callee := .builtin .append, args := #[s, x], argTypes := #[22, 22] }) (base : Nat) (v : Value) (n : Nat) (xs : List Value) (hv : a.eval s = v) (hown : w.ownsRow base 5 1 v n xs)
    (A : Option Addr) (m c : Nat) (news : List Value) (hx : a.eval x = .slice A m c) (hs : Src w A m news) (hnc : A = none → c = 0) (h1 : ∀ u ∈ news, u.oneCell' = true) (hfit : n + m ≤ 140737488355328) (hbase : base ≤ w.heap.size)
    (h : ∀ v' w', Appended w w' base v v' (n + m) (xs ++ news) → wpList Tryd.prog ops Q rest (a.put o.dst v') w') : wpList Tryd.prog ops Q (o :: rest) a w := by
  unfold wpList
  rw [if_pos hw]
  exact .inl (wp_append_src s x ho base v n xs hv hown A m c news hx hs hnc h1 hfit hbase h)

set_option maxRecDepth 100000 in
set_option maxHeartbeats 4000000 in
theorem addressBack_walk {w : World} {a : Option Addr} {len cap : Nat} {ys : List Int} (x : Int) (hR : RowV w.heap.size w a len cap (intV ys)) (hT : Tab2 w) :
    Calls Tryd.prog 6 #[.int .i64 x, .slice a len cap] w fun e w' => e = .returned (.bool true) ∧ Below w.heap.size w w' := by
  have ha := Int.emod_nonneg x (b := 34) (by omega)
  have ha2 := Int.emod_lt_of_pos x (b := 34) (by omega)
  obtain ⟨k, hk⟩ := Int.eq_ofNat_of_zero_le ha
  have hk34 : k < 34 := by omega
  have HP := Lib.hid (pick_any x 34)
  rw [hk] at HP
  have HI := Lib.hid (fun w' => aput_nat hk34 w')
  have HC := Lib.hid (fun w' => code4_cd hk34 w')
  have HT := Lib.hid (fun w' (hb : Below w.heap.size w w') => hT.below hb)
  have HK := Lib.hid (known4_any w hT)
  have HR := Lib.hid hR
  obtain ⟨q1, q2, q3⟩ := tab4_small _ (cd_mem (k := k) (by omega))
  have HF := Lib.hid (fun (zs : List UInt8) (A : Nat) (y m : Int) (h : Agrees zs A (cd k).1 (cd k).2 (cd k).2) => getsB_found hk34 h y m)
  have HCut := Lib.hid (fun (zs : List UInt8) (h : Agrees zs 0 (cd k).1 (cd k).2 (8 * zs.length)) (hl : 8 * zs.length < (cd k).2) => getsB_cut hk34 h hl)
  have hsz := binS_size (cd k).1 (cd k).2
  clear ha ha2 hk hT hR q1
  generalize hb : (cd k).1 = b at *
  generalize hm : (cd k).2 = m at *
  clear hb hm
  go_enter Tryd.func6, Tryd.ntmps6
  go_wp2_with fail
  refine HK.out.mono ?_
  rintro e w1 ⟨rfl, b1⟩
  have HB1 := Lib.hid b1
  clear b1
  go_wp2_with fail
  refine (HP.out _ (by decide) (by decide)).mono ?_
  rintro e w' ⟨rfl, rfl⟩
  by_cases hlong : 60 < len
  · go_wp2
    go_ret
    exact ⟨rfl, HB1.out⟩
  go_wp2_with fail
  refine (HI.out w1 (HT.out _ HB1.out)).mono ?_
  rintro e w2 ⟨rfl, b2⟩
  have HB2 := Lib.hid (below_chain HB1.out (Nat.le_refl _) b2)
  clear b2
  go_wp2_with fail
  refine (HC.out w2).mono ?_
  rintro e w' ⟨rfl, rfl⟩
  go_wp2_with fail
  refine (bytes4_any (HR.out.below HB2.out) HB2.out.size (by omega) b m q3).mono ?_
  rintro e w3 ⟨zs, v3, rfl, hl3, ho3, hd3, b3⟩
  have HB3 := Lib.hid (below_chain HB2.out (Nat.le_refl _) b3)
  have HY3 := Lib.hid (byt_own ho3 (by omega) (Nat.le_refl _))
  have HG3 : Hid (getsB zs 0 k m 0 = true) := HF.out zs 0 0 m (fun i hi => ⟨by omega, by rw [Nat.zero_add]; exact hd3 i hi⟩) rfl rfl
  have HQ3 := Lib.hid (gets4_any HY3.out (Nat.le_refl _) 0 k m 0 (by omega))
  rw [HG3.out] at HQ3
  clear b3 ho3 hd3
  go_wp2_with fail
  refine HQ3.out.mono ?_
  rintro e w4 ⟨rfl, b4⟩
  have HB4 := Lib.hid (below_chain HB3.out (Nat.le_refl _) b4)
  clear b4 HQ3 HG3 HY3
  go_wp2_with fail
  have hB5 : Below w.heap.size w (w4.alloc (.cells #[.int .u8 7] 5 (0, 0))) := HB4.out.alloc HB4.out.size _
  have HB5 := Lib.hid hB5
  have ho5 := own_one w4 (.int .u8 7) 5
  have HO5 := Lib.hid ho5
  clear hB5 ho5
  refine (bytes4_any (HR.out.below HB5.out) HB5.out.size (by omega) b m q3).mono ?_
  rintro e w6 ⟨zs6, v6, rfl, hl6, ho6, hd6, b6⟩
  have HB6 := Lib.hid (below_chain HB5.out (Nat.le_refl _) b6)
  have HL6 := Lib.hid hl6
  have hz6 : zs6.length ≤ 100 := by omega
  have hz6' : m ≤ 8 * zs6.length := by omega
  clear hl6
  have HO7 := Lib.hid (ownsRow_bar HO5.out (bar_of_below (S := fun _ => False) b6) (fun _ _ e => e))
  obtain ⟨a6, c6, rfl, hv6⟩ := rowV_own4 ho6
  have HD6 := Lib.hid hd6
  have HS6 := Lib.hid hv6.src
  have HN6 := Lib.hid hv6.nocap
  have hs46 : w4.heap.size ≤ w6.heap.size := by have := b6.size; simp at this; omega
  clear b6 ho6 hd6 hv6 HO5
  go_wp2_with (at_builtin; go_loud (refine wpList_append_src_w (by kernel_rfl) _ _ rfl w4.heap.size _ 1 [.int .u8 7] rfl HO7.out a6 zs6.length c6 (u8s zs6) rfl HS6.out HN6.out u8s_one (by omega) (by omega) ?_); intro v8 w8 hap; have HA8 := Lib.hid hap; clear hap; refine Hid.out ?_)
  refine Lib.hid ?_
  have ho8 : w8.ownsRow w4.heap.size 5 1 v8 (7 :: zs6).length (u8s (7 :: zs6)) := by
    have h := HA8.out.1
    rw [show (7 :: zs6).length = 1 + zs6.length by simp; omega]
    exact h
  have HB8 : Hid (Below w.heap.size w w8) := HB6.out.grown HA8.out.2.1 HB6.out.size (fun j e => by have := (HO7.out.lt j e).1; have := HB4.out.size; omega)
  have HY8 := Lib.hid (byt_own ho8 (by simp; omega) (Nat.le_refl _))
  have HG8 : Hid (getsB (7 :: zs6) 8 k m 0 = true) := HF.out (7 :: zs6) 8 8 m (fun i hi => ⟨by simp; omega, by rw [bt_cons]; exact HD6.out i hi⟩) rfl rfl
  have HQ8 := Lib.hid (gets4_any HY8.out (Nat.le_refl _) 8 k m 0 (by omega))
  rw [HG8.out] at HQ8
  clear ho8
  go_wp2_with fail
  refine HQ8.out.mono ?_
  rintro e w9 ⟨rfl, b9⟩
  have HB9 := Lib.hid (below_chain HB8.out (Nat.le_refl _) b9)
  clear b9 HQ8 HG8 HY8
  go_wp2_with fail
  refine (bytes4_any (n₀ := 0) (ys := []) (a := none) (len := 0) (cap := 0) ⟨rfl, Nat.le_refl _, by omega, .inl rfl⟩ (Nat.zero_le _) (by omega) b m q3).mono ?_
  rintro e w10 ⟨zs10, v10, rfl, hl10, ho10, hd10, b10⟩
  have HB10 := Lib.hid (below_chain HB9.out (Nat.le_refl _) b10)
  have HL10 := Lib.hid hl10
  have hz10 : zs10.length = (m + 7) / 8 := by omega
  clear hl10
  obtain ⟨q, hq⟩ : ∃ q, q = (m - 1) / 8 := ⟨_, rfl⟩
  obtain ⟨g, cap10, rfl, hg10, hcap, hcap2⟩ : ∃ g cap, v10 = .slice (some ⟨g, 0, none⟩) zs10.length cap ∧ g < w10.heap.size ∧ zs10.length ≤ cap ∧ cap ≤ 9223372036854775807 := by
    rcases id ho10.2 with ⟨_, h0⟩ | ⟨g, cap, cur, rfl, _, hg, hc, hmx, _⟩
    · omega
    · exact ⟨g, cap, rfl, (Array.getElem?_eq_some_iff.1 hg).1, hc, by unfold maxLen at hmx; omega⟩
  have hql : q ≤ zs10.length := by omega
  have HYc : Hid (Byt w10.heap.size w10 (.slice (some ⟨g, 0, none⟩) q cap10) (zs10.take q)) := by
    have e : (zs10.take q).length = q := by simp; omega
    refine ⟨_, cap10, by rw [e], by rw [e]; omega, .inr ⟨g, 0, rfl, hg10, fun j hj => ?_⟩⟩
    rw [e] at hj
    rw [Nat.zero_add, ho10.cellAt j (by omega), List.getElem?_take, if_pos hj]
    simp [u8s, show j < zs10.length by omega]
  have HGc : Hid (getsB (zs10.take q) 0 0 0 5 = true) := HCut.out (zs10.take q) (fun i hi => by
    have e : (zs10.take q).length = q := by simp; omega
    rw [e] at hi ⊢
    rw [Nat.zero_add]
    exact ⟨hi, by rw [bt_take _ _ _ hi]; exact hd10 i (by omega)⟩) (by simp; omega)
  have HQc := Lib.hid (gets4_any HYc.out (Nat.le_refl _) 0 0 0 5 (by omega))
  rw [HGc.out] at HQc
  have kq : ((m : Int) - 1) / 8 = (q : Int) := by omega
  have kq2 : (q : Int) ≤ (cap10 : Int) := by omega
  clear b10 ho10 hd10 hq HYc HGc hz10
  go_wp2_with fail
  refine HQc.out.mono ?_
  rintro e w11 ⟨rfl, b11⟩
  have HB11 := Lib.hid (below_chain HB10.out (Nat.le_refl _) b11)
  go_wp2
  go_ret
  exact ⟨rfl, HB11.out⟩

end Go.Proofs.YtmampneedmodeaaDoor
