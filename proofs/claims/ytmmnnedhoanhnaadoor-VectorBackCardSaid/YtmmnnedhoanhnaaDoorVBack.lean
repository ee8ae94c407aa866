/- The contracts of the law's helpers code and bytes (praxinoscopelaw06); what is got of a code that was put; the walk of VectorBack. -/
import Derived.Test.YtmmnnedhoanhnaaDoorVLaw
import Derived.Test.YtmmnnedhoanhnaaDoorABits
namespace Go.Proofs.YtmmnnedhoanhnaaDoor
open Go.RowKit Go.Shelf
set_option linter.unusedVariables false

set_option maxRecDepth 100000 in
set_option maxHeartbeats 1000000 in
theorem code6_true (s : ByteArray) (hs : AllBits s) (h1 : 1 ≤ s.size) (h11 : s.size ≤ 11) (w : World) :
    Calls Tryd.prog 26 #[.string s] w fun e w' => e = .returned (.bool true) ∧ w = w' := by
  have HS := Lib.hid hs
  clear hs
  go_enter Tryd.func26, Tryd.ntmps26
  go_wp2
  go_loop [3] (fun i => ∃ t : Nat, t ≤ s.size ∧ i = .int .i64 t) (fun i => s.size - (intOf i).toNat)
  case atStart => exact ⟨0, Nat.zero_le _, rfl⟩
  case round =>
    obtain ⟨t, ht, rfl⟩ := hrel
    by_cases hts : t < s.size
    · rcases HS.out t hts with h | h
      · have e1 : ((s[t].toNat : Int) != 48) = false := by rw [h]; rfl
        clear h
        go_wp2
        go_round
        case rel => exact ⟨t + 1, by omega, by go_num⟩
        case measure => simp [intOf]; omega
      · have e1 : ((s[t].toNat : Int) != 48) = true := by rw [h]; rfl
        have e2 : ((s[t].toNat : Int) != 49) = false := by rw [h]; rfl
        clear h
        go_wp2
        go_round
        case rel => exact ⟨t + 1, by omega, by go_num⟩
        case measure => simp [intOf]; omega
    · have htn : t = s.size := by omega
      subst t
      go_wp2
      go_ret
      exact ⟨ret_bool (decide_eq_true (by omega)), rfl⟩

/-- the bits that a text spells, as numbers -/
def spellI (s : ByteArray) (n : Nat) : List Int := (List.range n).map fun i => ((s.data.toList[i]?.getD 48).toNat : Int) - 48
theorem spellI_succ (s : ByteArray) (n : Nat) (x : Int) (hx : x = ((s.data.toList[n]?.getD 48).toNat : Int) - 48) : intV (spellI s n) ++ [.int .i64 x] = intV (spellI s (n + 1)) := by
  subst hx
  simp [spellI, List.range_succ]
theorem spellI_length (s : ByteArray) (n : Nat) : (spellI s n).length = n := by simp [spellI]
theorem at_list (s : ByteArray) {t : Nat} (h : t < s.size) : s.data.toList[t]?.getD 48 = s[t] := by
  have h2 : t < s.data.toList.length := by simpa using h
  rw [List.getElem?_eq_getElem h2]
  simp
  rfl

set_option maxRecDepth 100000 in
set_option maxHeartbeats 2000000 in
theorem bytes6_any {n₀ : Nat} {w : World} {a : Option Addr} {len cap : Nat} {ys : List Int} (h : RowV n₀ w a len cap (intV ys)) (hn₀ : n₀ ≤ w.heap.size) (hlen : len ≤ 100) (s : ByteArray) (hs : AllBits s) (m : Nat) (hsz : s.size = m) (hm : m ≤ 15) :
    Calls Tryd.prog 27 #[.string s, .slice a len cap] w fun e w' => ∃ (zs : List UInt8) (v : Value), e = .returned v ∧ zs.length = (m + len + 7) / 8 ∧ w'.ownsRow w.heap.size 5 1 v zs.length (u8s zs) ∧ (∀ j (hj : j < s.size), s[j] = UInt8.ofNat (48 + bt zs j)) ∧ Below w.heap.size w w' := by
  obtain ⟨i2, hi2', hz20, hz21, hz22⟩ := info_parts Tryd.info3y
  have hl : ys.length = len := by have := h.1; simpa using this
  have HR := Lib.hid h
  have HS := Lib.hid hs
  clear h hs
  go_enter Tryd.func27, Tryd.ntmps27
  go_wp2_with fail
  go_loopw [5, 6] (fun v i wr => ∃ t : Nat, i = .int .i64 t ∧ t ≤ m ∧ wr.ownsRow w.heap.size 3 1 v t (intV (spellI s t)) ∧ Below w.heap.size w wr) (fun _ i _ => m - (intOf i).toNat)
  case atStart => exact ⟨0, rfl, by omega, World.ownsRow_nil _ _ _ _, Below.refl _ _⟩
  case round =>
    obtain ⟨t, rfl, ht, ho, hb⟩ := hrel
    have HO := Lib.hid ho
    have HB := Lib.hid hb
    have hbs := hb.size
    clear ho hb
    by_cases htl : t < m
    · have hts : t < s.size := by omega
      have hat := at_list s hts
      rcases HS.out t hts with h | h
      · have e1 : (s[t].toNat : Int) = 48 := by rw [h]; rfl
        have HSn := Lib.hid (spellI_succ s t 0 (by rw [hat, h]; rfl))
        clear hat h
        go_wp2_with (at_builtin; refine wpList_append_v rfl _ _ 41 3 i2 (.int .i64 0) 8 rfl Tryd.underlying41y hi2' hz20 hz21 hz22 rfl w.heap.size _ t _ rfl (HO.out.alloc _) (some ⟨wr.heap.size, 0, none⟩) 1 1 [.int .i64 0] rfl (src_one _ _ _) (fun e => nomatch e) (by simp [Value.oneCell']) (by omega) (by omega) (by simp; omega) ?_; intro v1 w1 hap; have HA := Lib.hid hap; clear hap)
        go_roundw
        case rel =>
          refine ⟨t + 1, by go_num, by omega, ?_, ?_⟩
          · rw [← HSn.out]
            exact HA.out.1
          · exact (HB.out.alloc (by omega) _).grown HA.out.2.1 (by simp; omega) (fun j e => (HO.out.lt j e).1)
        case measure => simp [intOf]; omega
      · have e1 : (s[t].toNat : Int) = 49 := by rw [h]; rfl
        have HSn := Lib.hid (spellI_succ s t 1 (by rw [hat, h]; rfl))
        clear hat h
        go_wp2_with (at_builtin; refine wpList_append_v rfl _ _ 41 3 i2 (.int .i64 0) 8 rfl Tryd.underlying41y hi2' hz20 hz21 hz22 rfl w.heap.size _ t _ rfl (HO.out.alloc _) (some ⟨wr.heap.size, 0, none⟩) 1 1 [.int .i64 1] rfl (src_one _ _ _) (fun e => nomatch e) (by simp [Value.oneCell']) (by omega) (by omega) (by simp; omega) ?_; intro v1 w1 hap; have HA := Lib.hid hap; clear hap)
        go_roundw
        case rel =>
          refine ⟨t + 1, by go_num, by omega, ?_, ?_⟩
          · rw [← HSn.out]
            exact HA.out.1
          · exact (HB.out.alloc (by omega) _).grown HA.out.2.1 (by simp; omega) (fun j e => (HO.out.lt j e).1)
        case measure => simp [intOf]; omega
    · have htn : t = m := by omega
      subst htn
      have HSrc := Lib.hid (HR.out.below (HB.out.mono hn₀)).src
      go_wp2_with (at_builtin; refine wpList_append_v rfl _ _ 41 3 i2 (.int .i64 0) 8 rfl Tryd.underlying41y hi2' hz20 hz21 hz22 rfl w.heap.size _ t _ rfl HO.out a len cap (intV ys) rfl HSrc.out HR.out.nocap intV_one (by omega) (by omega) (by omega) ?_; intro v1 w1 hap; have HA := Lib.hid hap; clear hap; refine Hid.out ?_)
      refine Lib.hid ?_
      have hrow := HA.out.1
      have hb1 : Below w.heap.size w w1 := HB.out.grown HA.out.2.1 hbs (fun j e => (HO.out.lt j e).1)
      have HB1 := Lib.hid hb1
      have hs1 := hb1.size
      obtain ⟨a1, c1, rfl, hv⟩ := rowV_own4 hrow
      have hv2 : RowV w1.heap.size w1 a1 (t + len) c1 (intV (spellI s t ++ ys)) := by
        have e : intV (spellI s t ++ ys) = intV (spellI s t) ++ intV ys := by simp
        rw [e]; exact hv
      have HK := Lib.hid (kbits_any hv2 (Nat.le_refl _) (by omega))
      clear hrow hb1 hv hv2
      go_wp2_with (go_at_call 40; refine HK.out.mono ?_; rintro e w2 ⟨zs, rfl, hzl, ho2, hd2, hb2⟩; have HO2 := Lib.hid ho2; have HD2 := Lib.hid hd2; have HB2 := Lib.hid hb2; clear ho2 hd2 hb2)
      go_ret
      refine ⟨zs, _, rfl, hzl, ?_, fun j hj => ?_, HB1.out.trans (HB2.out.mono hs1)⟩
      · rw [hzl]
        exact ownsRow_base HO2.out hs1
      · rw [HD2.out j (by omega), List.getElem?_append_left (by rw [spellI_length]; omega)]
        have e2 : (spellI s t)[j]?.getD 0 = ((s[j]).toNat : Int) - 48 := by
          have h3 := at_list s hj
          simp only [spellI, List.getElem?_map, List.getElem?_range (show j < t by omega), Option.map_some, Option.getD_some]
          rw [h3]
        rw [e2]
        rcases HS.out j hj with h | h
        · rw [h]; rfl
        · rw [h]; rfl

/-! ### what is got of bits that begin with a code -/
theorem bits_begins {zs : List UInt8} {A : Nat} {c : ByteArray} (hn : c.size ≤ seenN zs A) (h : ∀ j (hj : j < c.size), c[j] = UInt8.ofNat (48 + bt zs (A + j))) : begins (seenB zs A (seenN zs A)) c = true := by
  unfold begins
  rw [decide_eq_true_iff]
  show c.data.toList <+: seenL zs A (seenN zs A)
  rw [List.prefix_iff_eq_take]
  have hcl : c.data.toList.length = c.size := by simp
  apply List.ext_getElem?
  intro i
  by_cases hi : i < c.size
  · rw [List.getElem?_take, if_pos (by rw [hcl]; exact hi), List.getElem?_eq_getElem (by rw [hcl]; exact hi)]
    have h3 : (seenL zs A (seenN zs A))[i]? = some (UInt8.ofNat (48 + bt zs (A + i))) := by
      unfold seenL
      rw [List.getElem?_map, List.getElem?_range (by omega)]
      rfl
    rw [h3, ← h i hi]
    simp
    rfl
  · rw [List.getElem?_eq_none (by rw [hcl]; omega), List.getElem?_eq_none (by simp; omega)]
theorem getT6_put {zs : List UInt8} {k : Nat} (hk : k < 32) (hl : (codes6[k]?.getD (⟨#[]⟩ : ByteArray)).size ≤ 8 * zs.length) (h : ∀ j (hj : j < (codes6[k]?.getD (⟨#[]⟩ : ByteArray)).size), (codes6[k]?.getD (⟨#[]⟩ : ByteArray))[j] = UInt8.ofNat (48 + bt zs j)) :
    getT codes6 nums6 zs 0 = .tuple #[.int .i64 ((k : Int) - 16), .int .i64 ((codes6[k]?.getD (⟨#[]⟩ : ByteArray)).size : Nat), .int .i64 0] := by
  obtain ⟨q1, q2, q3⟩ := codes6_at hk
  have hb : begins (seenB zs 0 (seenN zs 0)) (codes6[k]?.getD ⟨#[]⟩) = true := bits_begins (by unfold seenN; omega) (fun j hj => by rw [Nat.zero_add]; exact h j hj)
  have hI := codes_one clash6 (by rw [codes6_length]; exact hk) hb
  unfold getT
  rw [if_neg (by omega), show (0 : Int).toNat = 0 from rfl]
  unfold getX getN getE3
  rw [hI]
  simp only
  rw [nums6_at hk]

theorem apart6 : ∀ i : Fin 32, ∀ j : Fin 32, i ≠ j → ((codes6[i.val]?.getD (⟨#[]⟩ : ByteArray)).data.toList.take (min (codes6[i.val]?.getD (⟨#[]⟩ : ByteArray)).size (codes6[j.val]?.getD (⟨#[]⟩ : ByteArray)).size) ≠ (codes6[j.val]?.getD (⟨#[]⟩ : ByteArray)).data.toList.take (min (codes6[i.val]?.getD (⟨#[]⟩ : ByteArray)).size (codes6[j.val]?.getD (⟨#[]⟩ : ByteArray)).size)) := by decide +kernel
theorem apart6_bytes {i j : Nat} (hi : i < 32) (hj : j < 32) (h : i ≠ j) (n : Nat) (hn : n = min (codes6[i]?.getD (⟨#[]⟩ : ByteArray)).size (codes6[j]?.getD (⟨#[]⟩ : ByteArray)).size) : (codes6[i]?.getD (⟨#[]⟩ : ByteArray)).extract 0 n ≠ (codes6[j]?.getD (⟨#[]⟩ : ByteArray)).extract 0 n := by
  subst hn
  intro e
  have := apart6 ⟨i, hi⟩ ⟨j, hj⟩ (by simpa using h)
  apply this
  have e2 := congrArg (fun b : ByteArray => b.data.toList) e
  simp only [ByteArray.data_extract, Array.toList_extract] at e2
  simpa [List.extract] using e2

theorem put6_nat {k : Nat} (hk : k < 32) : putS6 ((k : Int) - 16) = codes6[k]?.getD ⟨#[]⟩ ∧ putE6 ((k : Int) - 16) = 0 := by
  unfold putS6 putE6
  rw [if_neg (by omega), if_neg (by omega), show ((k : Int) - 16 + 16).toNat = k by omega]
  exact ⟨rfl, rfl⟩

set_option maxRecDepth 100000 in
set_option maxHeartbeats 4000000 in
theorem vectorBack_walk (I : VectorI) {w : World} {a : Option Addr} {len cap : Nat} {ys : List Int} (x y : Int) (hR : RowV w.heap.size w a len cap (intV ys)) (hT : Tails w) :
    Calls Tryd.prog 6 #[.int .i64 x, .int .i64 y, .slice a len cap] w fun e w' => e = .returned (.bool true) ∧ Below w.heap.size w w' := by
  have hx0 := Int.emod_nonneg x (b := 32) (by omega)
  have hx1 := Int.emod_lt_of_pos x (b := 32) (by omega)
  have hy0 := Int.emod_nonneg y (b := 32) (by omega)
  have hy1 := Int.emod_lt_of_pos y (b := 32) (by omega)
  obtain ⟨i, hi⟩ := Int.eq_ofNat_of_zero_le hx0
  obtain ⟨j, hj⟩ := Int.eq_ofNat_of_zero_le hy0
  have hi32 : i < 32 := by omega
  have hj32 : j < 32 := by omega
  have HPx := Lib.hid (pick_any x 32)
  have HPy := Lib.hid (pick_any y 32)
  rw [hi] at HPx
  rw [hj] at HPy
  have HT := Lib.hid (fun w' (hb : Below w.heap.size w w') => hT.below hb)
  have HK := Lib.hid (known6_any I w hT)
  have HR := Lib.hid hR
  have HSi := Lib.hid (fun w' (hT : Tails w') => put6_lit I ((i : Int) - 16) _ _ (put6_nat hi32).1 (put6_nat hi32).2 (by omega) (by omega) w' hT)
  have HSj := Lib.hid (fun w' (hT : Tails w') => put6_lit I ((j : Int) - 16) _ _ (put6_nat hj32).1 (put6_nat hj32).2 (by omega) (by omega) w' hT)
  obtain ⟨p1, p2, p3⟩ := codes6_at hi32
  obtain ⟨r1, r2, r3⟩ := codes6_at hj32
  have HX := Lib.hid (fun h => apart6_bytes hi32 hj32 h)
  have HG := Lib.hid (fun (zs : List UInt8) hl h => getT6_put (zs := zs) hi32 hl h)
  have hsame : i = j → codes6[i]?.getD (⟨#[]⟩ : ByteArray) = codes6[j]?.getD ⟨#[]⟩ := fun h => by rw [h]
  obtain ⟨s, hs⟩ : ∃ s, s = codes6[i]?.getD (⟨#[]⟩ : ByteArray) := ⟨_, rfl⟩
  obtain ⟨t, ht⟩ : ∃ t, t = codes6[j]?.getD (⟨#[]⟩ : ByteArray) := ⟨_, rfl⟩
  rw [← hs] at p1 p2 p3 HSi HX HG hsame
  rw [← ht] at r1 r2 r3 HSj HX hsame
  have HP1 := Lib.hid p1
  have HR1 := Lib.hid r1
  have HSame := Lib.hid hsame
  clear hx0 hx1 hy0 hy1 hi hj hs ht hT hR p1 r1 hsame
  go_enter Tryd.func6, Tryd.ntmps6
  go_wp2_with fail
  refine HK.out.mono ?_
  rintro e w1 ⟨rfl, b1⟩
  have HB1 := Lib.hid b1
  clear b1
  go_wp2_with fail
  refine (HPx.out _ (by decide) (by decide)).mono ?_
  rintro e w' ⟨rfl, rfl⟩
  go_wp2_with fail
  refine (HPy.out _ (by decide) (by decide)).mono ?_
  rintro e w' ⟨rfl, rfl⟩
  by_cases hlong : 60 < len
  · go_wp2
    go_ret
    exact ⟨rfl, HB1.out⟩
  go_wp2_with fail
  refine (HSi.out w1 (HT.out _ HB1.out)).mono ?_
  rintro e w' ⟨rfl, rfl⟩
  go_wp2_with fail
  refine (HSj.out w1 (HT.out _ HB1.out)).mono ?_
  rintro e w' ⟨rfl, rfl⟩
  go_wp2_with fail
  refine (code6_true s HP1.out p2 p3 w1).mono ?_
  rintro e w' ⟨rfl, rfl⟩
  go_wp2_with fail
  refine (code6_true t HR1.out r2 r3 w1).mono ?_
  rintro e w' ⟨rfl, rfl⟩
  go_wp2_with fail
  refine (bytes6_any (HR.out.below HB1.out) HB1.out.size (by omega) s HP1.out s.size rfl (by omega)).mono ?_
  rintro e w3 ⟨zs, v3, rfl, hl3, ho3, hd3, b3⟩
  have HB3 := Lib.hid (below_chain HB1.out (Nat.le_refl _) b3)
  have HQ3 := Lib.hid (gets6_byt I (byt_own ho3 (by omega) (Nat.le_refl _)) (Nat.le_refl _) (by omega) (HT.out _ HB3.out) ((i : Int) - 16) (s.size : Nat) 0 (HG.out zs (by omega) hd3))
  clear b3 ho3 hd3
  go_wp2_with fail
  refine HQ3.out.mono ?_
  rintro e w4 ⟨rfl, b4⟩
  have HB4 := Lib.hid (below_chain HB3.out (Nat.le_refl _) b4)
  clear b4 HQ3
  obtain ⟨n, hn⟩ : ∃ n, n = min s.size t.size := ⟨_, rfl⟩
  have hmin : min ((s.size : Nat) : Int) ((t.size : Nat) : Int) = (n : Int) := by omega
  have hn1 : n ≤ s.size := by omega
  have hn2 : n ≤ t.size := by omega
  by_cases hij : i = j
  · have hst := HSame.out hij
    subst hij
    subst hst
    clear hn
    go_wp2
    go_quiet (fail)
    go_wp2
    go_ret
    exact ⟨rfl, HB4.out.trans (below_drewN _ _ _)⟩
  · have t1 : (((i : Int) - 16) == ((j : Int) - 16)) = false := by rw [beq_eq_false_iff_ne]; omega
    have hne := HX.out hij n hn
    have d2 : ((s.extract 0 n).toList == (t.extract 0 n).toList) = false := Bool.eq_false_iff.2 (fun h => hne ((str_eq_iff _ _).1 h))
    clear hij hn hne
    go_wp2
    go_quiet (fail)
    go_wp2
    go_ret
    exact ⟨rfl, HB4.out.trans (below_drewN _ _ _)⟩

end Go.Proofs.YtmmnnedhoanhnaaDoor
