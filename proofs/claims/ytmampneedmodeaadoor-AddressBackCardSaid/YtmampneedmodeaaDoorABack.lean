/- The contract of the law's helper bytes (praxinoscopelaw04), what is got of a code that was put, and the walk of AddressBack. -/
import Derived.Test.YtmampneedmodeaaDoorABits
namespace Go.Proofs.YtmampneedmodeaaDoor
open Go.RowKit Go.Shelf
set_option linter.unusedVariables false

/-! ### what is got of bits that begin with a code -/
theorem clash4 : clash codes4 = false := by decide +kernel
theorem apart4 {i j : Nat} (hi : i < 35) (hj : j < 35) (h : begins (codes4[i]?.getD ⟨#[]⟩) (codes4[j]?.getD ⟨#[]⟩) = true) : i = j := by
  false_or_by_contra
  rename_i hne
  have := clash_true (codes := codes4) (i := i) (k := j) (by rw [codes4_length]; exact hi) (by rw [codes4_length]; exact hj) (by unfold clashAt; rw [h]; simp [hne])
  rw [clash4] at this
  cases this
theorem begins_trans {a b c : ByteArray} (h1 : begins a b = true) (h2 : begins b c = true) : begins a c = true := by
  unfold begins at *
  rw [decide_eq_true_iff] at *
  exact h2.trans h1
theorem begins_both {s a b : ByteArray} (h1 : begins s a = true) (h2 : begins s b = true) : begins a b = true ∨ begins b a = true := by
  unfold begins at *
  simp only [decide_eq_true_iff] at *
  rcases List.prefix_or_prefix_of_prefix h1 h2 with h | h
  · exact .inr h
  · exact .inl h
theorem get_one {S : ByteArray} {k : Nat} (hk : k < 35) (h : begins S (codes4[k]?.getD ⟨#[]⟩) = true) : getI codes4 S = some k := by
  refine getI_some (by rw [codes4_length]; exact hk) h (fun j hj => ?_)
  rw [Bool.eq_false_iff]
  intro hb
  rcases begins_both h hb with e | e
  · have := apart4 hk (by omega) e; omega
  · have := apart4 (by omega) hk e; omega
theorem get_cut {S : ByteArray} {k : Nat} (hk : k < 35) (h1 : begins S (codes4[k]?.getD ⟨#[]⟩) = false) (h2 : begins (codes4[k]?.getD ⟨#[]⟩) S = true) : getI codes4 S = none ∧ getMore codes4 S = true := by
  refine ⟨getI_none (fun j hj => ?_), getMore_true (by rw [codes4_length]; exact hk) h2⟩
  rw [codes4_length] at hj
  rw [Bool.eq_false_iff]
  intro hb
  have := apart4 hk hj (begins_trans h2 hb)
  subst this
  rw [h1] at hb
  cases hb
theorem getsB_found {zs : List UInt8} {A k : Nat} (hk : k < 34) (h : Agrees zs A (cd k).1 (cd k).2 (cd k).2) (x m : Int) (hx : x = A) (hm : m = (cd k).2) : getsB zs x k m 0 = true := by
  subst hx hm
  have hs := agrees_all h (tab4_small _ (cd_mem (k := k) (by omega))).2.2
  rw [← codes4_at (k := k) (by omega)] at hs
  have hI := get_one (k := k) (by omega) hs
  have hX : getX codes4 nums4 (seenB zs A (seenN zs A)) = k := by unfold getX; rw [hI]; exact nums4_at (by omega)
  have hN : getN codes4 (seenB zs A (seenN zs A)) = (cd k).2 := by unfold getN; rw [hI]; show (((codes4[k]?.getD ⟨#[]⟩).size : Nat) : Int) = _; rw [codes4_at (by omega), binS_size]
  have hE : getE3 codes4 (seenB zs A (seenN zs A)) = 0 := by unfold getE3; rw [hI]
  unfold getsB gN gM gE
  have h0 : ¬ ((A : Int) < 0) := by omega
  have h34 : ¬ ((k : Int) = 34) := by omega
  simp only [if_neg h0, Int.toNat_natCast, hX, hN, hE, if_neg h34]
  simp
theorem getsB_cut {zs : List UInt8} {k : Nat} (hk : k < 34) (h : Agrees zs 0 (cd k).1 (cd k).2 (8 * zs.length)) (hl : 8 * zs.length < (cd k).2) : getsB zs 0 0 0 5 = true := by
  obtain ⟨h1, h2⟩ := agrees_short h hl (tab4_small _ (cd_mem (k := k) (by omega))).2.2 (by omega)
  rw [← codes4_at (k := k) (by omega)] at h1 h2
  obtain ⟨hI, hM⟩ := get_cut (k := k) (by omega) h1 h2
  have hX : getX codes4 nums4 (seenB zs 0 (seenN zs 0)) = 0 := by unfold getX; rw [hI]
  have hN : getN codes4 (seenB zs 0 (seenN zs 0)) = 0 := by unfold getN; rw [hI]
  have hE : getE3 codes4 (seenB zs 0 (seenN zs 0)) = 5 := by unfold getE3; rw [hI, hM]; rfl
  unfold getsB gN gM gE
  have h0 : ¬ ((0 : Int) < 0) := by omega
  simp only [if_neg h0, show (0 : Int).toNat = 0 from rfl, hX, hN, hE]
  simp

/-! ### bytes -/
/-- the bits of a code, as numbers -/
def bitsI (b m n : Nat) : List Int := (List.range n).map fun i => ((cbit b m i : Nat) : Int)
theorem bitsI_succ (b m n : Nat) : intV (bitsI b m n) ++ [.int .i64 ((cbit b m n : Nat) : Int)] = intV (bitsI b m (n + 1)) := by simp [bitsI, List.range_succ]
theorem bitsI_length (b m n : Nat) : (bitsI b m n).length = n := by simp [bitsI]
theorem par_bit (y : Nat) (h : y < 2) : par (y : Int) = y := by
  rcases (by omega : y = 0 ∨ y = 1) with rfl | rfl <;> rfl

set_option maxRecDepth 100000 in
set_option maxHeartbeats 2000000 in
theorem bytes4_any {n₀ : Nat} {w : World} {a : Option Addr} {len cap : Nat} {ys : List Int} (h : RowV n₀ w a len cap (intV ys)) (hn₀ : n₀ ≤ w.heap.size) (hlen : len ≤ 100) (b m : Nat) (hm : m ≤ 15) :
    Calls Tryd.prog 24 #[.string (binS b m), .slice a len cap] w fun e w' => ∃ (zs : List UInt8) (v : Value), e = .returned v ∧ zs.length = (m + len + 7) / 8 ∧ w'.ownsRow w.heap.size 5 1 v zs.length (u8s zs) ∧ (∀ j, j < m → bt zs j = cbit b m j) ∧ Below w.heap.size w w' := by
  obtain ⟨i2, hi2', hz20, hz21, hz22⟩ := info_parts Tryd.info3y
  have hl : ys.length = len := by have := h.1; simpa using this
  have HR := Lib.hid h
  have hsz := binS_size b m
  have HAt : Hid (∀ t (ht : t < (binS b m).size), (binS b m)[t] = UInt8.ofNat (48 + cbit b m t)) := fun t ht => by
    show (binL b m).toArray[t]'(by simpa [binL] using (hsz ▸ ht)) = _
    simp [binL]
  clear h
  generalize binS b m = s at *
  go_enter Tryd.func24, Tryd.ntmps24
  go_wp2_with fail
  go_loopw [5, 6] (fun v i wr => ∃ t : Nat, i = .int .i64 t ∧ t ≤ m ∧ wr.ownsRow w.heap.size 3 1 v t (intV (bitsI b m t)) ∧ Below w.heap.size w wr) (fun _ i _ => m - (intOf i).toNat)
  case atStart => exact ⟨0, rfl, by omega, World.ownsRow_nil _ _ _ _, Below.refl _ _⟩
  case round =>
    obtain ⟨t, rfl, ht, ho, hb⟩ := hrel
    have HO := Lib.hid ho
    have HB := Lib.hid hb
    have hs := hb.size
    clear ho hb
    by_cases htl : t < m
    · have hts : t < s.size := by omega
      have hat := HAt.out t hts
      have hc := cbit_le b m t
      have HSn := Lib.hid (bitsI_succ b m t)
      generalize cbit b m t = y at *
      rcases (by omega : y = 0 ∨ y = 1) with rfl | rfl
      · have e1 : (s[t].toNat : Int) = 48 := by rw [hat]; rfl
        clear hat
        go_wp2_with (at_builtin; refine wpList_append_v rfl _ _ 38 3 i2 (.int .i64 0) 8 rfl Tryd.underlying38y hi2' hz20 hz21 hz22 rfl w.heap.size _ t _ rfl (HO.out.alloc _) (some ⟨wr.heap.size, 0, none⟩) 1 1 [.int .i64 0] rfl (src_one _ _ _) (fun e => nomatch e) (by simp [Value.oneCell']) (by omega) (by omega) (by simp; omega) ?_; intro v1 w1 hap; have HA := Lib.hid hap; clear hap)
        go_roundw
        case rel =>
          refine ⟨t + 1, by go_num, by omega, ?_, ?_⟩
          · rw [← HSn.out]
            exact HA.out.1
          · exact (HB.out.alloc (by omega) _).grown HA.out.2.1 (by simp; omega) (fun j e => (HO.out.lt j e).1)
        case measure => simp [intOf]; omega
      · have e1 : (s[t].toNat : Int) = 49 := by rw [hat]; rfl
        clear hat
        go_wp2_with (at_builtin; refine wpList_append_v rfl _ _ 38 3 i2 (.int .i64 0) 8 rfl Tryd.underlying38y hi2' hz20 hz21 hz22 rfl w.heap.size _ t _ rfl (HO.out.alloc _) (some ⟨wr.heap.size, 0, none⟩) 1 1 [.int .i64 1] rfl (src_one _ _ _) (fun e => nomatch e) (by simp [Value.oneCell']) (by omega) (by omega) (by simp; omega) ?_; intro v1 w1 hap; have HA := Lib.hid hap; clear hap)
        go_roundw
        case rel =>
          refine ⟨t + 1, by go_num, by omega, ?_, ?_⟩
          · rw [← HSn.out]
            exact HA.out.1
          · exact (HB.out.alloc (by omega) _).grown HA.out.2.1 (by simp; omega) (fun j e => (HO.out.lt j e).1)
        case measure => simp [intOf]; omega
    · have htn : t = m := by omega
      subst htn
      have HSrc := Lib.hid (HR.out.below (HB.out.mono hn₀)).src
      go_wp2_with (at_builtin; refine wpList_append_v rfl _ _ 38 3 i2 (.int .i64 0) 8 rfl Tryd.underlying38y hi2' hz20 hz21 hz22 rfl w.heap.size _ t _ rfl HO.out a len cap (intV ys) rfl HSrc.out HR.out.nocap intV_one (by omega) (by omega) (by omega) ?_; intro v1 w1 hap; have HA := Lib.hid hap; clear hap; refine Hid.out ?_)
      refine Lib.hid ?_
      have hrow := HA.out.1
      have hb1 : Below w.heap.size w w1 := HB.out.grown HA.out.2.1 hs (fun j e => (HO.out.lt j e).1)
      have HB1 := Lib.hid hb1
      have hs1 := hb1.size
      obtain ⟨a1, c1, rfl, hv⟩ := rowV_own4 hrow
      have hv2 : RowV w1.heap.size w1 a1 (t + len) c1 (intV (bitsI b t t ++ ys)) := by
        have e : intV (bitsI b t t ++ ys) = intV (bitsI b t t) ++ intV ys := by simp
        rw [e]; exact hv
      have HK := Lib.hid (kbits_any hv2 (Nat.le_refl _) (by omega))
      clear hrow hb1 hv hv2
      go_wp2_with (go_at_call 34; refine HK.out.mono ?_; rintro e w2 ⟨zs, rfl, hzl, ho2, hd2, hb2⟩; have HO2 := Lib.hid ho2; have HD2 := Lib.hid hd2; have HB2 := Lib.hid hb2; clear ho2 hd2 hb2)
      go_ret
      refine ⟨zs, _, rfl, hzl, ?_, fun j hj => ?_, HB1.out.trans (HB2.out.mono hs1)⟩
      · rw [hzl]
        exact ownsRow_base HO2.out hs1
      · rw [HD2.out j (by omega), List.getElem?_append_left (by rw [bitsI_length]; exact hj)]
        have e2 : (bitsI b t t)[j]?.getD 0 = ((cbit b t j : Nat) : Int) := by simp [bitsI, hj]
        rw [e2, par_bit _ (cbit_le _ _ _)]

end Go.Proofs.YtmampneedmodeaaDoor
