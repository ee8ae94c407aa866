/- the kit's CopyBytes; paint: what Fetch tells at 0, 0 of what was laid. -/
import Derived.Test.YtenplmmongphoaaTPlain3
import Derived.Test.YtenplmmongphoaaTPic
import Derived.Test.YtenplmmongphoaaTRef3
namespace Go.Proofs.Ytenplmmongphoaa
open Go.RowKit Go.Shelf Go.Sort
set_option linter.unusedVariables false

theorem picW_src {W : World} {g : Nat} {post : List Value} {zs : List UInt8} (h : PicW W g [] zs post) : Src W (some ⟨g, 0, none⟩) zs.length (u8s zs) := by
  refine ⟨by simp [u8s], .inr ⟨_, rfl, fun j u hu => ?_⟩⟩
  have hadd : (⟨g, 0, none⟩ : Addr).add j = ⟨g, 0 + j, none⟩ := by unfold Addr.add; split <;> simp_all
  have hj : j < zs.length := by simpa [u8s] using (List.getElem?_eq_some_iff.1 hu).1
  have hc := h.cell hj
  rw [hadd]
  refine hc.trans ?_
  rw [← hu]
  simp [u8s, hj]

set_option maxRecDepth 100000 in
theorem copyBytes_any {w : World} {a : Option Addr} {cap : Nat} {zs : List UInt8} (hs : Src w a zs.length (u8s zs)) (hnc : a = none → cap = 0) (hl : zs.length ≤ 1099511627776) :
    Calls Try.prog 34 #[.slice a zs.length cap] w fun e w' => ∃ v, e = .returned v ∧ w'.ownsRow w.heap.size 5 1 v zs.length (u8s zs) ∧ Below w.heap.size w w' := by
  have HS := Lib.hid hs
  have HN := Lib.hid hnc
  clear hs hnc
  go_enter Try.func34, Try.ntmps34
  go_wp2_with (at_builtin; refine wpList_append_src rfl (.tmp 3) (.tmp 4) rfl w.heap.size (.slice (some ⟨w.heap.size, 0, none⟩) 0 0) 0 [] rfl (own_empty _ _) a zs.length cap (u8s zs) rfl (HS.out.alloc _) HN.out u8s_one (by omega) (by simp) ?_; intro v1 w1 hap; have HF := Lib.hid (lent_first hap); clear hap)
  go_ret
  exact ⟨_, rfl, HF.out.1, HF.out.2⟩

/-- what is fetched at a block's own place: 64 samples -/
theorem mL_own {F G A : Int} (h : cE F G A = 0) {i : Nat} (hi : i < 6) {zs : List UInt8} (hn : (zs.length : Int) = sN F) : mE F G A ((i : Int) + 1) 0 0 zs.length = 0 ∧ mL F G A ((i : Int) + 1) 0 0 zs = (List.range 64).map fun k => zs[psT F G A ((i : Int) + 1) k]?.getD 0 := by
  have hm : mE F G A ((i : Int) + 1) 0 0 zs.length = 0 := by unfold mE; rw [if_pos h, if_pos hn, if_pos (pE_six h hi)]; exact fE_still h
  refine ⟨hm, ?_⟩
  unfold mL
  rw [if_pos hm]
  apply List.map_congr_left
  intro k hk
  rfl
/-- the same, when samples were laid there -/
theorem laid_back {F G A : Int} (h : cE F G A = 0) {i : Nat} (hi : i < 6) {zs ss : List UInt8} (hn : (zs.length : Int) = sN F) (hs : ss.length = 64) :
    lyE F G A ((i : Int) + 1) zs.length ss.length = 0 ∧ ((List.range 64).map fun k => (lyL F G A ((i : Int) + 1) zs ss)[psT F G A ((i : Int) + 1) k]?.getD 0) = ss := by
  have hE : lyE F G A ((i : Int) + 1) zs.length ss.length = 0 := by
    unfold lyE
    rw [if_pos h, if_pos ⟨hn, by omega⟩]
    exact pE_six h hi
  refine ⟨hE, ?_⟩
  rw [show lyL F G A ((i : Int) + 1) zs ss = putT (psT F G A ((i : Int) + 1)) (fun k => ss[k]?.getD 0) zs 64 from if_pos hE]
  obtain ⟨h1, -⟩ := putT_at (P := psT F G A ((i : Int) + 1)) (V := fun k => ss[k]?.getD 0) (zs := zs) (N := 64) (fun k hk => psT_lt h hi hk hn) (fun j k hj hk e => (psT_apart h hi hi hj hk e).2) (Nat.le_refl 64)
  exact listB_ext (n := 64) (by simp) hs (fun j hj => by
    rw [List.getElem?_map, List.getElem?_range hj]
    refine (congrArg some (h1 j hj)).trans ?_
    rw [List.getElem?_eq_getElem (by omega)]
    rfl)
/-- what another block's samples are, when samples were laid -/
theorem laid_else {F G A : Int} (h : cE F G A = 0) {i j : Nat} (hi : i < 6) (hj : j < 6) (hij : i ≠ j) {zs ss : List UInt8} (hn : (zs.length : Int) = sN F) (hs : ss.length = 64) :
    ((List.range 64).map fun k => (lyL F G A ((i : Int) + 1) zs ss)[psT F G A ((j : Int) + 1) k]?.getD 0) = (List.range 64).map fun k => zs[psT F G A ((j : Int) + 1) k]?.getD 0 := by
  obtain ⟨hE, -⟩ := laid_back (zs := zs) (ss := ss) h hi hn hs
  rw [show lyL F G A ((i : Int) + 1) zs ss = putT (psT F G A ((i : Int) + 1)) (fun k => ss[k]?.getD 0) zs 64 from if_pos hE]
  obtain ⟨-, h2⟩ := putT_at (P := psT F G A ((i : Int) + 1)) (V := fun k => ss[k]?.getD 0) (zs := zs) (N := 64) (fun k hk => psT_lt h hi hk hn) (fun j k hj hk e => (psT_apart h hi hi hj hk e).2) (Nat.le_refl 64)
  apply List.map_congr_left
  intro k hk
  exact h2 _ (fun l hl e => hij (psT_apart h hi hj hl (List.mem_range.1 hk) e).1)
/-- to lay twice is to lay once -/
theorem laid_twice {F G A : Int} (h : cE F G A = 0) {i : Nat} (hi : i < 6) {zs ss : List UInt8} (hn : (zs.length : Int) = sN F) (hs : ss.length = 64) : lyL F G A ((i : Int) + 1) (lyL F G A ((i : Int) + 1) zs ss) ss = lyL F G A ((i : Int) + 1) zs ss := by
  obtain ⟨hE, -⟩ := laid_back (zs := zs) (ss := ss) h hi hn hs
  have hl1 : lyL F G A ((i : Int) + 1) zs ss = putT (psT F G A ((i : Int) + 1)) (fun k => ss[k]?.getD 0) zs 64 := if_pos hE
  have hE2 : lyE F G A ((i : Int) + 1) (lyL F G A ((i : Int) + 1) zs ss).length ss.length = 0 := by rw [lyL_length]; exact hE
  rw [show lyL F G A ((i : Int) + 1) (lyL F G A ((i : Int) + 1) zs ss) ss = putT (psT F G A ((i : Int) + 1)) (fun k => ss[k]?.getD 0) (lyL F G A ((i : Int) + 1) zs ss) 64 from if_pos hE2, hl1]
  have hi2 : ∀ j k, j < 64 → k < 64 → psT F G A ((i : Int) + 1) j = psT F G A ((i : Int) + 1) k → j = k := fun j k hj hk e => (psT_apart h hi hi hj hk e).2
  obtain ⟨a1, a2⟩ := putT_at (P := psT F G A ((i : Int) + 1)) (V := fun k => ss[k]?.getD 0) (zs := zs) (N := 64) (fun k hk => psT_lt h hi hk hn) hi2 (Nat.le_refl 64)
  obtain ⟨b1, b2⟩ := putT_at (P := psT F G A ((i : Int) + 1)) (V := fun k => ss[k]?.getD 0) (zs := putT (psT F G A ((i : Int) + 1)) (fun k => ss[k]?.getD 0) zs 64) (N := 64) (fun k hk => by rw [putT_length]; exact psT_lt h hi hk hn) hi2 (Nat.le_refl 64)
  refine listB_ext (n := zs.length) (by rw [putT_length, putT_length]) (putT_length _ _ _ _) (fun x hx => ?_)
  have hv : (putT (psT F G A ((i : Int) + 1)) (fun k => ss[k]?.getD 0) (putT (psT F G A ((i : Int) + 1)) (fun k => ss[k]?.getD 0) zs 64) 64)[x]?.getD 0 = (putT (psT F G A ((i : Int) + 1)) (fun k => ss[k]?.getD 0) zs 64)[x]?.getD 0 := by
    by_cases he : ∃ k, k < 64 ∧ psT F G A ((i : Int) + 1) k = x
    · obtain ⟨k, hk, rfl⟩ := he
      exact (b1 k hk).trans (a1 k hk).symm
    · exact b2 x (fun k hk e => he ⟨k, hk, e⟩)
  rw [List.getElem?_eq_getElem (by rw [putT_length, putT_length]; exact hx), List.getElem?_eq_getElem (by rw [putT_length]; exact hx)] at hv ⊢
  simpa using hv

end Go.Proofs.Ytenplmmongphoaa
