/- The reference's queue, more: contracts of its Feed and Bits. -/
import Derived.Test.YtglnmaekhpaffaaQRef
namespace Go.Proofs.Ytglnmaekhpaffaa
open Go.RowKit Go.Shelf
set_option linter.unusedVariables false

theorem Appended.undrew {w w' : World} {base n : Nat} {v v' : Value} {xs : List Value} (h : Appended w.drew w' base v v' n xs) : Appended w w' base v v' n xs :=
  ⟨h.1, ⟨h.2.1.os, h.2.1.tape, h.2.1.output, h.2.1.size, h.2.1.block⟩, h.2.2⟩
theorem Src.drew {w : World} {A : Option Addr} {m : Nat} {news : List Value} (h : Src w A m news) : Src w.drew A m news := h

/-- bytes more, behind an append and a store -/
theorem w_append {n₀ N : Nat} {w w1 w2 : World} {b : Nat} {v v' : Value} {q q' : Qs} {ys : List UInt8} (h : IsW n₀ w b v q) (hb : Below w.heap.size w w1) (hap : Appended w1 w2 n₀ v v' (q.all.length + N) (u8s q.all ++ u8s ys)) (hy : ys.length = N)
    (hq' : q' = { q with all := q.all ++ ys }) (ho : q'.ok) :
    (w2.cell? ⟨b, 1, none⟩ = some v ∧ w2.frozen? ⟨b, 1, none⟩ = false) ∧ WDid n₀ w (w2.setCell ⟨b, 1, none⟩ v') b v q' := by
  have h1 := h.later hb
  have hap1 := h1.apart
  have hlt := h1.lt
  obtain ⟨ha1, ha2, ha3⟩ := hap
  have hbar := bar_of_grown (S := fun k => v.ownBlock = some k) ha2 (fun k e => e)
  have h2 : w2.heap[b]? = some (wCells q.most v q.gone q.ended) := (hbar.block b hlt hap1).trans h1.2.2.1
  have hne : v'.ownBlock ≠ some b := fun e => by
    rcases ha3 b e with h | h
    · exact hap1 h
    · omega
  subst hq'
  refine ⟨⟨(w_cells h2).2.1, w_free h2 1⟩, v', ⟨ho, h.2.1, (w_set h2).1 v', ?_⟩, ?_, fun k e => (ha3 k e).imp id (fun h => Nat.le_trans hb.size h)⟩
  · have e1 : (q.all ++ ys).length = q.all.length + N := by simp [hy]
    have e2 : u8s (q.all ++ ys) = u8s q.all ++ u8s ys := by simp [u8s]
    simp only
    rw [e1, e2]
    exact ownsRow_set ha1 hne
  · exact (((bar_of_below hb).trans hbar (fun j _ e => .inr e)).setCell (fun _ => .inl rfl) _)

theorem feedQ_ok {q : Qs} (ho : q.ok) (zs : List UInt8) (hfit : q.all.length + zs.length ≤ 1099511627776) : (feedQ q zs).ok := by
  have hl : (fedL q zs).length ≤ zs.length ∧ (fedL q zs).length ≤ q.most - (q.all.length - q.gone / 8) := by
    unfold fedL
    split
    · simp
    · simp; omega
  have h1 := ho.gone
  have h2 := ho.held
  refine ⟨ho.1, ho.2, ?_, ?_, ?_⟩ <;> (simp only [feedQ, List.length_append]; omega)

set_option maxRecDepth 100000 in
set_option maxHeartbeats 2000000 in
theorem wfeed_any {n₀ : Nat} {w : World} {b : Nat} {v : Value} {q : Qs} (h : IsW n₀ w b v q) {a : Option Addr} {len cap : Nat} {zs : List UInt8} (hR : Row8 n₀ w a len cap zs) (hsz : n₀ ≤ w.heap.size) (hfit : q.all.length + len ≤ 1099511627776) :
    Calls Try.prog 27 #[.pointer (some ⟨b, 0, none⟩), .slice a len cap] w fun e w' => e = .returned (.tuple #[.int .i64 (fedL q zs).length, .int .i64 (feedE q)]) ∧ WDid n₀ w w' b v (feedQ q zs) := by
  have H := Lib.hid h
  have HF := Lib.hid (wfree_any h)
  have HR := Lib.hid hR
  have hzl := hR.1
  have hlc := hR.2.1
  have hcm := hR.2.2.1
  have HO := Lib.hid (feedQ_ok h.1 zs (by omega))
  obtain ⟨ho, hn, hb, hr⟩ := h
  obtain ⟨c0, c1, c2, c3⟩ := w_cells hb
  by_cases he : q.ended = true
  · rw [he] at c3
    have HE := Lib.hid he
    clear hb hr ho he hR
    go_enter Try.func27, Try.ntmps27
    go_wp2
    go_ret2
    have e1 : fedL q zs = [] := by simp [fedL, HE.out]
    have e2 : feedE q = 20 := by simp [feedE, HE.out]
    have e3 : feedQ q zs = q := by unfold feedQ; rw [e1]; simp
    rw [e1, e2, e3]
    exact ⟨rfl, WDid.later H.out (Below.refl _ _)⟩
  · have he' : q.ended = false := by simpa using he
    rw [he'] at c3
    have e2 : feedE q = 0 := by simp [feedE, he']
    have hm2 := ho.m2
    have hlen := ho.len
    obtain ⟨F, hF⟩ : ∃ F, F = q.most - (q.all.length - q.gone / 8) := ⟨_, rfl⟩
    obtain ⟨N, hN⟩ : ∃ N, N = (fedL q zs).length := ⟨_, rfl⟩
    have hfl : N = min len F := by rw [hN]; simp only [fedL, he', Bool.false_eq_true, if_false, List.length_take, hzl]; omega
    have hft : fedL q zs = zs.take N := by
      rw [hN]
      simp only [fedL, he', Bool.false_eq_true, if_false, List.length_take]
      rw [List.take_eq_take_min]
    rw [← hF] at HF
    rw [← hN, e2]
    have hFm : F ≤ 1048576 := by omega
    have k1 : (if F < len then (F : Int) else (len : Int)) = (N : Int) := by split <;> omega
    have k2 : (if len < F then (len : Int) else (F : Int)) = (N : Int) := by split <;> omega
    have k3 : (N : Int) ≤ (cap : Int) := by omega
    have k4 : N ≤ len := by omega
    have HFT := Lib.hid hft
    have HNN := Lib.hid hN
    obtain ⟨av, cv, rfl⟩ := row_form hr
    clear hb hr ho he he' hR hF hN hfl hft e2
    go_enter Try.func27, Try.ntmps27
    go_wp2_with fail
    refine HF.out.mono ?_
    rintro e w1 ⟨rfl, b1⟩
    have h1 := H.out.later b1
    obtain ⟨d0, d1, d2, d3⟩ := w_cells h1.2.2.1
    have hs1 := b1.size
    have HR1 := Lib.hid h1.2.2.2
    have HSrc := Lib.hid ((HR.out.later (b1.mono hsz)).src k4)
    have HNc := Lib.hid HR.out.nocap
    clear h1
    have hn1 : n₀ ≤ w1.drew.heap.size := by
      show n₀ ≤ w1.heap.size
      omega
    have HB1 := Lib.hid b1
    clear c0 c1 c2 c3 d0 d2 d3 b1
    go_wp2_with fail
    go_region_law (refine step_append_src rfl (.tmp 20) (.tmp 23) rfl n₀ (.slice av q.all.length cv) q.all.length (u8s q.all) rfl HR1.out.drew a N cap (u8s (zs.take N)) rfl HSrc.out.drew HNc.out u8s_one (by omega) hn1 ?_; intro v' w2 hap; obtain ⟨⟨d1', f1'⟩, hd⟩ := w_append H.out HB1.out hap.undrew (by simp; omega) (by unfold feedQ; rw [HFT.out]) HO.out; obtain ⟨av', cv', rfl⟩ := row_form hap.1; have HD := Lib.hid hd; clear hap hd d1)
    all_goals
      go_wp2
      go_ret2
      exact ⟨rfl, HD.out⟩

theorem bar_alloc_row {w w2 : World} {o : Obj} {n : Nat} {v' : Value} {xs : List Value} (h : Appended ((w.drew).alloc o) w2 w.heap.size (.slice (some ⟨w.heap.size, 0, none⟩) 0 0) v' n xs) : Below w.heap.size w w2 := by
  obtain ⟨h1, h2, h3⟩ := h
  have hs : w.heap.size ≤ (w.drew.alloc o).heap.size := by simp
  have := ((Below.refl w.heap.size w.drew).alloc (Nat.le_refl _) o).grown h2 hs (fun k e => by simp [Value.ownBlock] at e; omega)
  exact below_undrew this
theorem own_empty (w : World) (t : TypeId) : (w.alloc (.cells #[] t (0, 0))).ownsRow w.heap.size t 1 (.slice (some ⟨w.heap.size, 0, none⟩) 0 0) 0 [] :=
  World.ownsRow_made w #[] 0 (Nat.le_refl _) (by unfold maxLen; omega) rfl

set_option maxRecDepth 100000 in
set_option maxHeartbeats 2000000 in
theorem wbits_some {n₀ : Nat} {w : World} {b gk cv : Nat} {q : Qs} (h : IsW n₀ w b (.slice (some ⟨gk, 0, none⟩) q.all.length cv) q) (hlo : q.gone / 8 < cv) (hcv : q.all.length ≤ cv) (hcv2 : cv ≤ 9223372036854775807) :
    Calls Try.prog 60 #[.pointer (some ⟨b, 0, none⟩)] w fun e w' => Told w w' e (q.all.drop (q.gone / 8)) (q.gone % 8) := by
  have hlt := h.lt
  obtain ⟨ho, hn, hb, hr⟩ := h
  obtain ⟨c0, c1, c2, c3⟩ := w_cells hb
  have h1 := ho.len
  have h2 := ho.gone
  obtain ⟨lo, hlo'⟩ : ∃ lo, lo = q.gone / 8 := ⟨_, rfl⟩
  have HSrc : Hid (Src w (some ⟨gk, lo, none⟩) (q.all.length - lo) (u8s (q.all.drop lo))) := by
    refine ⟨by simp, .inr ⟨_, rfl, fun j u hu => ?_⟩⟩
    have hadd : (⟨gk, lo, none⟩ : Addr).add j = ⟨gk, lo + j, none⟩ := by unfold Addr.add; split <;> simp_all
    rw [hadd]
    have hj : lo + j < q.all.length := by
      false_or_by_contra
      rw [List.getElem?_eq_none (by simp; omega)] at hu
      cases hu
    rw [hr.cellAt (lo + j) (by omega)]
    simpa [u8s, List.getElem?_drop] using hu
  have e1 : (q.gone : Int) / 8 = (lo : Int) := by omega
  have k1 : (lo : Int) ≤ (q.all.length : Int) := by omega
  have k2 : (q.all.length : Int) ≤ (cv : Int) := by omega
  have k3 : ¬ (cv = lo) := by omega
  have k4 : (q.gone : Int) % 8 = ((q.gone % 8 : Nat) : Int) := by omega
  obtain ⟨md, hmd⟩ : ∃ md, md = q.gone % 8 := ⟨_, rfl⟩
  rw [← hlo', ← hmd]
  rw [← hmd] at k4
  have e2 : (q.gone : Int).tdiv 8 = (lo : Int) := by rw [Int.tdiv_eq_ediv_of_nonneg (by omega)]; omega
  have e3 : (q.gone : Int).tmod 8 = (md : Int) := by rw [Int.tmod_eq_emod_of_nonneg (by omega)]; omega
  have e4 : IntKind.i64.wrap (lo : Int) = lo := IntWalk.i64_in _ (by omega)
  have e5 : IntKind.i64.wrap (md : Int) = md := IntWalk.i64_in _ (by omega)
  have k0 : (0 : Int) ≤ (lo : Int) := by omega
  have HLo := Lib.hid hlo'
  have HMd := Lib.hid hmd
  have hfit : 0 + (q.all.length - lo) ≤ 140737488355328 := by omega
  clear hb hr ho hlo' hmd
  go_enter Try.func60, Try.ntmps60
  go_wp2_with fail
  go_region_held3 (fun w' => w'.cell? ⟨b, 1, none⟩ = some (.slice (some ⟨gk, 0, none⟩) q.all.length cv) ∧ w'.cell? ⟨b, 2, none⟩ = some (.int .i64 q.gone))
    (first | go_keep | exact ⟨((bar_alloc_row hap).cell (p := ⟨b, 1, none⟩) hlt).trans c1, ((bar_alloc_row hap).cell (p := ⟨b, 2, none⟩) hlt).trans c2⟩)
    (first | (refine step_append_src rfl (.tmp 4) (.tmp 14) rfl w.heap.size (.slice (some ⟨w.heap.size, 0, none⟩) 0 0) 0 [] rfl (own_empty _ _) (some ⟨gk, lo, none⟩) (q.all.length - lo) (cv - lo) (u8s (q.all.drop lo)) rfl (HSrc.out.drew.alloc _) (fun e => nomatch e) u8s_one hfit (by simp) ?_; intro v' w2 hap))
  have hrow := hap.1
  have hbel := bar_alloc_row hap
  rw [show 0 + (q.all.length - lo) = (q.all.drop lo).length by simp, List.nil_append] at hrow
  have HRow := Lib.hid hrow
  clear hap hrow
  go_wp2
  go_ret2
  exact ⟨v', rfl, HRow.out, hbel⟩

set_option maxRecDepth 100000 in
set_option maxHeartbeats 2000000 in
theorem wbits_nil {n₀ : Nat} {w : World} {b : Nat} {q : Qs} (h : IsW n₀ w b (.slice none 0 0) q) (hl : q.all.length = 0) :
    Calls Try.prog 60 #[.pointer (some ⟨b, 0, none⟩)] w fun e w' => Told w w' e (q.all.drop (q.gone / 8)) (q.gone % 8) := by
  have hlt := h.lt
  obtain ⟨ho, hn, hb, hr⟩ := h
  obtain ⟨c0, c1, c2, c3⟩ := w_cells hb
  have h2 := ho.gone
  have hg : q.gone = 0 := by omega
  have ha : q.all = [] := List.eq_nil_of_length_eq_zero hl
  rw [hg] at c2
  replace c2 : w.cell? ⟨b, 2, none⟩ = some (.int .i64 0) := c2
  rw [hg, ha]
  have hw0 : IntKind.i64.wrap 0 = 0 := rfl
  have HSrc : Hid (∀ A, Src w A 0 []) := fun A => ⟨rfl, .inl rfl⟩
  clear hb hr ho hg ha h2 hl
  go_enter Try.func60, Try.ntmps60
  go_wp2_with fail
  go_region_held3 (fun w' => w'.cell? ⟨b, 1, none⟩ = some (.slice none 0 0) ∧ w'.cell? ⟨b, 2, none⟩ = some (.int .i64 0))
    (first | go_keep | exact ⟨((bar_alloc_row hap).cell (p := ⟨b, 1, none⟩) hlt).trans c1, ((bar_alloc_row hap).cell (p := ⟨b, 2, none⟩) hlt).trans c2⟩)
    (first | (refine step_append_src rfl (.tmp 4) (.tmp 14) rfl w.heap.size (.slice (some ⟨w.heap.size, 0, none⟩) 0 0) 0 [] rfl (own_empty _ _) none 0 0 [] rfl ((HSrc.out _).drew.alloc _) (fun _ => rfl) (fun _ h => nomatch h) (by omega) (by simp) ?_; intro v' w2 hap))
  all_goals
    have hrow := hap.1
    have hbel := bar_alloc_row hap
    have HRow := Lib.hid hrow
    clear hap hrow
    go_wp2
    go_ret2
    exact ⟨v', rfl, HRow.out, hbel⟩

set_option maxRecDepth 100000 in
set_option maxHeartbeats 2000000 in
theorem wbits_edge {n₀ : Nat} {w : World} {b lo : Nat} {ad : Addr} {q : Qs} (h : IsW n₀ w b (.slice (some ad) lo lo) q) (hlo : q.gone / 8 = lo) (hl : q.all.length = lo) :
    Calls Try.prog 60 #[.pointer (some ⟨b, 0, none⟩)] w fun e w' => Told w w' e (q.all.drop (q.gone / 8)) (q.gone % 8) := by
  have hlt := h.lt
  obtain ⟨ho, hn, hb, hr⟩ := h
  obtain ⟨c0, c1, c2, c3⟩ := w_cells hb
  have h1 := ho.len
  have h2 := ho.gone
  obtain ⟨md, hmd⟩ : ∃ md, md = q.gone % 8 := ⟨_, rfl⟩
  have e1 : (q.gone : Int) / 8 = (lo : Int) := by omega
  have e2 : (q.gone : Int).tdiv 8 = (lo : Int) := by rw [Int.tdiv_eq_ediv_of_nonneg (by omega)]; omega
  have e3 : (q.gone : Int).tmod 8 = (md : Int) := by rw [Int.tmod_eq_emod_of_nonneg (by omega)]; omega
  have e4 : IntKind.i64.wrap (lo : Int) = lo := IntWalk.i64_in _ (by omega)
  have e5 : IntKind.i64.wrap (md : Int) = md := IntWalk.i64_in _ (by omega)
  have k0 : (0 : Int) ≤ (lo : Int) := by omega
  have hd : q.all.drop lo = [] := List.drop_of_length_le (by omega)
  rw [hlo, hd, ← hmd]
  have HSrc : Hid (∀ A, Src w A 0 []) := fun A => ⟨rfl, .inl rfl⟩
  clear hb hr ho hmd hlo hl hd
  go_enter Try.func60, Try.ntmps60
  go_wp2_with fail
  go_region_held3 (fun w' => w'.cell? ⟨b, 1, none⟩ = some (.slice (some ad) lo lo) ∧ w'.cell? ⟨b, 2, none⟩ = some (.int .i64 q.gone))
    (first | go_keep | exact ⟨((bar_alloc_row hap).cell (p := ⟨b, 1, none⟩) hlt).trans c1, ((bar_alloc_row hap).cell (p := ⟨b, 2, none⟩) hlt).trans c2⟩)
    (first | (refine step_append_src rfl (.tmp 4) (.tmp 14) rfl w.heap.size (.slice (some ⟨w.heap.size, 0, none⟩) 0 0) 0 [] rfl (own_empty _ _) (some ad) 0 0 [] rfl ((HSrc.out _).drew.alloc _) (fun _ => rfl) (fun _ h => nomatch h) (by omega) (by simp) ?_; intro v' w2 hap))
  have hrow := hap.1
  have hbel := bar_alloc_row hap
  have HRow := Lib.hid hrow
  clear hap hrow
  go_wp2
  go_ret2
  exact ⟨v', rfl, HRow.out, hbel⟩

theorem wbits_any {n₀ : Nat} {w : World} {b : Nat} {v : Value} {q : Qs} (h : IsW n₀ w b v q) :
    Calls Try.prog 60 #[.pointer (some ⟨b, 0, none⟩)] w fun e w' => Told w w' e (q.all.drop (q.gone / 8)) (q.gone % 8) := by
  have hg := h.1.gone
  rcases id h.2.2.2.2 with ⟨rfl, hn⟩ | ⟨gk, cap, cur, rfl, _, _, hcap, hmx, hsz, _⟩
  · exact wbits_nil h hn
  · by_cases hlo : q.gone / 8 < cap
    · exact wbits_some h hlo (by omega) (by unfold maxLen at *; omega)
    · have e1 : q.all.length = cap := by omega
      rw [e1] at h
      exact wbits_edge (lo := cap) h (by omega) e1

end Go.Proofs.Ytglnmaekhpaffaa
