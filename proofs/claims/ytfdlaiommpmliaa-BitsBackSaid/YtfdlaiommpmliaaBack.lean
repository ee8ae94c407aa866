/- The contract of the law BitsBack: it returns true, and nothing that lay is changed. -/
import Derived.Test.YtfdlaiommpmliaaBackPlain
import Derived.Deep.RegionWith
namespace Go.Proofs.Ytfdlaiommpmliaa
open Go.RowKit Go.Shelf
set_option linter.unusedVariables false

theorem Try.info33 : (Try.prog.info? 33).map (fun i => (i.zero, i.size, i.bytes)) = some (some (.agg #[.bool false, .int .i64 0, .int .i64 0, .string ByteArray.empty]), 4, 40) := by kernel_rfl

theorem own_bar {S : Nat → Prop} {w w' : World} {base : Nat} {e : TypeId} {size : Nat} {v : Value} {n : Nat} {xs : List Value} (h : w.ownsRow base e size v n xs) (hb : Bar S w w') (hs : ∀ k, v.ownBlock = some k → ¬ S k) : w'.ownsRow base e size v n xs := by
  refine ⟨h.1, ?_⟩
  rcases h.2 with hn | ⟨g, cap, cur, rfl, hbb, hg, rest⟩
  · exact .inl hn
  · exact .inr ⟨g, cap, cur, rfl, hbb, (hb.block g (Array.getElem?_eq_some_iff.1 hg).1 (hs g rfl)).trans hg, rest⟩
/-- a pen's blocks are none of the acts' -/
theorem IsPen.noActs {w : World} {b : Nat} {g : Option Nat} {L : List Bool} {base n : Nat} {v : Value} {xs : List Value} (h : IsPen w b g L) (hr : w.ownsRow base 33 4 v n xs) : ∀ k, v.ownBlock = some k → ¬ (k = b ∨ g = some k) := by
  intro k hk
  rcases hr.2 with ⟨rfl, _⟩ | ⟨g', cap, cur, rfl, _, hg, _⟩
  · simp [Value.ownBlock] at hk
  · simp [Value.ownBlock] at hk
    subst hk
    obtain ⟨u, zs, rfl, hb, hrow, _⟩ := h
    intro e
    rcases e with rfl | e
    · rw [hb] at hg; simp [penCells] at hg
    · rcases hrow.2 with ⟨rfl, _⟩ | ⟨g2, cap2, cur2, rfl, _, hg2, _⟩
      · simp [Value.ownBlock] at e
      · simp [Value.ownBlock] at e
        subst e
        rw [hg2] at hg; simp at hg

/-- what stands after some acts were handed to the pen -/
structure Kept (B b : Nat) (w wr : World) (v : Value) (K : List Act4) (m : Nat) : Prop where
  pen : ∃ g, IsPen wr b g (allBits K) ∧ ∀ k, g = some k → B ≤ k
  row : wr.ownsRow B 33 4 v K.length (actCells K)
  low : Below B w wr
  all : ∀ x ∈ K, good x
  few : K.length ≤ m

theorem kept_wrote {B b m : Nat} {w wr w' : World} {v : Value} {K : List Act4} {x : Act4} {g : Option Nat} (h : Kept B b w wr v K m) (hB : B ≤ w.heap.size) (hb : B ≤ b) (hp : IsPen wr b g (allBits K)) (hg : ∀ k, g = some k → B ≤ k) (L : List Bool) (hw : Wrote wr w' b g L) :
    (∃ g', IsPen w' b g' L ∧ ∀ k, g' = some k → B ≤ k) ∧ w'.ownsRow B 33 4 v K.length (actCells K) ∧ Below B w w' := by
  have hbe := h.low.trans (hw.below (Nat.le_trans hB h.low.size) hb hg)
  obtain ⟨g', hp', hbar, hg'⟩ := hw
  exact ⟨⟨g', hp', fun k e => (hg' k e).elim (hg k) (fun hk => Nat.le_trans (Nat.le_trans hB h.low.size) hk)⟩, own_bar h.row hbar (hp.noActs h.row), hbe⟩

theorem Wrote.undrew {w w' : World} {b : Nat} {g : Option Nat} {L : List Bool} (h : Wrote w.drew w' b g L) : Wrote w w' b g L := by
  obtain ⟨g', hp, hb, hg⟩ := h
  exact ⟨g', hp, ⟨hb.os, hb.tape, hb.output, hb.size, hb.block⟩, hg⟩
theorem IsPen.drew {w : World} {b : Nat} {g : Option Nat} {L : List Bool} (h : IsPen w b g L) : IsPen w.drew b g L := h
theorem cell_new_list (w : World) (cs : List Value) (t : TypeId) : ∀ (j : Nat) (u : Value), cs[j]? = some u → (w.alloc (.cells cs.toArray t)).cell? ((⟨w.heap.size, 0, none⟩ : Addr).add j) = some u := by
  intro j u h
  have hadd : (⟨w.heap.size, 0, none⟩ : Addr).add j = ⟨w.heap.size, j, none⟩ := by unfold Addr.add; split <;> simp_all
  rw [hadd, cell_of_row _ _ j cs.toArray t (0, 0) (World.alloc_heap_new w _)]
  simpa using h

/-- what a pen did with an act -/
structure Took (B b : Nat) (w w' : World) (v : Value) (K : List Act4) (L : List Bool) (m : Nat) : Prop where
  pen : ∃ g, IsPen w' b g L ∧ ∀ k, g = some k → B ≤ k
  row : w'.ownsRow B 33 4 v K.length (actCells K)
  low : Below B w w'
  all : ∀ x ∈ K, good x
  few : K.length ≤ m
theorem Kept.took {B b m : Nat} {w wr w' : World} {v : Value} {K : List Act4} {g : Option Nat} {L : List Bool} (h : Kept B b w wr v K m) (hB : B ≤ w.heap.size) (hb : B ≤ b) (hp : IsPen wr b g (allBits K)) (hg : ∀ k, g = some k → B ≤ k) (hw : Wrote wr w' b g L) : Took B b w w' v K L m := by
  obtain ⟨h1, h2, h3⟩ := kept_wrote (x := default) h hB hb hp hg L hw
  exact ⟨h1, h2, h3, h.all, h.few⟩
theorem Took.kept {B b m : Nat} {w w' : World} {v : Value} {K : List Act4} (h : Took B b w w' v K (allBits K) m) : Kept B b w w' v K (m + 1) := ⟨h.pen, h.row, h.low, h.all, Nat.le_succ_of_le h.few⟩
theorem Took.append {B b m : Nat} {w w' w2 : World} {v v' : Value} {K : List Act4} {x : Act4} {o : Obj} (h : Took B b w w' v K (allBits K ++ actBits x) m) (hB : B ≤ w.heap.size) (hx : good x)
    (hown : w2.ownsRow B 33 4 v' (K.length + 1) (actCells K ++ [.bool x.c, .int .i64 x.n, .int .i64 x.k, .string x.s])) (hgrow : (w'.alloc o).grownBy w2 v.ownBlock) : Kept B b w w2 v' (K ++ [x]) (m + 1) := by
  obtain ⟨g, hp, hg⟩ := h.pen
  have hno := hp.noActs h.row
  have hsz := Nat.le_trans hB h.low.size
  refine ⟨⟨g, ?_, hg⟩, by rw [actCells_snoc]; simpa using hown, ?_, fun y hy => ?_, by have := h.few; simp; omega⟩
  · rw [allBits_snoc]
    have hp1 := hp.later ((Below.refl _ w').alloc (Nat.le_refl _) o)
    exact hp1.bar (bar_of_grown (S := fun k => v.ownBlock = some k) hgrow (fun k e => e)) (fun e => hno b e (.inl rfl)) (fun k e e2 => hno k e2 (.inr e))
  · exact (h.low.alloc hsz o).grown hgrow (by simp; omega) (fun k e => (h.row.lt k e).1)
  · rcases List.mem_append.1 hy with h1 | h1
    · exact h.all y h1
    · simp at h1; subst h1; exact hx

set_option maxRecDepth 100000 in
set_option maxHeartbeats 4000000 in
theorem back_law (sv : Value) (xs : List Act4) (w : World) (hB : IsActs w.heap.size w sv xs) (hlong : longB xs = false) :
    Calls Try.prog 6 #[sv] w fun e w' => e = .returned (.bool true) ∧ Below w.heap.size w w' := by
  have hx60 : xs.length ≤ 60 := by unfold longB at hlong; simp at hlong; omega
  have hs100 : ∀ i, i < xs.length → (xs[i]?.getD default).s.size ≤ 100 := by
    intro i hi
    unfold longB at hlong
    simp only [Bool.or_eq_false_iff, List.any_eq_false] at hlong
    have := hlong.1 (xs[i]?.getD default) (by rw [List.getElem?_eq_getElem hi, List.take_of_length_le (by omega)]; exact List.getElem_mem _)
    simpa using this
  have HLo := Lib.hid (fun W (hb : Below w.heap.size w W) => long_any (hB.later hb))
  rw [hlong] at HLo
  obtain ⟨i0, hi, hz0, hz1, hz2⟩ := info_parts Try.info33
  obtain ⟨a, cap, rfl, _, hok, hz⟩ := hB
  have HZ := Lib.hid hz
  have HOK := Lib.hid hok
  have HS := Lib.hid hs100
  clear hz hok hs100 hlong
  go_enter Try.func6, Try.ntmps6
  go_wp2_with fail
  refine (known_any w).mono ?_
  rintro e w1 ⟨rfl, hb1⟩
  go_wp2_with fail
  refine (newPen_any w1).mono ?_
  rintro e w2 ⟨rfl, hp, hb2⟩
  have hs := hb1.size
  generalize w1.heap.size = b at *
  replace hb2 : Below w.heap.size w w2 := hb1.trans (hb2.mono hs)
  have hk0 : Kept w.heap.size b w w2 (.slice none 0 0) [] 0 := ⟨⟨none, hp, fun k e => by cases e⟩, World.ownsRow_nil _ _ _ _, hb2, by simp, by simp⟩
  have HK0 := Lib.hid hk0
  clear hp hb1 hk0
  go_wp2_with fail
  refine (HLo.out _ hb2).mono ?_
  rintro e w3 ⟨rfl, rfl⟩
  clear hb2 HLo
  go_wp2_with fail
  go_loopw [5, 6] (fun v i wr => ∃ (j : Nat) (K : List Act4), j ≤ xs.length ∧ i = .int .i64 j ∧ Kept w.heap.size b w wr v K j) (fun _ i _ => xs.length - (intOf i).toNat)
  case atStart => exact ⟨0, [], by omega, rfl, HK0.out⟩
  case round =>
    clear HK0
    obtain ⟨j, K, hj, rfl, hk⟩ := hrel
    by_cases hlt : j < xs.length
    · rcases HZ.out with e | ⟨bx, off, rfl, hbx, hc⟩
      · rw [e] at hlt; simp at hlt
      · have x0 := (hk.low.cell (p := ⟨bx, off + j * 4 + 0, none⟩) hbx).trans (hc j hlt 0 (by omega))
        have x1 := (hk.low.cell (p := ⟨bx, off + j * 4 + 1, none⟩) hbx).trans (hc j hlt 1 (by omega))
        have x2 := (hk.low.cell (p := ⟨bx, off + j * 4 + 2, none⟩) hbx).trans (hc j hlt 2 (by omega))
        have x3 := (hk.low.cell (p := ⟨bx, off + j * 4 + 3, none⟩) hbx).trans (hc j hlt 3 (by omega))
        simp only [Act4.cell, Nat.add_zero] at x0 x1 x2 x3
        have hx100 := HS.out j hlt
        have hxo := HOK.out (xs[j]?.getD default) (by rw [List.getElem?_eq_getElem hlt]; exact List.getElem_mem _)
        have X0 := Lib.hid ((hc j hlt 0 (by omega)))
        have X1 := Lib.hid ((hc j hlt 1 (by omega)))
        have X2 := Lib.hid ((hc j hlt 2 (by omega)))
        have X3 := Lib.hid ((hc j hlt 3 (by omega)))
        simp only [Act4.cell, Nat.add_zero] at X0 X1 X2 X3
        generalize xs[j]?.getD default = x at *
        have HKj := Lib.hid hk
        clear hk hc
        obtain ⟨g, hpen, hg⟩ := HKj.out.pen
        have hlen := allBits_len HKj.out.all
        have hfew := HKj.out.few
        cases hcx : x.c with
        | true =>
          rw [hcx] at x0
          by_cases hab : AllBits x.s
          · have hgood : good x := .inl ⟨hcx, hab, hx100⟩
            have hact : actBits x = textBits x.s := by simp [actBits, hcx]
            have HCo := Lib.hid (code_ok hpen x.s hab (by omega))
            rw [← hact] at HCo
            have HT := Lib.hid (fun w' (hw : Wrote wr w' b g (allBits K ++ actBits x)) => HKj.out.took (Nat.le_refl _) hs hpen hg hw)
            have HGd := Lib.hid hgood
            have HKl : Hid (K.length ≤ 60) := by show K.length ≤ 60; omega
            have HCX := Lib.hid hcx
            clear hpen hg hlen hgood hact HKj hab hcx
            go_wp2_with fail
            refine HCo.out.mono ?_
            rintro e w4 ⟨rfl, hw⟩
            have ht := HT.out _ hw
            have y0 := (ht.low.cell (p := ⟨bx, off + j * 4, none⟩) hbx).trans (X0.out)
            have y1 := (ht.low.cell (p := ⟨bx, off + j * 4 + 1, none⟩) hbx).trans (X1.out)
            have y2 := (ht.low.cell (p := ⟨bx, off + j * 4 + 2, none⟩) hbx).trans (X2.out)
            have y3 := (ht.low.cell (p := ⟨bx, off + j * 4 + 3, none⟩) hbx).trans (X3.out)
            rw [HCX.out] at y0
            have HTk := Lib.hid ht
            have hw4 : w.heap.size ≤ w4.heap.size := ht.low.size
            clear hw ht HT x0 x1 x2 x3
            go_wp2_with (at_builtin; refine wpList_append_where _ rfl _ _ 22 rfl w.heap.size 33 i0 (.agg #[.bool false, .int .i64 0, .int .i64 0, .string ByteArray.empty]) 4 40 Try.underlying22 hi hz0 hz1 hz2 rfl (by decide) u5 K.length (actCells K) rfl (HTk.out.row.alloc _) ⟨w4.heap.size, 0, none⟩ 1 1 [.bool true, .int .i64 x.n, .int .i64 x.k, .string x.s] rfl rfl ?c1 ?c2 ?c3 ?c4 ?c5 ?_)
            case c1 => exact cell_new_list w4 _ _
            case c2 => intro u hu; simp at hu; rcases hu with rfl | rfl | rfl | rfl <;> rfl
            case c3 => have := HKl.out; unfold maxLen; omega
            case c4 => have := HKl.out; omega
            case c5 => simp; omega
            intro v' w5 hown' hgrow hwh
            have HKn := Lib.hid (HTk.out.append (Nat.le_refl _) HGd.out (by rw [HCX.out]; exact hown') hgrow)
            clear hown' hgrow hwh HTk y0 y1 y2 y3
            go_wp2
            go_roundw
            case rel => exact ⟨j + 1, K ++ [x], by omega, by go_num, HKn.out⟩
            case measure => simp [intOf]; omega
          · have HCo := Lib.hid (code_form hpen x.s hab)
            have HT := Lib.hid (fun w' (hw : Wrote wr w' b g (allBits K)) => (HKj.out.took (Nat.le_refl _) hs hpen hg hw).kept)
            have HPn := Lib.hid hpen
            clear hpen hg hlen HKj hab hcx
            go_wp2_with fail
            refine HCo.out.mono ?_
            rintro e w4 ⟨rfl, hw⟩
            have HKn := Lib.hid (HT.out _ (wrote_below HPn.out hw))
            clear hw HT HPn x0 x1 x2 x3
            go_wp2
            go_roundw
            case rel => exact ⟨j + 1, K, by omega, by go_num, HKn.out⟩
            case measure => simp [intOf]; omega
        | false =>
          rw [hcx] at x0
          by_cases hab : 0 ≤ x.k ∧ x.k ≤ 32 ∧ 0 ≤ x.n ∧ x.n / 2 ^ x.k.toNat = 0
          · have hgood : good x := .inr ⟨hcx, hab⟩
            have hact : actBits x = numBits x.n.toNat x.k.toNat := by simp [actBits, hcx]
            have hpe : putE (allBits K) x.n x.k = 0 := by unfold putE; rw [if_neg (by omega), if_neg (by omega)]
            have hpl : putL (allBits K) x.n x.k = allBits K ++ actBits x := by unfold putL; rw [if_pos hpe, hact]
            have HCo := Lib.hid (put_any hpen.drew x.n x.k hxo.1)
            rw [hpe, hpl] at HCo
            have HT := Lib.hid (fun w' (hw : Wrote wr w' b g (allBits K ++ actBits x)) => HKj.out.took (Nat.le_refl _) hs hpen hg hw)
            have HGd := Lib.hid hgood
            have HKl : Hid (K.length ≤ 60) := by show K.length ≤ 60; omega
            have HCX := Lib.hid hcx
            clear hpen hg hlen hgood hact hpe hpl HKj hab hcx
            go_wp2_with fail
            go_region_with (go_at_call 15; refine HCo.out.mono ?_; rintro e w4 ⟨rfl, hw⟩)
            all_goals
              have ht := HT.out _ hw.undrew
              have y0 := (ht.low.cell (p := ⟨bx, off + j * 4, none⟩) hbx).trans (X0.out)
              have y1 := (ht.low.cell (p := ⟨bx, off + j * 4 + 1, none⟩) hbx).trans (X1.out)
              have y2 := (ht.low.cell (p := ⟨bx, off + j * 4 + 2, none⟩) hbx).trans (X2.out)
              have y3 := (ht.low.cell (p := ⟨bx, off + j * 4 + 3, none⟩) hbx).trans (X3.out)
              rw [HCX.out] at y0
              have HTk := Lib.hid ht
              have hw4 : w.heap.size ≤ w4.heap.size := ht.low.size
              clear hw ht HT x0 x1 x2 x3
              go_wp2_with (at_builtin; refine wpList_append_where _ rfl _ _ 22 rfl w.heap.size 33 i0 (.agg #[.bool false, .int .i64 0, .int .i64 0, .string ByteArray.empty]) 4 40 Try.underlying22 hi hz0 hz1 hz2 rfl (by decide) u5 K.length (actCells K) rfl (HTk.out.row.alloc _) ⟨w4.heap.size, 0, none⟩ 1 1 [.bool false, .int .i64 x.n, .int .i64 x.k, .string x.s] rfl rfl ?c1 ?c2 ?c3 ?c4 ?c5 ?_)
              case c1 => exact cell_new_list w4 _ _
              case c2 => intro u hu; simp at hu; rcases hu with rfl | rfl | rfl | rfl <;> rfl
              case c3 => have := HKl.out; unfold maxLen; omega
              case c4 => have := HKl.out; omega
              case c5 => simp; omega
              intro v' w5 hown' hgrow hwh
              have HKn := Lib.hid (HTk.out.append (Nat.le_refl _) HGd.out (by rw [HCX.out]; exact hown') hgrow)
              clear hown' hgrow hwh HTk y0 y1 y2 y3
              go_wp2
              go_roundw
              case rel => exact ⟨j + 1, K ++ [x], by omega, by go_num, HKn.out⟩
              case measure => simp [intOf]; omega
          · have hpe : putE (allBits K) x.n x.k = 3 := by unfold putE; rw [if_pos (by omega)]
            have hpl : putL (allBits K) x.n x.k = allBits K := by unfold putL; rw [hpe, if_neg (by omega)]
            have HCo := Lib.hid (put_any hpen.drew x.n x.k hxo.1)
            rw [hpe, hpl] at HCo
            have HT := Lib.hid (fun w' (hw : Wrote wr w' b g (allBits K)) => (HKj.out.took (Nat.le_refl _) hs hpen hg hw).kept)
            clear hpen hg hlen hpe hpl HKj hab hcx
            go_wp2_with fail
            go_region_with (go_at_call 15; refine HCo.out.mono ?_; rintro e w4 ⟨rfl, hw⟩)
            all_goals
              have HKn := Lib.hid (HT.out _ hw.undrew)
              clear hw HT x0 x1 x2 x3
              go_wp2
              go_roundw
              case rel => exact ⟨j + 1, K, by omega, by go_num, HKn.out⟩
              case measure => simp [intOf]; omega
    · clear HZ HS HOK
      obtain ⟨g, hpen, hg⟩ := hk.pen
      have hlen := allBits_len hk.all
      have hfew := hk.few
      have hK60 : K.length ≤ 60 := by omega
      have hL6 : (allBits K).length ≤ 6000 := by omega
      obtain ⟨av, capv, rfl, hcells⟩ : ∃ av capv, u5 = .slice av K.length capv ∧ (K = [] ∨ ∃ gk, av = some ⟨gk, 0, none⟩ ∧ ∀ i, i < K.length → ∀ t, t < 4 → wr.cell? ⟨gk, i * 4 + t, none⟩ = some ((K[i]?.getD default).cell t) ∧ gk < wr.heap.size) := by
        rcases id hk.row.2 with ⟨rfl, hn⟩ | ⟨gk, capv, cur, rfl, _, hgk, _⟩
        · have : K = [] := List.eq_nil_of_length_eq_zero hn
          subst this
          exact ⟨none, 0, rfl, .inl rfl⟩
        · refine ⟨some ⟨gk, 0, none⟩, capv, rfl, .inr ⟨gk, rfl, fun i hi t ht => ⟨?_, (Array.getElem?_eq_some_iff.1 hgk).1⟩⟩⟩
          rw [hk.row.cellAt (i * 4 + t) (by omega), actCells_at hi ht]
      have HPen := Lib.hid hpen
      have HAll := Lib.hid hk.all
      have HCel := Lib.hid hcells
      have hlow := hk.low
      clear hpen hg hlen hfew hk hcells
      go_wp2_with fail
      refine (bytes_any HPen.out).mono ?_
      rintro e w4 ⟨zs, hpk, u, rfl, hu, hb4⟩
      have hby := byt_own hu (by have := hpk.1; omega) (n₀ := w4.heap.size) (Nat.le_refl _)
      have HBy := Lib.hid (fun W (hb : Below w4.heap.size w4 W) => hby.later hb)
      have HPen4 := Lib.hid (fun W (hb : Below w4.heap.size w4 W) => (HPen.out.later hb4).later hb)
      have HCel4 : Hid (K = [] ∨ ∃ gk, av = some ⟨gk, 0, none⟩ ∧ ∀ i, i < K.length → ∀ t, t < 4 → ∀ W, Below w4.heap.size w4 W → W.cell? ⟨gk, i * 4 + t, none⟩ = some ((K[i]?.getD default).cell t)) := by
        rcases HCel.out with e | ⟨gk, e, h⟩
        · exact .inl e
        · refine .inr ⟨gk, e, fun i hi t ht W hb => ?_⟩
          obtain ⟨h1, h2⟩ := h i hi t ht
          have := hb4.size
          rw [hb.cell (p := ⟨gk, i * 4 + t, none⟩) (by show gk < _; omega), hb4.cell (p := ⟨gk, i * 4 + t, none⟩) h2]
          exact h1
      have HPk := Lib.hid hpk
      have hlow4 := below_chain hlow (Nat.le_refl _) hb4
      obtain ⟨au, capu, rfl, hzl, hzz⟩ := hby
      clear hzz hu hb4 hpk hlow HPen HCel
      go_wp2_with fail
      go_loopw [9, 10] (fun p i wq => ∃ q : Nat, q ≤ K.length ∧ i = .int .i64 q ∧ p = .int .i64 ((allBits (K.take q)).length : Nat) ∧ Below w4.heap.size w4 wq) (fun _ i _ => K.length - (intOf i).toNat)
      case atStart => exact ⟨0, by omega, rfl, by simp [allBits], Below.refl _ _⟩
      case round =>
        obtain ⟨q, hq, rfl, rfl, hbq⟩ := hrel
        by_cases hqk : q < K.length
        · rcases HCel4.out with e | ⟨gk, rfl, hcell⟩
          · rw [e] at hqk; simp at hqk
          · have c0 := hcell q hqk 0 (by omega) wr hbq
            have c1 := hcell q hqk 1 (by omega) wr hbq
            have c2 := hcell q hqk 2 (by omega) wr hbq
            have c3 := hcell q hqk 3 (by omega) wr hbq
            simp only [Act4.cell, Nat.add_zero] at c0 c1 c2 c3
            have hgx := HAll.out (K[q]?.getD default) (by rw [List.getElem?_eq_getElem hqk]; exact List.getElem_mem _)
            have hfit := allBits_fit hqk
            have hstep := allBits_step hqk
            have hrp := fun hc => read_put HPk.out hqk rfl hgx hc
            have hrt := fun hc t ht => read_text HPk.out (t := t) hqk rfl hgx hc ht
            generalize hx : K[q]?.getD default = x at *
            have hstl : (allBits (K.take (q + 1))).length = (allBits (K.take q)).length + (actBits x).length := by rw [hstep]; simp
            have HSt := Lib.hid hstl
            generalize (allBits (K.take q)).length = A at *
            have hA : A ≤ 6000 := by omega
            clear hcell hx hstep hstl
            rcases hgx with ⟨hc, hab, hs1⟩ | ⟨hc, hk0, hk32, hn0, hnk⟩
            · -- a text
              have hal : (actBits x).length = x.s.size := by simp [actBits, hc, textBits_len]
              rw [hal] at hfit HSt
              rw [hc] at c0
              have HRt := Lib.hid (fun t (ht : t < x.s.size) W (hb : Below w4.heap.size w4 W) => reads_any (HBy.out W hb) ((A : Int) + t) 1 ((x.s[t].toNat : Int) - 48) 0 (by omega))
              have HRt2 := Lib.hid (hrt hc)
              have HAb := Lib.hid hab
              clear hrp hrt hc hab hal
              have hbA : Below w4.heap.size w4 (wr.alloc (Obj.cells #[Value.bool true, Value.int IntKind.i64 x.n, Value.int IntKind.i64 x.k, Value.string x.s] 33)) := hbq.alloc hbq.size _
              have d0 : (wr.alloc (Obj.cells #[Value.bool true, Value.int IntKind.i64 x.n, Value.int IntKind.i64 x.k, Value.string x.s] 33)).cell? ⟨wr.heap.size, 0, none⟩ = some (.bool true) := by go_simp
              have d3 : (wr.alloc (Obj.cells #[Value.bool true, Value.int IntKind.i64 x.n, Value.int IntKind.i64 x.k, Value.string x.s] 33)).cell? ⟨wr.heap.size, 3, none⟩ = some (.string x.s) := by go_simp
              have D0 := Lib.hid d0
              have D3 := Lib.hid d3
              have HbA := Lib.hid hbA
              clear d0 d3 hbA
              go_wp2_with fail
              generalize (wr.alloc (Obj.cells #[Value.bool true, Value.int IntKind.i64 x.n, Value.int IntKind.i64 x.k, Value.string x.s] 33)) = W at *
              generalize hwz : wr.heap.size = wz at *
              clear hwz c0 c1 c2 c3
              go_loop [9, 12] (fun p t => ∃ m : Nat, m ≤ x.s.size ∧ t = .int .i64 m ∧ p = .int .i64 ((A : Int) + m)) (fun _ t => x.s.size - (intOf t).toNat)
              case atStart => exact ⟨0, by omega, rfl, by simp⟩
              case round =>
                obtain ⟨m, hm, rfl, rfl⟩ := hrel
                have d0 := D0.out
                have d3 := D3.out
                by_cases hms : m < x.s.size
                · have hrr := HRt.out m hms W HbA.out
                  rw [HRt2.out m hms] at hrr
                  have HRR := Lib.hid hrr
                  have h48 : 48 ≤ x.s[m].toNat ∧ x.s[m].toNat ≤ 49 := by rcases HAb.out m hms with e | e <;> rw [e] <;> decide
                  have hd : decide (m < x.s.size) = true := by simpa using hms
                  clear hrr
                  go_wp2_with fail
                  refine HRR.out.mono ?_
                  rintro e w6 ⟨rfl, rfl⟩
                  go_wp2
                  go_round
                  case rel => exact ⟨m + 1, by omega, by go_num, by go_num⟩
                  case measure => simp [intOf]; omega
                · have hd : decide (m < x.s.size) = false := by simpa using hms
                  have hme : Hid (m = x.s.size) := by show m = x.s.size; omega
                  go_wp2
                  go_roundw
                  case rel => exact ⟨q + 1, by omega, by go_num, by rw [HSt.out, hme.out]; go_num, HbA.out⟩
                  case measure => simp [intOf]; omega
            · -- a number
              have hal : (actBits x).length = x.k.toNat := by simp [actBits, hc, numBits]
              rw [hal] at hfit HSt
              rw [hc] at c0
              have HRp := Lib.hid (fun W (hb : Below w4.heap.size w4 W) => reads_any (HBy.out W hb) (A : Int) x.k x.n 0 (by omega))
              rw [hrp hc] at HRp
              clear hrp hrt hc hal hnk
              have hbA : Below w4.heap.size w4 (wr.alloc (Obj.cells #[Value.bool false, Value.int IntKind.i64 x.n, Value.int IntKind.i64 x.k, Value.string x.s] 33)) := hbq.alloc hbq.size _
              have d0 : (wr.alloc (Obj.cells #[Value.bool false, Value.int IntKind.i64 x.n, Value.int IntKind.i64 x.k, Value.string x.s] 33)).cell? ⟨wr.heap.size, 0, none⟩ = some (.bool false) := by go_simp
              have D0 := Lib.hid d0
              have HbA := Lib.hid hbA
              clear d0 hbA
              go_wp2_with fail
              refine (HRp.out _ HbA.out).mono ?_
              rintro e w6 ⟨rfl, rfl⟩
              go_wp2_with fail
              generalize (wr.alloc (Obj.cells #[Value.bool false, Value.int IntKind.i64 x.n, Value.int IntKind.i64 x.k, Value.string x.s] 33)) = W at *
              generalize hwz : wr.heap.size = wz at *
              clear hwz c0 c1 c2 c3
              go_loop [9, 12] (fun p t => p = .int .i64 ((A : Int) + x.k) ∧ t = .int .i64 0) (fun _ _ => 0)
              case atStart => exact ⟨rfl, rfl⟩
              case round =>
                obtain ⟨rfl, rfl⟩ := hrel
                have d0 := D0.out
                go_wp2
                go_roundw
                case rel => exact ⟨q + 1, by omega, by go_num, by rw [HSt.out]; congr 1; omega, HbA.out⟩
                case measure => simp [intOf]; omega
        · have hq' : q = K.length := by omega
          subst hq'
          rw [List.take_length]
          have hrest := read_rest HPk.out
          have HRr := Lib.hid (reads_any (HBy.out wr hbq) ((allBits K).length : Nat) ((zs.length : Int) * 8 - (allBits K).length) 0 0 (by omega))
          rw [hrest.2.2] at HRr
          have HLn := Lib.hid (len_any (HPen4.out wr hbq))
          have hr0 := hrest.1
          have hr1 := hrest.2.1
          clear hrest
          generalize (allBits K).length = A at *
          have hlowq := below_chain hlow4 (Nat.le_refl _) hbq
          clear hbq
          have hz9 : zs.length ≤ 10000 := by omega
          go_wp2_with fail
          refine (count_any _ _ _ _ (by omega)).mono ?_
          rintro e w6 ⟨rfl, rfl⟩
          go_wp2_with fail
          refine HLn.out.mono ?_
          rintro e w6 ⟨rfl, rfl⟩
          go_wp2_with fail
          refine HRr.out.mono ?_
          rintro e w6 ⟨rfl, rfl⟩
          go_wp2
          go_ret
          exact ⟨rfl, hlowq⟩

end Go.Proofs.Ytfdlaiommpmliaa
