/- The contract of prefix's Make. -/
import Derived.Test.YtdadmoefmaojlaaDoorPIs
namespace Go.Proofs.YtdadmoefmaojlaaDoor
open Go.RowKit Go.Shelf
set_option linter.unusedVariables false

theorem mayB_false {cs : List ByteArray} {ns : List Int} (h : mayB cs ns = false) : makeE cs ns = 2 := by
  unfold mayB at h
  rw [Bool.and_eq_false_iff] at h
  rcases h with h | h
  · have := of_decide_eq_false h
    exact makeE_len (by omega)
  · exact makeE_bad h
theorem mayB_true {cs : List ByteArray} {ns : List Int} (h : mayB cs ns = true) : cs.length = ns.length ∧ 0 < cs.length ∧ cs.length ≤ 300 ∧ ∀ s ∈ cs, codeB s = true := by
  unfold mayB at h
  rw [Bool.and_eq_true, decide_eq_true_eq] at h
  exact ⟨h.1.1, by omega, h.1.2.2, List.all_eq_true.1 h.2⟩

/-- the codes up to a place -/
def upTo (cs : List ByteArray) (k : Nat) : List (List Nat) := (cs.take k).map bitsL
theorem upTo_succ {cs : List ByteArray} {k : Nat} (h : k < cs.length) : upTo cs (k + 1) = upTo cs k ++ [bitsL (cs[k]?.getD ⟨#[]⟩)] := by
  unfold upTo
  rw [List.take_add_one, List.getElem?_eq_getElem h, List.map_append]
  rfl
theorem mem_upTo {cs : List ByteArray} {k i : Nat} (hi : i < k) (hk : k ≤ cs.length) : bitsL (cs[i]?.getD ⟨#[]⟩) ∈ upTo cs k := by
  unfold upTo
  refine List.mem_map_of_mem ?_
  rw [List.getElem?_eq_getElem (by omega), Option.getD_some, List.mem_take_iff_getElem]
  exact ⟨i, by omega, rfl⟩
/-- a tree in the making: its first k codes are laid -/
structure MakeI (n₀ : Nat) (cs : List ByteArray) (ns : List Int) (k : Nat) (wr : World) (b be bf : Nat) (P : List (List Nat)) (g : Nat) (fE fF : Int → Option (Int × Int × Int)) (nF cF : Nat) : Prop where
  nodes : Nodes n₀ wr b (.pointer none) P be bf g
  holds : Holds P (upTo cs k)
  free : Free (upTo cs k)
  few : P.length ≤ 1 + 24 * k
  ends : CMap wr be k fE k
  endsOk : EndsOk cs ns k P fE
  firsts : CMap wr bf nF fF cF
  nF : nF ≤ k
  firstsOk : FirstsOk cs ns k fF
  low : n₀ ≤ g ∧ n₀ ≤ be ∧ n₀ ≤ bf
theorem MakeI.start {n₀ : Nat} {cs : List ByteArray} {ns : List Int} {wr : World} {b be bf g : Nat} (h : Nodes n₀ wr b (.pointer none) [[]] be bf g) (h1 : CMap wr be 0 (fun _ => none) 0) (h2 : CMap wr bf 0 (fun _ => none) 0) (hl : n₀ ≤ g ∧ n₀ ≤ be ∧ n₀ ≤ bf) :
    MakeI n₀ cs ns 0 wr b be bf [[]] g (fun _ => none) (fun _ => none) 0 0 :=
  ⟨h, holds_root, ⟨by simp [upTo], by simp [upTo]⟩, by simp, h1, ⟨fun i hi => by omega, fun z hz => by simp at hz⟩, h2, Nat.le_refl _, fun x => by simp [putI], hl⟩
/-- one code more -/
theorem EndsOk.step {cs : List ByteArray} {ns : List Int} {k : Nat} {P P' : List (List Nat)} {f : Int → Option (Int × Int × Int)} (h : EndsOk cs ns k P f) (hk : k < cs.length) (hH : Holds P (upTo cs k)) (hT : bitsL (cs[k]?.getD ⟨#[]⟩) ∉ P) (hT' : bitsL (cs[k]?.getD ⟨#[]⟩) ∈ P')
    (hsub : ∀ q, q ∈ P → q ∈ P') (hold : ∀ q, q ∈ P → place P' q = place P q) : (f (place P' (bitsL (cs[k]?.getD ⟨#[]⟩)) : Nat)).isSome = false ∧ EndsOk cs ns (k + 1) P' (put1 f (place P' (bitsL (cs[k]?.getD ⟨#[]⟩)) : Nat) (codeOf cs ns k)) := by
  have hin : ∀ i, i < k → bitsL (cs[i]?.getD ⟨#[]⟩) ∈ P := fun i hi => (hH.mem _).2 (.inr ⟨_, mem_upTo hi (by omega), List.prefix_refl _⟩)
  have hne : ∀ i, i < k → place P' (bitsL (cs[i]?.getD ⟨#[]⟩)) ≠ place P' (bitsL (cs[k]?.getD ⟨#[]⟩)) := fun i hi e => by
    have h1 := place_get hT'
    have h2 := place_get (hsub _ (hin i hi))
    rw [e, h1] at h2
    exact hT (by have := Option.some.inj h2; rw [this]; exact hin i hi)
  refine ⟨?_, fun i hi => ?_, fun z hz => ?_⟩
  · rw [Bool.eq_false_iff]
    intro hs
    obtain ⟨i, hi, e⟩ := h.2 _ hs
    rw [← hold _ (hin i hi)] at e
    exact hne i hi (by omega)
  · unfold put1
    by_cases e : i = k
    · subst e
      rw [if_pos rfl]
    · have hik : i < k := by omega
      rw [if_neg (fun x => hne i hik (by omega)), hold _ (hin i hik)]
      exact h.1 i hik
  · unfold put1 at hz
    by_cases e : z = (place P' (bitsL (cs[k]?.getD ⟨#[]⟩)) : Nat)
    · exact ⟨k, by omega, e⟩
    · rw [if_neg e] at hz
      obtain ⟨i, hi, e2⟩ := h.2 z hz
      exact ⟨i, by omega, by rw [hold _ (hin i hi)]; exact e2⟩
theorem FirstsOk.step {cs : List ByteArray} {ns : List Int} {k : Nat} {f : Int → Option (Int × Int × Int)} (h : FirstsOk cs ns k f) (hk : k < ns.length) : FirstsOk cs ns (k + 1) (if (f (codeOf cs ns k).1).isSome then f else put1 f (codeOf cs ns k).1 (codeOf cs ns k)) := by
  have hn : (codeOf cs ns k).1 = ns[k] := by unfold codeOf; simp [hk]
  rw [hn]
  intro x
  have ht : ns.take (k + 1) = ns.take k ++ [ns[k]] := by rw [List.take_add_one, List.getElem?_eq_getElem hk]; rfl
  rw [ht, putI_snoc]
  have hlen : (ns.take k).length = k := by simp; omega
  have hfx := h x
  have hfn := h ns[k]
  cases hp : putI (ns.take k) x with
  | some i =>
    rw [hp] at hfx
    by_cases hs : (f ns[k]).isSome = true
    · rw [if_pos hs, hfx]
    · rw [if_neg hs]
      unfold put1
      by_cases e : x = ns[k]
      · subst e; rw [hfx] at hs; simp at hs
      · rw [if_neg e, hfx]
  | none =>
    rw [hp] at hfx
    by_cases e : ns[k] = x
    · subst e
      rw [if_neg (by rw [hfx]; simp)]
      unfold put1
      simp [hlen]
    · by_cases hs : (f ns[k]).isSome = true
      · rw [if_pos hs, hfx]; simp [e]
      · rw [if_neg hs]
        unfold put1
        rw [if_neg (fun e' => e e'.symm), hfx]; simp [e]

theorem grow_any {n₀ : Nat} {w : World} {b be bf g0 : Nat} {sf : Value} {P0 cs : List (List Nat)} (h : Nodes n₀ w b sf P0 be bf g0) (hH : Holds P0 cs) (hf : Free cs) (hn0 : n₀ ≤ w.heap.size) {s : ByteArray} (hs : AllBits s) (h1 : 1 ≤ s.size) (h24 : s.size ≤ 24) (hfew : P0.length + 24 ≤ 10000) :
    Calls Tryd.prog 31 #[.pointer (some ⟨b, 0, none⟩), .string s] w fun e w' => GrewTo n₀ w b sf be bf g0 cs (bitsL s) P0 e w' := callsIn_wide.1 (grow_in 4 (by omega) h hH hf hn0 hs h1 h24 hfew)
theorem read3_any {s : ByteArray} (hs : AllBits s) (h24 : s.size ≤ 24) (num : Int) (w : World) :
    Calls Tryd.prog 33 #[.string s, .int .i64 num] w fun e w' => e = .returned (codeV (num, (numOf (bitsL s) : Nat), (s.size : Nat))) ∧ Below w.heap.size w w' := callsIn_wide.1 (read_in 4 (by omega) hs h24 num w)

theorem makeMap_hint (n : Int) (W : World) : (Instr.makeMap 44 (some (.int .i64 n))).run Tryd.prog W = .ok (.map (some W.heap.size)) (W.alloc (.map #[] 0)) := by kernel_rfl
/-- what a call of Make leaves -/
def MadeP (w w' : World) (e : Ending) (cs : List ByteArray) (ns : List Int) : Prop :=
  Below w.heap.size w w' ∧ ((makeE cs ns = 0 ∧ ∃ b, e = .returned (.tuple #[.pointer (some ⟨b, 0, none⟩), .int .i64 0]) ∧ IsPT w.heap.size w'.heap.size w' b cs ns) ∨ (makeE cs ns ≠ 0 ∧ e = .returned (.tuple #[.pointer none, .int .i64 (makeE cs ns)])))
/-- a new tree -/
def NewT (w w' : World) (b be bf g : Nat) : Prop := Nodes w.heap.size w' b (.pointer none) [[]] be bf g ∧ CMap w' be 0 (fun _ => none) 0 ∧ CMap w' bf 0 (fun _ => none) 0 ∧ (w.heap.size ≤ g ∧ w.heap.size ≤ be ∧ w.heap.size ≤ bf) ∧ Below w.heap.size w w'

theorem CMap.of_heap {w : World} {b : Nat} (h : w.heap[b]? = some (.map #[] 0)) : CMap w b 0 (fun _ => none) 0 := by
  have h0 := CMap.made w
  obtain ⟨D, ⟨es, ck, h1, h2⟩, h3⟩ := h0
  have e := World.alloc_heap_new w (.map #[] 0)
  rw [h1] at e
  exact ⟨D, ⟨es, ck, h.trans e.symm, h2⟩, h3⟩
theorem newT_mk {w w1 w' : World} (hb : Below w.heap.size w w1) (hw : Below w1.heap.size w1 w') {be bf g b : Nat} (hg : w'.heap[g]? = some (.cells #[.int .i64 0, .int .i64 0] 65 (0, 0))) (he : w'.heap[be]? = some (.map #[] 0)) (hf : w'.heap[bf]? = some (.map #[] 0))
    (hbb : w'.heap[b]? = some (pCells (.pointer none) g 1 1 be bf)) (h1 : w1.heap.size ≤ g ∧ w1.heap.size ≤ be ∧ w1.heap.size ≤ bf ∧ w1.heap.size ≤ b) (h2 : g ≠ b ∧ g ≠ be ∧ g ≠ bf ∧ b ≠ be ∧ b ≠ bf ∧ be ≠ bf) : NewT w w' b be bf g := by
  have hs := hb.size
  obtain ⟨a1, a2, a3, a4⟩ := h1
  refine ⟨⟨by omega, h2, by simp, ⟨(Array.getElem?_eq_some_iff.1 he).1, (Array.getElem?_eq_some_iff.1 hf).1⟩, 1, [.int .i64 0, .int .i64 0], hbb, ⟨rfl, .inr ⟨g, 1, _, rfl, by omega, hg, Nat.le_refl _, by decide, rfl, rfl⟩⟩, cells_root⟩, CMap.of_heap he, CMap.of_heap hf, ⟨by omega, by omega, by omega⟩, hb.trans (hw.mono hs)⟩

set_option maxRecDepth 100000 in
set_option maxHeartbeats 4000000 in
theorem makeP_any {w : World} {a a' : Option Addr} {len cap len' cap' : Nat} {cs : List ByteArray} {ns : List Int} (hC : RowV w.heap.size w a len cap (strV cs)) (hN : RowV w.heap.size w a' len' cap' (intV ns)) (hsz : ∀ s ∈ cs, s.size ≤ 9223372036854775807) (hns : I64s ns) :
    Calls Tryd.prog 11 #[.slice a len cap, .slice a' len' cap'] w fun e w' => MadeP w w' e cs ns := by
  have HMay := Lib.hid (mayBe_any hC hN hsz)
  have e1 : cs.length = len := by have := hC.1; simpa using this
  have e2 : ns.length = len' := by have := hN.1; simpa using this
  subst e1
  subst e2
  have hc1 := hC.2.1
  have hc2 := hC.2.2.1
  have hd1 := hN.2.1
  have hd2 := hN.2.2.1
  have HC := Lib.hid hC
  have HN := Lib.hid hN
  have HNs := Lib.hid hns
  clear hC hN hsz hns
  cases hm : mayB cs ns with
  | false =>
    have HE := Lib.hid (mayB_false hm)
    rw [hm] at HMay
    clear hm
    go_enter Tryd.func11, Tryd.ntmps11
    go_wp2_with (go_at_call 30; refine HMay.out.mono ?_; rintro e w' ⟨rfl, hb⟩)
    go_ret2
    exact ⟨hb, .inr ⟨by rw [HE.out]; decide, by rw [HE.out]; rfl⟩⟩
  | true =>
    have HOk := Lib.hid (mayB_true hm)
    have hl := HOk.out.1
    have hl0 := HOk.out.2.1
    have hl3 := HOk.out.2.2.1
    have HL := Lib.hid hl
    clear hl
    have hnl : ns.length ≤ 300 := by rw [← HL.out]; exact hl3
    rw [hm] at HMay
    clear hm
    have hmm := makeMap_hint cs.length
    go_enter Tryd.func11, Tryd.ntmps11
    go_wp2_with (go_at_call 30; refine HMay.out.mono ?_; rintro e w1 ⟨rfl, hb1⟩)
    refine wp_mono (Q := fun e aa w' => e = .normal ∧ ∃ b be bf g, aa = { tmps := #[Value.slice a cs.length cap, Value.slice a' ns.length cap', undef, undef, Value.pointer none,
          Value.int IntKind.i64 0, .pointer (some ⟨b, 0, none⟩), undef, undef,
          undef, undef, Value.slice a cs.length cap, Value.slice a' ns.length cap', Value.bool true, Value.bool false,
          Value.agg #[Value.int IntKind.i64 0, Value.int IntKind.i64 0],
          Value.slice (some ⟨g, 0, none⟩) 1 1, Value.slice a cs.length cap,
          Value.int IntKind.i64 cs.length, Value.map (some be), Value.slice a cs.length cap,
          Value.int IntKind.i64 cs.length, Value.map (some bf),
          Value.agg #[Value.pointer none, Value.slice (some ⟨g, 0, none⟩) 1 1, Value.map (some be), Value.map (some bf)],
          .pointer (some ⟨b, 0, none⟩), undef, undef, undef, undef, undef,
          undef, undef, undef, undef, undef, undef, undef, undef, undef, undef, undef, undef, undef, undef, undef,
          undef, undef, undef, undef, undef, undef, undef, undef, undef, undef], defers := [] } ∧ NewT w w' b be bf g) ?reg ?rest
    case reg =>
      go_region
      all_goals
        refine ⟨rfl, _, _, _, _, rfl, newT_mk hb1 ((((((Below.refl _ w1).alloc (Nat.le_refl _) _).alloc (by simp) _).alloc (by simp; omega) _).alloc (by simp; omega) _).drew) ?_ ?_ ?_ ?_ (by omega) (by omega)⟩
        all_goals first
          | (refine heap_new _ ?_ _; simp only [World.size_alloc]; done)
          | (refine heap_keep (heap_new _ ?_ _) _; simp only [World.size_alloc]; done)
          | (refine heap_keep (heap_keep (heap_new _ ?_ _) _) _; simp only [World.size_alloc]; done)
          | exact heap_keep (heap_keep (heap_keep (heap_new _ rfl _) _) _) _
    case rest =>
      rintro e a2 w2 ⟨rfl, b, be, bf, g0, rfl, hNew⟩
      have HNew := Lib.hid hNew
      clear hNew
      go_wp2
      go_loopw [27] (fun i wr => ∃ k P g fE fF nF cF, i = .int .i64 (k : Nat) ∧ k ≤ cs.length ∧ MakeI w.heap.size cs ns k wr b be bf P g fE fF nF cF ∧ Below w.heap.size w wr) (fun i _ => cs.length - (intOf i).toNat)
      case atStart =>
        obtain ⟨n1, n2, n3, n4, n5⟩ := HNew.out
        exact ⟨0, _, _, _, _, _, _, rfl, by omega, MakeI.start n1 n2 n3 n4, n5⟩
      case round =>
        obtain ⟨k, P, g, fE, fF, nF, cF, rfl, hk, hI, hB⟩ := hrel
        have HI := Lib.hid hI
        have HB := Lib.hid hB
        have hlow := hI.low
        have hap := hI.nodes.apart
        have hnb := hI.nodes.low
        have hmp := hI.nodes.maps
        have hfew := hI.few
        have hnF := hI.nF
        have hBs := hB.size
        clear hI hB
        by_cases hlt : k < cs.length
        · obtain ⟨b0, off0, rfl, hbl0, hc0⟩ := HC.out.cells (by omega)
          have hkn : k < ns.length := by rw [← HL.out]; exact hlt
          obtain ⟨b1, off1, rfl, hbl1, hc1⟩ := HN.out.cells (by omega)
          have HC0 : Hid (∀ W, Below w.heap.size w W → W.cell? ⟨b0, off0 + k, none⟩ = some (.string (cs[k]?.getD ⟨#[]⟩))) := fun W hW => (hW.cell (p := ⟨b0, off0 + k, none⟩) hbl0).trans (hc0 k _ (by simp [hlt]))
          have HC1 : Hid (∀ W, Below w.heap.size w W → W.cell? ⟨b1, off1 + k, none⟩ = some (.int .i64 (ns[k]?.getD 0))) := fun W hW => (hW.cell (p := ⟨b1, off1 + k, none⟩) hbl1).trans (hc1 k _ (by simp [hkn]))
          clear hc0 hc1
          have hcell := HC0.out wr HB.out
          have hcode : codeB (cs[k]?.getD ⟨#[]⟩) = true := by rw [List.getElem?_eq_getElem hlt]; exact HOk.out.2.2.2 _ (List.getElem_mem hlt)
          obtain ⟨hall, hs1, hs24⟩ := codeB_all hcode
          have hnum := HNs.out (ns[k]?.getD 0) (by rw [List.getElem?_eq_getElem hkn]; exact List.getElem_mem hkn)
          have HG := Lib.hid (grow_any HI.out.nodes HI.out.holds HI.out.free hBs hall hs1 hs24 (by omega))
          have HRd := Lib.hid (fun W => read3_any hall hs24 (ns[k]?.getD 0) W)
          have HAll := Lib.hid hall
          have HCo : Hid (codeOf cs ns k = (ns[k]?.getD 0, (numOf (bitsL (cs[k]?.getD ⟨#[]⟩)) : Int), ((cs[k]?.getD ⟨#[]⟩).size : Int))) := rfl
          have HUp := Lib.hid (upTo_succ hlt)
          have HClash : Hid ((∃ c ∈ upTo cs k, c <+: bitsL (cs[k]?.getD ⟨#[]⟩) ∨ bitsL (cs[k]?.getD ⟨#[]⟩) <+: c) → makeE cs ns = 14) := fun h => makeE_clash HL.out hl3 HOk.out.2.2.2 hlt (by
            rw [List.getElem?_eq_getElem hlt, Option.getD_some] at h
            exact h)
          have HStep := Lib.hid (fun P' (h1 : bitsL (cs[k]?.getD ⟨#[]⟩) ∉ P) h2 h3 h4 => HI.out.endsOk.step (P' := P') hlt HI.out.holds h1 h2 h3 h4)
          have HFirst := Lib.hid (HI.out.firstsOk.step hkn)
          have hd1 : decide ((k : Int) < (cs.length : Int)) = true := decide_eq_true (by omega)
          clear hcode hall
          generalize hs : cs[k]?.getD ⟨#[]⟩ = s at *
          generalize hnk : ns[k]?.getD 0 = num at *
          clear hs hnk
          go_wp2_with fail
          refine HG.out.mono ?_
          rintro e w3 ⟨hbar, hg | hg⟩
          · obtain ⟨P', g', rfl, h1, h2, h3, h4, h5, h6, h7, h8⟩ := hg
            have hBar := Lib.hid hbar
            have hB3 : Below w.heap.size w w3 := HB.out.trans (hbar.below hBs (fun j hj => by omega))
            have HB3 := Lib.hid hB3
            have hcell1 := HC1.out w3 hB3
            go_wp2_with fail
            refine (HRd.out w3).mono ?_
            rintro e w4 ⟨rfl, hb4⟩
            have hpl := place_lt h5
            have hN4 := h7.keep (S := fun _ => False) (bar_of_below hb4) id id
            have hE4 : CMap w4 be k fE k := (HI.out.ends.bar hbar (by omega)).bar (S := fun _ => False) (bar_of_below hb4) id
            have hF4 : CMap w4 bf nF fF cF := (HI.out.firsts.bar hbar (by omega)).bar (S := fun _ => False) (bar_of_below hb4) id
            have hP'f := h7.few
            have hN4' := hN4
            obtain ⟨cap3, xs3, hb4b, _, _⟩ := hN4'.is
            have HName := Lib.hid (name_any hb4b ⟨hap.2.2.2.1, hap.2.2.2.2.1, hap.2.2.2.2.2⟩ hE4 hF4 (by omega) (by omega) (en := (place P' (bitsL s) : Nat)) (num := num) (numOf (bitsL s) : Nat) (s.size : Nat) (by omega) (by omega) hnum.1 hnum.2)
            obtain ⟨hst1, hst2⟩ := HStep.out P' h3 h5 (fun q hq => by
              have := place_get (P := P') (q := q)
              false_or_by_contra
              rename_i hno
              have e1 := h4 q hq
              rw [place_no hno] at e1
              by_cases hq0 : q = []
              · subst hq0; exact hno h1.paths.nil_mem
              · exact ((HI.out.holds.paths.zero hq0).1 e1.symm) hq) h4
            have HSt1 := Lib.hid hst1
            have HSt2 := Lib.hid hst2
            have HN4 := Lib.hid hN4
            have Hb4 := Lib.hid hb4
            have H1 := Lib.hid h1
            have H2 := Lib.hid h2
            have hlen6 : P'.length ≤ P.length + 24 := by rw [bitsL_len] at h6; omega
            clear hst1 hst2 hN4 hN4' hE4 hF4 h1 h2 h3 h4 h5 h6 h7 hb4 hb4b
            go_wp2_with fail
            refine HName.out.mono ?_
            rintro e w5 ⟨rfl, hn1, hn2, nF', cF', hn3, hn4⟩
            go_wp2
            go_roundw
            case rel =>
              have hg' : g' ≠ be ∧ g' ≠ bf := by have := HN4.out.apart; omega
              refine ⟨k + 1, P', g', put1 fE (place P' (bitsL s) : Nat) (num, (numOf (bitsL s) : Nat), (s.size : Nat)), (if (fF num).isSome then fF else put1 fF num (num, (numOf (bitsL s) : Nat), (s.size : Nat))), nF', cF', by go_num, by omega, ⟨HN4.out.keep hn1 (by omega) (by omega), ?_, ?_, by omega, ?_, ?_, hn4, by omega, ?_, by omega⟩, ?_⟩
              · rw [HUp.out]; exact H1.out
              · rw [HUp.out]; exact H2.out
              · rw [HSt1.out] at hn2; exact hn2
              · have := HSt2.out
                rw [HCo.out] at this
                exact this
              · have := HFirst.out
                rw [HCo.out] at this
                exact this
              · exact HB3.out.trans ((Hb4.out.mono HB3.out.size).trans (hn1.below (by have := HB3.out.size; have := Hb4.out.size; omega) (fun j hj => by omega)))
            case measure => simp [intOf]; omega
          · obtain ⟨y, rfl, hcl⟩ := hg
            have HE := Lib.hid (HClash.out hcl)
            have hB3 : Below w.heap.size w w3 := HB.out.trans (hbar.below hBs (fun j hj => by omega))
            clear hcl
            go_wp2
            go_ret2
            exact ⟨hB3, .inr ⟨by rw [HE.out]; decide, by rw [HE.out]; rfl⟩⟩
        · have hkn : k = cs.length := by omega
          subst hkn
          have hI := HI.out
          obtain ⟨cap3, xs3, hbb, hrow, hcl⟩ := hI.nodes.is
          obtain ⟨d0, d1, d2, d3⟩ := p_cells hbb
          have f0 : wr.frozen? ⟨b, 0, none⟩ = false := Lib.frozen_of_heap hbb 0
          have hup : upTo cs cs.length = cs.map bitsL := by unfold upTo; rw [List.take_length]
          have hh := hI.holds
          have hfr := hI.free
          rw [hup] at hh hfr
          have hOk : CodesOk cs := ⟨HOk.out.2.2.2, hfr⟩
          have HE := Lib.hid (makeE_free HL.out hl0 hl3 hOk)
          have hg : g < wr.heap.size := by
            rcases hI.nodes.row with hr | hr
            · exact hr.1
            · have := hh.paths.pos; rw [hr] at this; simp at this
          have hbs := hI.nodes.lt
          have hlen : P.length ≤ 10000 := hI.nodes.few
          have HFin : Hid (IsPT w.heap.size (wr.setCell ⟨b, 0, none⟩ (.pointer (some ⟨b, 0, none⟩))).heap.size (wr.setCell ⟨b, 0, none⟩ (.pointer (some ⟨b, 0, none⟩))) b cs ns) := by
            have hbar := bar_set1 wr b (.pointer (some ⟨b, 0, none⟩))
            have hsz := hbar.size
            refine ⟨P, be, bf, g, fE, fF, cs.length, nF, cF, ⟨by omega, by omega, by omega, by omega, hnb, hlow.2.1, hlow.2.2, hlow.1⟩, ⟨hnb, hap, hlen, by omega, cap3, xs3, ?_, ?_, hcl⟩, hh, hOk, ⟨hl0, HL.out, hl3⟩, hI.ends.bar hbar (by omega), hI.endsOk, hI.firsts.bar hbar (by omega), hI.firstsOk⟩
            · exact heap_setCell_same wr b 0 _ _ _ hbb
            · exact ownsRow_setCell_other hrow (a := ⟨b, 0, none⟩) (by simp [Value.ownBlock]; omega) _
          clear hbb hrow hcl hup hh hfr hOk hI
          go_wp2
          go_ret2
          exact ⟨HB.out.setCell (p := ⟨b, 0, none⟩) (by simpa using hnb) _, .inl ⟨HE.out, b, rfl, HFin.out⟩⟩

end Go.Proofs.YtdadmoefmaojlaaDoor
