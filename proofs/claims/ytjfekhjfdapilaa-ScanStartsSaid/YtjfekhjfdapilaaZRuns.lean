/- scan.Runs: the pairs of a block. -/
import Derived.Test.YtjfekhjfdapilaaZSpread
namespace Go.Proofs.Ytjfekhjfdapilaa
open Go.RowKit Go.Shelf
set_option linter.unusedVariables false

theorem all_in (b : List Int) : b.all inLv = true ↔ ∀ k, k < b.length → inLv (b[k]?.getD 0) = true := by
  rw [List.all_eq_true]
  constructor
  · intro h k hk
    rw [List.getElem?_eq_getElem hk]
    exact h _ (List.getElem_mem _)
  · intro h x hx
    obtain ⟨k, hk, rfl⟩ := List.getElem_of_mem hx
    have := h k hk
    rw [List.getElem?_eq_getElem hk] at this
    exact this
theorem not_all_in {b : List Int} {k : Nat} (hk : k < b.length) (h : inLv (b[k]?.getD 0) = false) : b.all inLv = false := by
  rw [Bool.eq_false_iff]
  intro h2
  have := (all_in b).1 h2 k hk
  rw [h] at this
  cases this
theorem okLv_in {x : Int} (h : x ≠ 0) : okLv x = inLv x := by
  have h2 : (x != 0) = true := by simpa using h
  unfold okLv inLv
  rw [h2, Bool.true_and]
theorem inLv_zero : inLv 0 = true := by decide

set_option maxRecDepth 100000 in
set_option maxHeartbeats 2000000 in
theorem may_any (b : List Int) (hb : b.length = 64) (w : World) : Calls Try.prog 29 #[.agg (numsA b)] w fun e w' => e = .returned (.bool (b.all inLv)) ∧ Below w.heap.size w w' := by
  have HL := Lib.hid (fun x W => isLevel_any x W)
  have HIx := Lib.hid (fun (k : Nat) (hk : k < 64) (W : World) => nums_index hb hk W)
  have HC := Lib.hid ((numsAt_new w 50 b).cells)
  have HLn := Lib.hid (show (intV b).length = 64 by simp [hb])
  have HB := Lib.hid (show Below w.heap.size w (w.alloc (.cells (numsA b) 50)) from (Below.refl _ w).alloc (Nat.le_refl _) _)
  go_enter Try.func29, Try.ntmps29
  go_wp2_with (first
    | (with_reducible refine wpList_boxZ rfl 50 _ rfl (numsA b) rfl ?_)
    | (with_reducible refine wpList_loadZ rfl 50 _ rfl ⟨w.heap.size, 0, none⟩ rfl (intV b) HC.out 64 3 nums_under 64 HLn.out nums_info ?_))
  generalize w.alloc (.cells (numsA b) 50) = w1 at *
  go_loop [6] (fun i => ∃ k : Nat, i = .int .i64 k ∧ k ≤ 64 ∧ ∀ j, j < k → inLv (b[j]?.getD 0) = true) (fun i => 64 - (intOf i).toNat)
  case atStart => exact ⟨0, rfl, by omega, fun j hj => by omega⟩
  case round =>
    obtain ⟨k, rfl, hk, hno⟩ := hrel
    have HNo := Lib.hid hno
    clear hno
    by_cases hk2 : k < 64
    · have hix := fun W => HIx.out k hk2 W
      have hA := @not_all_in b k (by omega)
      have z1 : (k : Int) < 64 := by omega
      have HSt : Hid (inLv (b[k]?.getD 0) = true → ∀ j, j < k + 1 → inLv (b[j]?.getD 0) = true) := by
        show inLv (b[k]?.getD 0) = true → ∀ j, j < k + 1 → inLv (b[j]?.getD 0) = true
        intro h j hj
        by_cases e : j = k
        · rw [e]; exact h
        · exact HNo.out j (by omega)
      generalize b[k]?.getD 0 = x at *
      by_cases hx : x = 0
      · subst hx
        have HS2 := Lib.hid (HSt.out inLv_zero)
        clear hA HSt
        go_wp2
        go_round
        case rel => exact ⟨k + 1, by go_num, by omega, HS2.out⟩
        case measure => simp [intOf]; omega
      · have e1 : (x != 0) = true := by simpa using hx
        have HLx := Lib.hid (fun W => HL.out x W)
        rw [okLv_in hx] at HLx
        cases hin : inLv x with
        | true =>
          rw [hin] at HLx
          have HS2 := Lib.hid (HSt.out hin)
          clear hA HSt hin hx
          go_wp2_with (go_at_call 31; refine (HLx.out _).mono ?_; rintro e w' ⟨rfl, rfl⟩)
          go_round
          case rel => exact ⟨k + 1, by go_num, by omega, HS2.out⟩
          case measure => simp [intOf]; omega
        | false =>
          rw [hin] at HLx
          have HA := Lib.hid (hA hin)
          clear hA HSt hin hx
          go_wp2_with (go_at_call 31; refine (HLx.out _).mono ?_; rintro e w' ⟨rfl, rfl⟩)
          go_ret
          exact ⟨ret_bool HA.out.symm, HB.out⟩
    · obtain rfl : k = 64 := by omega
      have HA : Hid (b.all inLv = true) := (all_in b).2 (fun j hj => HNo.out j (by omega))
      go_wp2
      go_ret
      exact ⟨ret_bool HA.out.symm, HB.out⟩

/-! ### pairs -/
attribute [local go_sem] Oper.semAt_some
theorem keepsZ_of_bar {S : Nat → Prop} {W W' : World} (hb : Bar S W W') (hS : ∀ k, S k → k < W.heap.size → ∃ o : Obj, W.heap[k]? = some o ∧ o.isCells = true) : KeepsOthers W W' := by
  refine ⟨hb.size, fun k o hk ho => ?_⟩
  have hlt := (Array.getElem?_eq_some_iff.1 hk).1
  refine (hb.block k hlt fun hs => ?_).trans hk
  obtain ⟨o', h1, h2⟩ := hS k hs hlt
  rw [hk] at h1
  cases h1
  rw [ho] at h2
  cases h2
theorem ownsRow_objZ {w : World} {base n k sz : Nat} {e : TypeId} {v : Value} {xs : List Value} (h : w.ownsRow base e sz v n xs) (hk : v.ownBlock = some k) : ∃ o : Obj, w.heap[k]? = some o ∧ o.isCells = true := by
  rcases h.2 with ⟨rfl, _⟩ | ⟨g, cap, cur, rfl, _, hc, _⟩
  · cases hk
  · cases hk; exact ⟨_, hc, rfl⟩
theorem ownsRow_keptZ {w w' : World} {base n sz : Nat} {e : TypeId} {v : Value} {xs : List Value} {row : Option Nat} (h : w.ownsRow base e sz v n xs) (hg : w.grownBy w' row) (hr : ∀ r, row = some r → ∃ o : Obj, w.heap[r]? = some o ∧ o.isCells = false) : w'.ownsRow base e sz v n xs := by
  refine h.kept hg ?_
  rcases h.2 with ⟨rfl, _⟩ | ⟨g, cap, cur, rfl, _, hc, _⟩
  · exact .inl rfl
  · right
    intro e
    obtain ⟨o, h1, h2⟩ := hr g e.symm
    rw [hc] at h1
    cases h1
    cases h2
/-- what the pairs are so far: the run, and the pairs -/
abbrev runsTo (b : List Int) (run0 : Int) (pre : List Nat) : Int × List (Int × Int) := runsL b (run0, []) (pre.map ordAt)
theorem runsTo_snoc (b : List Int) (run0 : Int) (pre : List Nat) (x : Nat) : runsTo b run0 (pre ++ [x]) = stepR b (runsTo b run0 pre) (ordAt x) := by
  unfold runsTo runsL
  rw [List.map_append, List.foldl_append]
  rfl
theorem runsL_small (b : List Int) : ∀ (ps : List Nat) (s : Int × List (Int × Int)), -1 ≤ s.1 → (-1 ≤ (runsL b s ps).1 ∧ (runsL b s ps).1 ≤ max s.1 0 + ps.length) ∧ (runsL b s ps).2.length ≤ s.2.length + ps.length
  | [], s, h => ⟨⟨h, by simp [runsL]; omega⟩, by simp [runsL]⟩
  | p :: ps, s, h => by
    rw [runsL_cons]
    unfold stepR
    split
    · obtain ⟨⟨h1, h2⟩, h3⟩ := runsL_small b ps (s.1 + 1, s.2) (by simp; omega)
      simp only [List.length_cons] at h1 h2 h3 ⊢
      exact ⟨⟨h1, by omega⟩, by omega⟩
    · obtain ⟨⟨h1, h2⟩, h3⟩ := runsL_small b ps (0, s.2 ++ [(s.1, b[p]?.getD 0)]) (by simp)
      simp only [List.length_cons, List.length_append, List.length_nil] at h1 h2 h3 ⊢
      exact ⟨⟨h1, by omega⟩, by omega⟩
/-- between two rounds of pairs -/
structure PrsR (B : Nat) (b : List Int) (run : Int) (out : List (Int × Int)) (lv : Value) (W : World) : Prop where
  blk : NumsAt W B 50 b
  row : W.heap[B + 1]? = some (.cells #[lv] 22 (0, 0))
  run : W.heap[B + 1 + 1]? = some (.cells #[.int .i64 run] 3 (0, 0))
  own : W.ownsRow (B + 3) 39 2 lv out.length (cellsQ out)
structure PrsW (w : World) (b : List Int) (run0 : Int) (pre : List Nat) (W : World) : Prop where
  below : Below w.heap.size w W
  size : w.heap.size + 3 ≤ W.heap.size
  is : ∃ lv, PrsR w.heap.size b (runsTo b run0 pre).1 (runsTo b run0 pre).2 lv W
  le : pre.length ≤ 64

/-- an append of pairs, inside any fence -/
theorem operIn_append_p {F : Fence} {n : Nat} {Q : Exit → Act → World → Prop} {w : World} {o : Oper} {a : Act} {K : Act → World → Prop} (s x : Operand)
    (ho : o.op = .call { callee := .builtin .append, args := #[s, x], argTypes := #[22, 22] })
    (base : Nat) (v : Value) (m' : Nat) (xs : List (Int × Int)) (hv : a.eval s = v) (hown : w.ownsRow base 39 2 v m' (cellsQ xs))
    (A : Option Addr) (m c : Nat) (news : List (Int × Int)) (hx : a.eval x = .slice A m c) (hs : SrcP w A m news) (hnc : A = none → c = 0) (hfit : m' + m ≤ 1000000000) (hbase : base ≤ w.heap.size)
    (h : ∀ v' w', AppendedP w w' base v v' (m' + m) (xs ++ news) → K (a.put o.dst v') w') : o.wpIn F n Try.prog a w K Q := by
  obtain ⟨v', w', hrun, hd⟩ := run_append_p (w := w) base v m' xs hown A m c news hs hnc hfit hbase o.type
  unfold Oper.wpIn
  refine ⟨(fun f hf => by simp [Oper.about, ho, resolve, Target.leads, Sem.run_pure] at hf), ?_⟩
  rw [Oper.semAt_plain F _ _ (by rw [ho]; intro c hc; cases hc)]
  unfold execOp
  simp only [ho, resolve, invoke, builtin, Sem.run_bind, Sem.run_pure, Result.andThen_ok, List.map_toArray, List.map_cons, List.map_nil, hv, hx, hrun]
  exact h v' w' hd
theorem srcP_one (w : World) (r l : Int) : SrcP (w.alloc (.cells #[.int .i64 r, .int .i64 l] 39 (0, 0))) (some ⟨w.heap.size, 0, none⟩) 1 [(r, l)] :=
  ⟨rfl, .inr ⟨_, rfl, src_two w _ _ _⟩⟩

abbrev pairO (r l : Int) : Obj := .cells #[.int .i64 r, .int .i64 l] 39 (0, 0)
/-- inside the region in which a pair is appended: L says what has come up -/
structure PrsC (B p : Nat) (v rn : Int) (out : List (Int × Int)) (lv : Value) (W0 : World) (L : Nat → Bool) (x18 x19 x20 x21 x22 x23 x24 x25 : Value) (W : World) : Prop where
  l0 : L 0 = true → x18 = lv
  l1 : L 1 = true → x19 = .int .i64 rn
  l2 : L 2 = true → x20 = .int .i64 p
  l3 : L 3 = true → x21 = .pointer (some ⟨B, p, none⟩)
  l4 : L 4 = true → x22 = .int .i64 v
  l5 : L 5 = true → x23 = .agg #[.int .i64 rn, .int .i64 v]
  l6 : L 6 = true → x24 = .slice (some ⟨W0.heap.size, 0, none⟩) 1 1
  wA : L 6 = false → W = W0
  wB : L 6 = true → L 7 = false → W = W0.alloc (pairO rn v)
  wC : L 7 = true → L 8 = false → AppendedP (W0.alloc (pairO rn v)) W (B + 3) lv x25 (out.length + 1) (out ++ [(rn, v)])
  wD : L 8 = true → ∃ w2, AppendedP (W0.alloc (pairO rn v)) w2 (B + 3) lv x25 (out.length + 1) (out ++ [(rn, v)]) ∧ W = w2.setCell ⟨B + 1, 0, none⟩ x25
def PrsRegI (T : Array Value) (first B p : Nat) (v rn : Int) (out : List (Int × Int)) (lv : Value) (W0 : World) (L : Nat → Bool) (a : Act) (W : World) : Prop :=
  ∃ x18 x19 x20 x21 x22 x23 x24 x25, a = { tmps := #[.agg T, .int .i64 first, .pointer (some ⟨B, 0, none⟩), undef, .slice none 0 0, .pointer (some ⟨B + 1, 0, none⟩), .pointer (some ⟨B + 1 + 1, 0, none⟩), .int .i64 p, .int .i64 first, .int .i64 (-(first : Int)), .func (.func 33) #[] #[], .int .i64 p, .int .i64 p, .pointer (some ⟨B, p, none⟩), .int .i64 v, .bool false, undef, undef,
      x18, x19, x20, x21, x22, x23, x24, x25, undef], defers := [] } ∧ PrsC B p v rn out lv W0 L x18 x19 x20 x21 x22 x23 x24 x25 W

set_option maxRecDepth 100000 in
set_option maxHeartbeats 4000000 in
theorem pairs_in (n : Nat) (hn : 4 ≤ n) (b : List Int) (hb : b.length = 64) (first : Nat) (hf : first ≤ 1) (w : World) :
    CallsIn Fence.wide n Try.prog 30 #[.agg (numsA b), .int .i64 first] w fun e w' => ∃ v, e = .returned v ∧ w'.ownsRow w.heap.size 39 2 v (runsL b (-(first : Int), []) orderL).2.length (cellsQ (runsL b (-(first : Int), []) orderL).2) ∧ Below w.heap.size w w' := by
  have hn1 : 1 ≤ n := by omega
  have HO := Lib.hid (fun W => order_in Fence.wide (n - 1) trivial rfl W)
  refine callsIn_of_wp_marks Try.func30 rfl trivial ?_ rfl
  simp only [Try.ntmps30, List.size_toArray, List.length_cons, List.length_nil, Nat.reduceAdd, Nat.reduceSub, Array.replicate_succ, Array.replicate_zero, List.push_toArray, List.append_toArray, List.nil_append, List.cons_append]
  gi_wp2_with (first | (with_reducible refine wpListIn_boxZ rfl 50 _ rfl (numsA b) rfl ?_) | (refine ⟨trivial, ?_⟩; gi_at_call 32; refine (HO.out _).mono ?_; rintro e w' ⟨rfl, rfl⟩))
  have hB3 : Below w.heap.size w (((w.alloc (.cells (numsA b) 50)).alloc (.cells #[.slice none 0 0] 22)).alloc (.cells #[.int .i64 (-(first : Int))] 3)) :=
    (((Below.refl _ w).alloc (Nat.le_refl _) _).alloc (by simp) _).alloc (by simp; omega) _
  refine wpIn_rangeFunc_ownF rfl hn1 (gf := 33) (lb := #[]) rfl trivial (enters_of Try.func33 (by kernel_rfl) rfl)
    (order_stops (n - 1) (by omega) w.heap.size _) (fun h k => h.trans k) ?kb (Below.refl _ _) (fun _ => rfl)
    (fun pre W => PrsW w b (-(first : Int)) pre W)
    (fun _ _ _ => False)
    ?own (fun _ _ _ _ _ hs _ _ => hs) ?start
    (fun x => { tmps := #[.agg (numsA b), .int .i64 first, .pointer (some ⟨w.heap.size, 0, none⟩), undef, .slice none 0 0, .pointer (some ⟨w.heap.size + 1, 0, none⟩), .pointer (some ⟨w.heap.size + 1 + 1, 0, none⟩), .int .i64 (ordAt x : Nat), .int .i64 first, .int .i64 (-(first : Int)), .func (.func 33) #[] #[], .int .i64 (ordAt x : Nat), undef, undef, undef, undef, undef, undef, undef, undef, undef, undef, undef, undef, undef, undef, undef], defers := [] }) ?assign ?body ?done (fun _ _ _ _ _ _ h _ => h.elim)
  case kb =>
    intro W l o o' hl h1 h2 h3
    exact (Below.refl _ W).grown (grownBy_putObj' W l o') (by simp at hl; have := (Array.getElem?_eq_some_iff.1 h1).1; omega) (fun r e => by cases e; simp at hl; omega)
  case own =>
    intro pre A B row hI hg' hr
    have hr2 : ∀ r, row = some r → ∃ o : Obj, A.heap[r]? = some o ∧ o.isCells = false := fun r e => (hr r e).2
    obtain ⟨h1, h2, ⟨lv, h3, h4, h5, h6⟩, h7⟩ := hI
    exact ⟨h1.grown hg' h1.size (fun r e => by have := (hr r e).1; simp at this; omega), Nat.le_trans h2 hg'.size, ⟨lv, (grownBy_keeps_cells hg' hr2 h3 rfl).trans h3, (grownBy_keeps_cells hg' hr2 h4 rfl).trans h4, (grownBy_keeps_cells hg' hr2 h5 rfl).trans h5, ownsRow_keptZ h6 hg' hr2⟩, h7⟩
  case start =>
    exact ⟨hB3, by simp, ⟨.slice none 0 0, ((numsAt_new w _ _).alloc _).alloc _, heap_keep (heap_new _ (by simp) _) _, heap_new _ (by simp) _, World.ownsRow_nil _ _ _ _⟩, Nat.zero_le _⟩
  case assign =>
    intro l x W K hK
    gi_wp2
    exact hK
  case body =>
    rintro l pre x W ⟨hBW, hW, ⟨lv, hR⟩, hle⟩ hlt
    have hsn := runsTo_snoc b (-(first : Int)) pre x
    have hsm := runsL_small b (pre.map ordAt) (-(first : Int), []) (by simp; omega)
    have HN := Lib.hid hsn
    have hp := ordAt_lt x
    obtain ⟨⟨b1, b2⟩, b3⟩ := hsm
    simp only [List.length_map, List.length_nil] at b2 b3
    unfold stepR at HN
    clear hsn
    obtain ⟨rn, hrn⟩ : ∃ rn, (runsTo b (-(first : Int)) pre).1 = rn := ⟨_, rfl⟩
    obtain ⟨out, hout⟩ : ∃ out, (runsTo b (-(first : Int)) pre).2 = out := ⟨_, rfl⟩
    have c0 := hR.blk.cell (k := ordAt x) (by omega)
    rw [hrn, hout] at hR HN
    have e1 : -1 ≤ rn := by rw [← hrn]; exact b1
    have e2 : rn ≤ 64 := by rw [← hrn]; refine Int.le_trans b2 ?_; omega
    have e3 : out.length ≤ 64 := by rw [← hout]; exact Nat.le_trans b3 (by omega)
    have z0 : (0 : Int) ≤ ((ordAt x : Nat) : Int) := by omega
    have z1 : ((ordAt x : Nat) : Int) < 64 := by omega
    have HBW := Lib.hid hBW
    have HR := Lib.hid hR
    have hl1 : (pre ++ [x]).length = pre.length + 1 := by simp
    have HL1 := Lib.hid hl1
    obtain ⟨r0, g0⟩ := one_cell hR.row
    obtain ⟨r1, g1⟩ := one_cell hR.run
    clear hR hBW hl1 b1 b2 b3 hrn hout
    generalize b[ordAt x]?.getD 0 = v at *
    generalize ordAt x = p at *
    by_cases hv : v = 0
    · subst hv
      rw [if_pos rfl] at HN
      gi_wp2
      have hR := HR.out
      refine ⟨KeepsOthers.setCell _ _ _, (Below.refl _ W).setCell (p := ⟨w.heap.size + 1 + 1, 0, none⟩) (by simp; omega) _, HBW.out.setCell (p := ⟨w.heap.size + 1 + 1, 0, none⟩) (by simp; omega) _, by simpa using hW, ⟨lv, ?_⟩, by rw [HL1.out]; omega⟩
      rw [HN.out]
      exact ⟨hR.blk.other (by simp; omega) _, (heap_setCell_other _ _ _ _ (by simp)).trans hR.row, heap_setCell_same _ _ 0 _ _ _ hR.run, ownsRow_setCell_other hR.own (a := ⟨w.heap.size + 1 + 1, 0, none⟩) (fun e => by have e := (hR.own.lt _ e).1; have e : w.heap.size + 3 ≤ w.heap.size + 1 + 1 := e; omega) _⟩
    · rw [if_neg hv] at HN
      have hvb : (v == 0) = false := by simpa using hv
      clear hv
      gi_wp2
      have hm0 := HR.out.row
      have hmr := HR.out.run
      have hown := HR.out.own
      have hlow := fun k h => (hown.lt k h)
      have HLow := Lib.hid hlow
      have HOwn := Lib.hid hown
      have hBs : w.heap.size + 3 ≤ W.heap.size := hW
      have HO2 := HO
      clear hown hlow HO
      generalize hB0 : w.heap.size = B at *
      generalize hT0 : numsA b = T at *
      have HB0 := Lib.hid hB0
      have HT0 := Lib.hid hT0
      clear hB0 hT0
      refine wpIn_region_inv (by kernel_rfl) (by kernel_rfl) (by kernel_rfl) (PrsRegI T first B p v rn out lv W.drew) ?h0 ?st ?hd
      case h0 =>
        intro L hL
        have e : ∀ i, ¬ L i = true := fun i h => by rw [hL i] at h; cases h
        exact ⟨undef, undef, undef, undef, undef, undef, undef, undef, rfl, fun h => (e _ h).elim, fun h => (e _ h).elim, fun h => (e _ h).elim, fun h => (e _ h).elim, fun h => (e _ h).elim, fun h => (e _ h).elim, fun h => (e _ h).elim, fun _ => rfl, fun h => (e _ h).elim, fun h => (e _ h).elim, fun h => (e _ h).elim⟩
      case st =>
        refine ⟨?o0, ?o1, ?o2, ?o3, ?o4, ?o5, ?o6, ?o7, ?o8, trivial⟩
        case o0 =>
          rintro L a W' hL hbe hcl ⟨x18, x19, x20, x21, x22, x23, x24, x25, rfl, hC⟩
          have h7 : L 7 = false := by
            rw [Bool.eq_false_iff]; intro h
            have := hcl 7 _ rfl h { on := 0, ground := .data } (by simp) rfl
            rw [hL] at this; cases this
          have d0 : W'.cell? ⟨B + 1, 0, none⟩ = some lv := by
            cases h6 : L 6 with
            | false => rw [hC.wA h6]; exact r0
            | true => rw [hC.wB h6 h7]; exact (one_cell (heap_keep (w := W.drew) hm0 _)).1
          have HC := Lib.hid hC
          clear hC h7 hcl hbe r0 r1 c0
          go_simp
          exact ⟨lv, x19, x20, x21, x22, x23, x24, x25, rfl, fun _ => rfl, HC.out.l1, HC.out.l2, HC.out.l3, HC.out.l4, HC.out.l5, HC.out.l6, HC.out.wA, HC.out.wB, HC.out.wC, HC.out.wD⟩
        case o1 =>
          rintro L a W' hL hbe hcl ⟨x18, x19, x20, x21, x22, x23, x24, x25, rfl, hC⟩
          have h5 : L 5 = false := by
            rw [Bool.eq_false_iff]; intro h
            have := hcl 5 _ rfl h { on := 1, ground := .data } (by simp) rfl
            rw [hL] at this; cases this
          have h6 : L 6 = false := by
            rw [Bool.eq_false_iff]; intro h
            have := hcl 6 _ rfl h { on := 5, ground := .data } (by simp) rfl
            rw [h5] at this; cases this
          have d0 : W'.cell? ⟨B + 1 + 1, 0, none⟩ = some (.int .i64 rn) := by rw [hC.wA h6]; exact r1
          have HC := Lib.hid hC
          clear hC h5 h6 hcl hbe r0 r1 c0
          go_simp
          exact ⟨x18, _, x20, x21, x22, x23, x24, x25, rfl, HC.out.l0, fun _ => rfl, HC.out.l2, HC.out.l3, HC.out.l4, HC.out.l5, HC.out.l6, HC.out.wA, HC.out.wB, HC.out.wC, HC.out.wD⟩
        case o2 =>
          rintro L a W' hL hbe hcl ⟨x18, x19, x20, x21, x22, x23, x24, x25, rfl, hC⟩
          have HC := Lib.hid hC
          clear hC hcl hbe r0 r1 c0
          go_simp
          exact ⟨x18, x19, _, x21, x22, x23, x24, x25, rfl, HC.out.l0, HC.out.l1, fun _ => rfl, HC.out.l3, HC.out.l4, HC.out.l5, HC.out.l6, HC.out.wA, HC.out.wB, HC.out.wC, HC.out.wD⟩
        case o3 =>
          rintro L a W' hL hbe hcl ⟨x18, x19, x20, x21, x22, x23, x24, x25, rfl, hC⟩
          obtain rfl := hC.l2 (hbe { on := 2, ground := .data } (by simp) rfl)
          have HC := Lib.hid hC
          clear hC hcl hbe r0 r1 c0
          go_simp
          exact ⟨x18, x19, _, _, x22, x23, x24, x25, rfl, HC.out.l0, HC.out.l1, HC.out.l2, fun _ => rfl, HC.out.l4, HC.out.l5, HC.out.l6, HC.out.wA, HC.out.wB, HC.out.wC, HC.out.wD⟩
        case o4 =>
          rintro L a W' hL hbe hcl ⟨x18, x19, x20, x21, x22, x23, x24, x25, rfl, hC⟩
          have h5 : L 5 = false := by
            rw [Bool.eq_false_iff]; intro h
            have := hcl 5 _ rfl h { on := 4, ground := .data } (by simp) rfl
            rw [hL] at this; cases this
          have h6 : L 6 = false := by
            rw [Bool.eq_false_iff]; intro h
            have := hcl 6 _ rfl h { on := 5, ground := .data } (by simp) rfl
            rw [h5] at this; cases this
          obtain rfl := hC.l3 (hbe { on := 3, ground := .data } (by simp) rfl)
          have d0 : W'.cell? ⟨B, p, none⟩ = some (.int .i64 v) := by rw [hC.wA h6]; exact c0
          have HC := Lib.hid hC
          clear hC h5 h6 hcl hbe r0 r1 c0
          go_simp
          exact ⟨x18, x19, x20, _, _, x23, x24, x25, rfl, HC.out.l0, HC.out.l1, HC.out.l2, HC.out.l3, fun _ => rfl, HC.out.l5, HC.out.l6, HC.out.wA, HC.out.wB, HC.out.wC, HC.out.wD⟩
        case o5 =>
          rintro L a W' hL hbe hcl ⟨x18, x19, x20, x21, x22, x23, x24, x25, rfl, hC⟩
          obtain rfl := hC.l1 (hbe { on := 1, ground := .data } (by simp) rfl)
          obtain rfl := hC.l4 (hbe { on := 4, ground := .data } (by simp) rfl)
          have HC := Lib.hid hC
          clear hC hcl hbe r0 r1 c0
          go_simp
          exact ⟨x18, _, x20, x21, _, _, x24, x25, rfl, HC.out.l0, HC.out.l1, HC.out.l2, HC.out.l3, HC.out.l4, fun _ => rfl, HC.out.l6, HC.out.wA, HC.out.wB, HC.out.wC, HC.out.wD⟩
        case o6 =>
          rintro L a W' hL hbe hcl ⟨x18, x19, x20, x21, x22, x23, x24, x25, rfl, hC⟩
          have h7 : L 7 = false := by
            rw [Bool.eq_false_iff]; intro h
            have := hcl 7 _ rfl h { on := 6, ground := .data } (by simp) rfl
            rw [hL] at this; cases this
          have h8 : L 8 = false := by
            rw [Bool.eq_false_iff]; intro h
            have := hcl 8 _ rfl h { on := 7, ground := .data } (by simp) rfl
            rw [h7] at this; cases this
          obtain rfl := hC.l5 (hbe { on := 5, ground := .data } (by simp) rfl)
          obtain rfl := hC.wA hL
          have HC := Lib.hid hC
          have H7 := Lib.hid h7
          have H8 := Lib.hid h8
          clear hC hcl hbe r0 r1 c0 h7 h8
          go_simp
          exact ⟨x18, x19, x20, x21, x22, _, _, x25, rfl, HC.out.l0, HC.out.l1, HC.out.l2, HC.out.l3, HC.out.l4, HC.out.l5, fun _ => rfl, fun h => by (cases h), fun _ _ => rfl, fun h => absurd (show L 7 = true from h) (by simp [H7.out]), fun h => absurd (show L 8 = true from h) (by simp [H8.out])⟩
        case o7 =>
          rintro L a W' hL hbe hcl ⟨x18, x19, x20, x21, x22, x23, x24, x25, rfl, hC⟩
          have h8 : L 8 = false := by
            rw [Bool.eq_false_iff]; intro h
            have := hcl 8 _ rfl h { on := 7, ground := .data } (by simp) rfl
            rw [hL] at this; cases this
          have h6 := hbe { on := 6, ground := .data } (by simp) rfl
          obtain rfl := hC.l0 (hbe { on := 0, ground := .data } (by simp) rfl)
          obtain rfl := hC.l6 h6
          obtain rfl := hC.wB h6 hL
          refine operIn_append_p (.tmp 18) (.tmp 24) rfl (B + 3) _ out.length out rfl (ownsRow_belowN (w := W) HOwn.out ((Below.refl _ W).drew.alloc (Nat.le_refl _) _)) (some ⟨W.heap.size, 0, none⟩) 1 1 [(rn, v)] rfl (srcP_one W.drew rn v) (fun e => by cases e) (by omega) (by simp; omega) (fun v' w2 hap => ?_)
          exact ⟨_, x19, x20, x21, x22, x23, _, v', rfl, hC.l0, hC.l1, hC.l2, hC.l3, hC.l4, hC.l5, hC.l6, fun h => absurd (show L 6 = false from h) (by simp [h6]), fun _ h => by (cases h), fun _ _ => hap, fun h => absurd (show L 8 = true from h) (by simp [h8])⟩
        case o8 =>
          rintro L a W' hL hbe hcl ⟨x18, x19, x20, x21, x22, x23, x24, x25, rfl, hC⟩
          have h7 := hbe { on := 7, ground := .data } (by simp) rfl
          have hap := hC.wC h7 hL
          have hg := hap.2.1
          have hm2 : W'.heap[B + 1]? = some (.cells #[lv] 22 (0, 0)) := (hg.block (B + 1) (by simp; omega) (fun e => by have := (HLow.out _ e.symm).1; omega)).trans (heap_keep (w := W.drew) hm0 _)
          obtain ⟨d0, d1⟩ := one_cell hm2
          obtain ⟨sa, sc, hx25, _⟩ := rowP_own hap.1
          subst hx25
          have HC := Lib.hid hC
          have HAp := Lib.hid hap
          have H7 := Lib.hid h7
          have H6 : Hid (L 6 = true) := hcl 7 _ rfl h7 { on := 6, ground := .data } (by simp) rfl
          clear hC hcl hbe r0 r1 c0 hap hg hm2 h7
          go_simp
          exact ⟨x18, x19, x20, x21, x22, x23, x24, _, rfl, HC.out.l0, HC.out.l1, HC.out.l2, HC.out.l3, HC.out.l4, HC.out.l5, HC.out.l6, fun h => absurd (show L 6 = false from h) (by simp [H6.out]), fun _ h => absurd (show L 7 = false from h) (by simp [H7.out]), fun _ h => by (cases h), fun _ => ⟨W', HAp.out, rfl⟩⟩
      case hd =>
        rintro L a W' hL ⟨x18, x19, x20, x21, x22, x23, x24, x25, rfl, hC⟩
        have hL : ∀ i, i < 9 → L i = true := hL
        obtain ⟨w2, hap, rfl⟩ := hC.wD (hL 8 (by omega))
        clear hC hL
        have hg := hap.2.1
        have hr3 : w2.heap[B + 1 + 1]? = some (.cells #[.int .i64 rn] 3 (0, 0)) := (hg.block (B + 1 + 1) (by simp; omega) (fun e => by have := (HLow.out _ e.symm).1; omega)).trans (heap_keep (w := W.drew) hmr _)
        have hm3 : w2.heap[B + 1]? = some (.cells #[lv] 22 (0, 0)) := (hg.block (B + 1) (by simp; omega) (fun e => by have := (HLow.out _ e.symm).1; omega)).trans (heap_keep (w := W.drew) hm0 _)
        have hr4 : (w2.setCell ⟨B + 1, 0, none⟩ x25).heap[B + 1 + 1]? = some (.cells #[.int .i64 rn] 3 (0, 0)) := (heap_setCell_other _ _ _ _ (by simp)).trans hr3
        obtain ⟨d0, f0⟩ := one_cell hr4
        have HAp := Lib.hid hap
        have HG := Lib.hid hg
        have HM3 := Lib.hid hm3
        have HR4 := Lib.hid hr4
        clear r0 r1 g0 g1 c0 hap hg hr3 hr4 hm3
        gi_wp2
        have hB0 := HB0.out
        have hT0 := HT0.out
        subst hB0 hT0
        have bar1 : Bar (fun k => k = w.heap.size + 1 ∨ k = w.heap.size + 1 + 1 ∨ lv.ownBlock = some k) W ((w2.setCell ⟨w.heap.size + 1, 0, none⟩ x25).setCell ⟨w.heap.size + 1 + 1, 0, none⟩ (.int .i64 0)) :=
          (((((Bar.refl _ W).drew.alloc (pairO rn v)).trans (bar_of_grown (S := fun k => k = w.heap.size + 1 ∨ k = w.heap.size + 1 + 1 ∨ lv.ownBlock = some k) HG.out (fun k e => .inr (.inr e))) (fun j _ e => e)).setCell (p := ⟨w.heap.size + 1, 0, none⟩) (fun _ => .inl rfl) _).setCell (p := ⟨w.heap.size + 1 + 1, 0, none⟩) (fun _ => .inr (.inl rfl)) _)
        have hS : ∀ j, (j = w.heap.size + 1 ∨ j = w.heap.size + 1 + 1 ∨ lv.ownBlock = some j) → w.heap.size + 1 ≤ j := by
          rintro j (e | e | e)
          · omega
          · omega
          · have := (HLow.out _ e).1
            omega
        refine ⟨keepsZ_of_bar bar1 (fun j hj hlt => ?_), bar1.below (by omega) (fun j hj e => by have := hS j e; omega), HBW.out.trans (bar1.below (by omega) (fun j hj e => by have := hS j e; omega)), Nat.le_trans hW bar1.size, ⟨x25, ?_⟩, by rw [HL1.out]; omega⟩
        · rcases hj with rfl | rfl | e
          · exact ⟨_, hm0, rfl⟩
          · exact ⟨_, hmr, rfl⟩
          · exact ownsRow_objZ HOwn.out e
        · rw [HN.out]
          have ho := HAp.out.1
          have hl := fun k e => (ho.lt k e)
          refine ⟨(bar1.block _ (by omega) (fun e => by have := hS _ e; omega)).trans HR.out.blk, ?_, heap_setCell_same _ _ 0 _ _ _ HR4.out, ?_⟩
          · exact (heap_setCell_other _ _ _ _ (by simp)).trans (heap_setCell_same _ _ 0 _ _ _ HM3.out)
          · have ho2 : w2.ownsRow (w.heap.size + 3) 39 2 x25 (out ++ [(rn, v)]).length (cellsQ (out ++ [(rn, v)])) := by rw [List.length_append]; exact ho
            exact ownsRow_setCell_other (ownsRow_setCell_other ho2 (a := ⟨w.heap.size + 1, 0, none⟩) (fun e => by have e := (hl _ e).1; have e : w.heap.size + 3 ≤ w.heap.size + 1 := e; omega) _) (a := ⟨w.heap.size + 1 + 1, 0, none⟩) (fun e => by have e := (hl _ e).1; have e : w.heap.size + 3 ≤ w.heap.size + 1 + 1 := e; omega) _
  case done =>
    rintro D ys W hD rfl ⟨hBW, hW, ⟨lv, hR⟩, hle⟩ hK
    have hD' : w.heap.size ≤ D := by simp only [World.size_alloc] at hD; omega
    unfold runsTo at hR
    rw [ordAt_all] at hR
    have HR := Lib.hid hR
    have HBW := Lib.hid hBW
    obtain ⟨r0, g0⟩ := one_cell hR.row
    clear hR hBW
    gi_wp2
    refine ⟨by simp, .inl ⟨_, _, rfl, run_takeDeferred hK, ?_⟩⟩
    refine ⟨lv, by simp [results, Try.f30, go_sem], lv, rfl, ?_, HBW.out.trans (belowK_b (w := w) (Nat.le_refl _) _ D _ _ hD' hK rfl rfl)⟩
    exact ownsRow_baseN (ownsRow_keptZ HR.out.own (grownBy_putObj' _ D (.deferred none)) (fun r e => by cases e; exact ⟨_, hK, rfl⟩)) (by omega)

theorem pairs_any (b : List Int) (hb : b.length = 64) (first : Nat) (hf : first ≤ 1) (w : World) :
    Calls Try.prog 30 #[.agg (numsA b), .int .i64 first] w fun e w' => ∃ v, e = .returned v ∧ w'.ownsRow w.heap.size 39 2 v (runsL b (-(first : Int), []) orderL).2.length (cellsQ (runsL b (-(first : Int), []) orderL).2) ∧ Below w.heap.size w w' := callsIn_wide.1 (pairs_in 4 (by omega) b hb first hf w)

/-! ### Runs -/
theorem wpList_arrZ {P : Program} {ops : Array Oper} {rest : List Oper} {o : Oper} {a : Act} {w : World} {Q : Exit → Act → World → Prop} (hgd : o.guard = none) (t : TypeId) (x : Operand) (ho : o.op = .sliceToArrayPointer t x) (p : Option Addr) (len cap n : Nat) (e : TypeId)
    (hx : a.eval x = .slice p len cap) (hu : P.underlying t = some (.array n e)) (hn : n ≤ len) (h : wpList P ops Q rest (a.put o.dst (.pointer p)) w) : wpList P ops Q (o :: rest) a w := by
  refine wpList_valZ hgd ?_ h
  unfold execOp
  simp [ho, hx, Instr.arrayAt, Sem.run_bind, run_underlying hu, show ¬ len < n by omega]
theorem RowV.addCells {n₀ : Nat} {w : World} {b off len cap : Nat} {vs : List Value} (hc : ∀ j u, vs[j]? = some u → w.cell? ⟨b, off + j, none⟩ = some u) : ∀ j u, vs[j]? = some u → w.cell? ((⟨b, off, none⟩ : Addr).add j) = some u := by
  intro j u hu
  have hadd : (⟨b, off, none⟩ : Addr).add j = ⟨b, off + j, none⟩ := by unfold Addr.add; split <;> simp_all
  rw [hadd]
  exact hc j u hu
/-- what Runs answers, in memory -/
def RunsOut (w w' : World) (e : Ending) (R : Int × List (Int × Int)) : Prop := ∃ v, e = .returned (.tuple #[v, .int .i64 R.1]) ∧ w'.ownsRow w.heap.size 39 2 v R.2.length (cellsQ R.2) ∧ Below w.heap.size w w'
theorem runsOut_nil (w : World) (err : Int) : RunsOut w w (.returned (.tuple #[.slice none 0 0, .int .i64 err])) (err, []) := ⟨_, rfl, World.ownsRow_nil _ _ _ _, Below.refl _ _⟩

set_option maxRecDepth 100000 in
set_option maxHeartbeats 4000000 in
theorem runsZ_any {n₀ : Nat} {w : World} {av : Option Addr} {len cap : Nat} {xs : List Int} (hR : RowV n₀ w av len cap (intV xs)) (hn : n₀ ≤ w.heap.size) (hlen : len ≤ 1000000) (first : Int) :
    Calls Try.prog 18 #[.slice av len cap, .int .i64 first] w fun e w' => RunsOut w w' e (runsR xs first) := by
  have HF := Lib.hid (fun W => isFirst_any first W)
  have hxl : xs.length = len := by have := hR.1; simpa using this
  by_cases h : first = 0 ∨ first = 1
  · rw [show decide (first = 0 ∨ first = 1) = true from decide_eq_true h] at HF
    by_cases hl : len = 64
    · subst hl
      obtain ⟨b, off, rfl, hb, hc⟩ := hR.cells (by omega)
      have hc0 := hc 0 _ (intV_get (show 0 < xs.length by omega))
      rw [Nat.add_zero] at hc0
      have HAdd := Lib.hid (RowV.addCells (n₀ := n₀) (len := 64) (cap := cap) hc)
      have HLn := Lib.hid (show (intV xs).length = 64 by simp [hxl])
      have HAs := Lib.hid (show (numsA xs).size = 64 by simp [hxl])
      have HM := Lib.hid (fun W => may_any xs hxl W)
      have HP := Lib.hid (fun W (k : Nat) (hk : k ≤ 1) => pairs_any xs hxl k hk W)
      have hq : (64 : Int) ≤ 64 := by omega
      by_cases h0 : first = 1 ∧ xs[0]?.getD 0 ≠ 0
      · have hr : runsR xs first = (2, []) := by unfold runsR; rw [if_pos h, if_pos (.inr h0)]
        rw [hr]
        obtain ⟨rfl, h1⟩ := h0
        have e1 : (xs[0]?.getD 0 != 0) = true := by simpa using h1
        clear hr h1 h hR hc
        generalize xs[0]?.getD 0 = x0 at *
        go_enter Try.func18, Try.ntmps18
        go_wp2_with (go_at_call 25; refine (HF.out _).mono ?_; rintro e w' ⟨rfl, rfl⟩)
        go_ret2
        exact runsOut_nil _ _
      · obtain ⟨k, rfl⟩ : ∃ k : Nat, first = k := ⟨first.toNat, by omega⟩
        have hk : k ≤ 1 := by omega
        have hz : k = 1 → xs[0]?.getD 0 = 0 := fun e => by
          false_or_by_contra
          exact h0 ⟨by omega, by assumption⟩
        have hfst := runs_first (c := xs) (first := k) (by omega) hz
        have hrr : runsR xs k = if xs.all inLv = false then (10, []) else (0, (runsL xs (-(k : Int), []) orderL).2) := by
          unfold runsR
          rw [if_pos h, if_neg (by rintro (e | e); exact e hxl; exact h0 e), Int.toNat_natCast, hfst]
        rw [hrr]
        have HPk := Lib.hid (fun W => HP.out W k hk)
        obtain ⟨c0, hc0'⟩ : ∃ c0, xs[0]?.getD 0 = c0 := ⟨_, rfl⟩
        rw [hc0'] at hc0 hz h0
        have hcond : ((k : Int) == 1) = true → (c0 != 0) = false := fun e => by
          have : k = 1 := by have := beq_iff_eq.1 e; omega
          simpa using hz this
        clear hrr hfst hR hc HP h hz h0 hc0'
        generalize (runsL xs (-(k : Int), []) orderL).2 = out at *
        have hN6 : NumsAt ((w.alloc (.cells (numsA zeros64) 50)).setRow w.heap.size (numsA xs)) w.heap.size 50 xs := (numsAt_new w 50 zeros64).setRow
        have HN6 := Lib.hid hN6
        have HC6 := Lib.hid hN6.cells
        have HW6 := Lib.hid (show Below w.heap.size w ((w.alloc (.cells (numsA zeros64) 50)).setRow w.heap.size (numsA xs)) from below_setRowZ ((Below.refl _ w).alloc (Nat.le_refl _) _) (Nat.le_refl _) _)
        clear hN6
        cases hall : xs.all inLv with
        | false =>
          rw [hall] at HM
          rw [if_pos rfl]
          have hk2 : k = 0 ∨ k = 1 := by omega
          rcases hk2 with rfl | rfl
          · clear hcond
            go_enter Try.func18, Try.ntmps18
            go_wp2_with (first
              | (go_at_call 25; refine (HF.out _).mono ?_; rintro e w' ⟨rfl, rfl⟩)
              | (with_reducible refine wpList_arrZ rfl 50 _ rfl _ 64 _ 64 3 rfl nums_under (Nat.le_refl _) ?_)
              | (with_reducible refine wpList_allocZ rfl 50 (numsA zeros64) rfl nums_zero ?_)
              | (with_reducible refine wpList_storeZ rfl 50 _ _ rfl w.heap.size (numsA xs) rfl rfl 50 (numsA zeros64) (World.alloc_heap_new _ _) 64 HAs.out nums_info zerosN_size (numsA_one _) ?_)
              | (with_reducible refine wpList_loadZ rfl 50 _ rfl ⟨b, off, none⟩ rfl (intV xs) HAdd.out 64 3 nums_under 64 HLn.out nums_info ?_)
              | (with_reducible refine wpList_loadZ rfl 50 _ rfl ⟨w.heap.size, 0, none⟩ rfl (intV xs) HC6.out 64 3 nums_under 64 HLn.out nums_info ?_)
              | (go_at_call 29; refine (HM.out _).mono ?_; rintro e w5 ⟨rfl, hb5⟩; have HB5 := Lib.hid hb5; clear hb5))
            go_ret2
            exact ⟨_, rfl, World.ownsRow_nil _ _ _ _, HW6.out.trans (HB5.out.mono HW6.out.size)⟩
          · have hcb := hcond rfl
            clear hcond
            go_enter Try.func18, Try.ntmps18
            go_wp2_with (first
              | (go_at_call 25; refine (HF.out _).mono ?_; rintro e w' ⟨rfl, rfl⟩)
              | (with_reducible refine wpList_arrZ rfl 50 _ rfl _ 64 _ 64 3 rfl nums_under (Nat.le_refl _) ?_)
              | (with_reducible refine wpList_allocZ rfl 50 (numsA zeros64) rfl nums_zero ?_)
              | (with_reducible refine wpList_storeZ rfl 50 _ _ rfl w.heap.size (numsA xs) rfl rfl 50 (numsA zeros64) (World.alloc_heap_new _ _) 64 HAs.out nums_info zerosN_size (numsA_one _) ?_)
              | (with_reducible refine wpList_loadZ rfl 50 _ rfl ⟨b, off, none⟩ rfl (intV xs) HAdd.out 64 3 nums_under 64 HLn.out nums_info ?_)
              | (with_reducible refine wpList_loadZ rfl 50 _ rfl ⟨w.heap.size, 0, none⟩ rfl (intV xs) HC6.out 64 3 nums_under 64 HLn.out nums_info ?_)
              | (go_at_call 29; refine (HM.out _).mono ?_; rintro e w5 ⟨rfl, hb5⟩; have HB5 := Lib.hid hb5; clear hb5))
            go_ret2
            exact ⟨_, rfl, World.ownsRow_nil _ _ _ _, HW6.out.trans (HB5.out.mono HW6.out.size)⟩
        | true =>
          rw [hall] at HM
          rw [if_neg (by decide)]
          have hk2 : k = 0 ∨ k = 1 := by omega
          rcases hk2 with rfl | rfl
          · clear hcond
            go_enter Try.func18, Try.ntmps18
            go_wp2_with (first
              | (go_at_call 25; refine (HF.out _).mono ?_; rintro e w' ⟨rfl, rfl⟩)
              | (with_reducible refine wpList_arrZ rfl 50 _ rfl _ 64 _ 64 3 rfl nums_under (Nat.le_refl _) ?_)
              | (with_reducible refine wpList_allocZ rfl 50 (numsA zeros64) rfl nums_zero ?_)
              | (with_reducible refine wpList_storeZ rfl 50 _ _ rfl w.heap.size (numsA xs) rfl rfl 50 (numsA zeros64) (World.alloc_heap_new _ _) 64 HAs.out nums_info zerosN_size (numsA_one _) ?_)
              | (with_reducible refine wpList_loadZ rfl 50 _ rfl ⟨b, off, none⟩ rfl (intV xs) HAdd.out 64 3 nums_under 64 HLn.out nums_info ?_)
              | (with_reducible refine wpList_loadZ rfl 50 _ rfl ⟨w.heap.size, 0, none⟩ rfl (intV xs) HC6.out 64 3 nums_under 64 HLn.out nums_info ?_)
              | (go_at_call 29; refine (HM.out _).mono ?_; rintro e w5 ⟨rfl, hb5⟩; have HB5 := Lib.hid hb5; have HC5 := Lib.hid ((HN6.out.below hb5 HN6.out.lt).cells); clear hb5)
              | (with_reducible refine wpList_loadZ rfl 50 _ rfl ⟨w.heap.size, 0, none⟩ rfl (intV xs) HC5.out 64 3 nums_under 64 HLn.out nums_info ?_)
              | (go_at_call 30; refine (HPk.out _).mono ?_; rintro e w7 ⟨v7, rfl, ho7, hb7⟩; have HO7 := Lib.hid ho7; have HB7 := Lib.hid hb7; clear ho7 hb7))
            go_ret2
            have hW5 := HW6.out.trans (HB5.out.mono HW6.out.size)
            exact ⟨_, rfl, ownsRow_baseN HO7.out hW5.size, hW5.trans (HB7.out.mono hW5.size)⟩
          · have hcb := hcond rfl
            clear hcond
            go_enter Try.func18, Try.ntmps18
            go_wp2_with (first
              | (go_at_call 25; refine (HF.out _).mono ?_; rintro e w' ⟨rfl, rfl⟩)
              | (with_reducible refine wpList_arrZ rfl 50 _ rfl _ 64 _ 64 3 rfl nums_under (Nat.le_refl _) ?_)
              | (with_reducible refine wpList_allocZ rfl 50 (numsA zeros64) rfl nums_zero ?_)
              | (with_reducible refine wpList_storeZ rfl 50 _ _ rfl w.heap.size (numsA xs) rfl rfl 50 (numsA zeros64) (World.alloc_heap_new _ _) 64 HAs.out nums_info zerosN_size (numsA_one _) ?_)
              | (with_reducible refine wpList_loadZ rfl 50 _ rfl ⟨b, off, none⟩ rfl (intV xs) HAdd.out 64 3 nums_under 64 HLn.out nums_info ?_)
              | (with_reducible refine wpList_loadZ rfl 50 _ rfl ⟨w.heap.size, 0, none⟩ rfl (intV xs) HC6.out 64 3 nums_under 64 HLn.out nums_info ?_)
              | (go_at_call 29; refine (HM.out _).mono ?_; rintro e w5 ⟨rfl, hb5⟩; have HB5 := Lib.hid hb5; have HC5 := Lib.hid ((HN6.out.below hb5 HN6.out.lt).cells); clear hb5)
              | (with_reducible refine wpList_loadZ rfl 50 _ rfl ⟨w.heap.size, 0, none⟩ rfl (intV xs) HC5.out 64 3 nums_under 64 HLn.out nums_info ?_)
              | (go_at_call 30; refine (HPk.out _).mono ?_; rintro e w7 ⟨v7, rfl, ho7, hb7⟩; have HO7 := Lib.hid ho7; have HB7 := Lib.hid hb7; clear ho7 hb7))
            go_ret2
            have hW5 := HW6.out.trans (HB5.out.mono HW6.out.size)
            exact ⟨_, rfl, ownsRow_baseN HO7.out hW5.size, hW5.trans (HB7.out.mono hW5.size)⟩
    · have hr : runsR xs first = (2, []) := by unfold runsR; rw [if_pos h, if_pos (.inl (by omega))]
      rw [hr]
      have e1 : ((len : Int) != 64) = true := by rw [bne_iff_ne]; omega
      clear hr h hR
      go_enter Try.func18, Try.ntmps18
      go_wp2_with (go_at_call 25; refine (HF.out _).mono ?_; rintro e w' ⟨rfl, rfl⟩)
      go_ret2
      exact runsOut_nil _ _
  · have hr : runsR xs first = (3, []) := by unfold runsR; rw [if_neg h]
    rw [hr]
    rw [show decide (first = 0 ∨ first = 1) = false from decide_eq_false h] at HF
    clear hr h hR
    go_enter Try.func18, Try.ntmps18
    go_wp2_with (go_at_call 25; refine (HF.out _).mono ?_; rintro e w' ⟨rfl, rfl⟩)
    go_ret2
    exact runsOut_nil _ _

end Go.Proofs.Ytjfekhjfdapilaa
