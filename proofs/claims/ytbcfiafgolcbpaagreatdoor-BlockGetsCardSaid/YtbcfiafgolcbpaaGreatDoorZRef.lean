/- scan.Runs: the pairs of a block. The reference's scan (praxinoscoperef09): order, Place, Spread, Runs. -/
import Derived.Test.YtbcfiafgolcbpaaGreatDoorZSpread
/- scan.Runs: the pairs of a block. -/
namespace Go.Proofs.YtbcfiafgolcbpaaGreatDoor
open Go.RowKit Go.Shelf
set_option linter.unusedVariables false

theorem all_in (b : List Int) : b.all inLv = true ↔ ∀ k, k < b.length → inLv (b[k]?.getD 0) = true := by
  rw [List.all_eq_true]
  constructor
  · intro h k hk
    rw [List.getElem?_eq_getElem hk]
    exact h _ (List.getElem_mem _)
  · intro h x hx
    obtain ⟨k, hk, rfl⟩ := List.getElem_of_mem hx
    have := h k hk
    rw [List.getElem?_eq_getElem hk] at this
    exact this
theorem not_all_in {b : List Int} {k : Nat} (hk : k < b.length) (h : inLv (b[k]?.getD 0) = false) : b.all inLv = false := by
  rw [Bool.eq_false_iff]
  intro h2
  have := (all_in b).1 h2 k hk
  rw [h] at this
  cases this
theorem okLv_in {x : Int} (h : x ≠ 0) : okLv x = inLv x := by
  have h2 : (x != 0) = true := by simpa using h
  unfold okLv inLv
  rw [h2, Bool.true_and]
theorem inLv_zero : inLv 0 = true := by decide

/-! ### pairs -/
attribute [local go_sem] Oper.semAt_some
theorem keepsZ_of_bar {S : Nat → Prop} {W W' : World} (hb : Bar S W W') (hS : ∀ k, S k → k < W.heap.size → ∃ o : Obj, W.heap[k]? = some o ∧ o.isCells = true) : KeepsOthers W W' := by
  refine ⟨hb.size, fun k o hk ho => ?_⟩
  have hlt := (Array.getElem?_eq_some_iff.1 hk).1
  refine (hb.block k hlt fun hs => ?_).trans hk
  obtain ⟨o', h1, h2⟩ := hS k hs hlt
  rw [hk] at h1
  cases h1
  rw [ho] at h2
  cases h2
theorem ownsRow_objZ {w : World} {base n k sz : Nat} {e : TypeId} {v : Value} {xs : List Value} (h : w.ownsRow base e sz v n xs) (hk : v.ownBlock = some k) : ∃ o : Obj, w.heap[k]? = some o ∧ o.isCells = true := by
  rcases h.2 with ⟨rfl, _⟩ | ⟨g, cap, cur, rfl, _, hc, _⟩
  · cases hk
  · cases hk; exact ⟨_, hc, rfl⟩
theorem ownsRow_keptZ {w w' : World} {base n sz : Nat} {e : TypeId} {v : Value} {xs : List Value} {row : Option Nat} (h : w.ownsRow base e sz v n xs) (hg : w.grownBy w' row) (hr : ∀ r, row = some r → ∃ o : Obj, w.heap[r]? = some o ∧ o.isCells = false) : w'.ownsRow base e sz v n xs := by
  refine h.kept hg ?_
  rcases h.2 with ⟨rfl, _⟩ | ⟨g, cap, cur, rfl, _, hc, _⟩
  · exact .inl rfl
  · right
    intro e
    obtain ⟨o, h1, h2⟩ := hr g e.symm
    rw [hc] at h1
    cases h1
    cases h2
/-- what the pairs are so far: the run, and the pairs -/
abbrev runsTo (b : List Int) (run0 : Int) (pre : List Nat) : Int × List (Int × Int) := runsL b (run0, []) (pre.map ordAt)
theorem runsTo_snoc (b : List Int) (run0 : Int) (pre : List Nat) (x : Nat) : runsTo b run0 (pre ++ [x]) = stepR b (runsTo b run0 pre) (ordAt x) := by
  unfold runsTo runsL
  rw [List.map_append, List.foldl_append]
  rfl
theorem runsL_small (b : List Int) : ∀ (ps : List Nat) (s : Int × List (Int × Int)), -1 ≤ s.1 → (-1 ≤ (runsL b s ps).1 ∧ (runsL b s ps).1 ≤ max s.1 0 + ps.length) ∧ (runsL b s ps).2.length ≤ s.2.length + ps.length
  | [], s, h => ⟨⟨h, by simp [runsL]; omega⟩, by simp [runsL]⟩
  | p :: ps, s, h => by
    rw [runsL_cons]
    unfold stepR
    split
    · obtain ⟨⟨h1, h2⟩, h3⟩ := runsL_small b ps (s.1 + 1, s.2) (by simp; omega)
      simp only [List.length_cons] at h1 h2 h3 ⊢
      exact ⟨⟨h1, by omega⟩, by omega⟩
    · obtain ⟨⟨h1, h2⟩, h3⟩ := runsL_small b ps (0, s.2 ++ [(s.1, b[p]?.getD 0)]) (by simp)
      simp only [List.length_cons, List.length_append, List.length_nil] at h1 h2 h3 ⊢
      exact ⟨⟨h1, by omega⟩, by omega⟩
/-- between two rounds of pairs -/
structure PrsR (B : Nat) (b : List Int) (run : Int) (out : List (Int × Int)) (lv : Value) (W : World) : Prop where
  blk : NumsAt W B 107 b
  row : W.heap[B + 1]? = some (.cells #[lv] 25 (0, 0))
  run : W.heap[B + 1 + 1]? = some (.cells #[.int .i64 run] 3 (0, 0))
  own : W.ownsRow (B + 3) 66 2 lv out.length (cellsQ out)
structure PrsW (w : World) (b : List Int) (run0 : Int) (pre : List Nat) (W : World) : Prop where
  below : Below w.heap.size w W
  size : w.heap.size + 3 ≤ W.heap.size
  is : ∃ lv, PrsR w.heap.size b (runsTo b run0 pre).1 (runsTo b run0 pre).2 lv W
  le : pre.length ≤ 64

/-- an append of pairs, inside any fence -/
theorem operIn_append_p {F : Fence} {n : Nat} {Q : Exit → Act → World → Prop} {w : World} {o : Oper} {a : Act} {K : Act → World → Prop} (s x : Operand)
    (ho : o.op = .call { callee := .builtin .append, args := #[s, x], argTypes := #[25, 25] })
    (base : Nat) (v : Value) (m' : Nat) (xs : List (Int × Int)) (hv : a.eval s = v) (hown : w.ownsRow base 66 2 v m' (cellsQ xs))
    (A : Option Addr) (m c : Nat) (news : List (Int × Int)) (hx : a.eval x = .slice A m c) (hs : SrcP w A m news) (hnc : A = none → c = 0) (hfit : m' + m ≤ 1000000000) (hbase : base ≤ w.heap.size)
    (h : ∀ v' w', AppendedP w w' base v v' (m' + m) (xs ++ news) → K (a.put o.dst v') w') : o.wpIn F n Tryz.prog a w K Q := by
  obtain ⟨v', w', hrun, hd⟩ := run_append_p (w := w) base v m' xs hown A m c news hs hnc hfit hbase o.type
  unfold Oper.wpIn
  refine ⟨(fun f hf => by simp [Oper.about, ho, resolve, Target.leads, Sem.run_pure] at hf), ?_⟩
  rw [Oper.semAt_plain F _ _ (by rw [ho]; intro c hc; cases hc)]
  unfold execOp
  simp only [ho, resolve, invoke, builtin, Sem.run_bind, Sem.run_pure, Result.andThen_ok, List.map_toArray, List.map_cons, List.map_nil, hv, hx, hrun]
  exact h v' w' hd
theorem srcP_one (w : World) (r l : Int) : SrcP (w.alloc (.cells #[.int .i64 r, .int .i64 l] 66 (0, 0))) (some ⟨w.heap.size, 0, none⟩) 1 [(r, l)] :=
  ⟨rfl, .inr ⟨_, rfl, src_two w _ _ _⟩⟩

abbrev pairO (r l : Int) : Obj := .cells #[.int .i64 r, .int .i64 l] 66 (0, 0)
/-- inside the region in which a pair is appended: L says what has come up -/
structure PrsC (B p : Nat) (v rn : Int) (out : List (Int × Int)) (lv : Value) (W0 : World) (L : Nat → Bool) (x18 x19 x20 x21 x22 x23 x24 x25 : Value) (W : World) : Prop where
  l0 : L 0 = true → x18 = lv
  l1 : L 1 = true → x19 = .int .i64 rn
  l2 : L 2 = true → x20 = .int .i64 p
  l3 : L 3 = true → x21 = .pointer (some ⟨B, p, none⟩)
  l4 : L 4 = true → x22 = .int .i64 v
  l5 : L 5 = true → x23 = .agg #[.int .i64 rn, .int .i64 v]
  l6 : L 6 = true → x24 = .slice (some ⟨W0.heap.size, 0, none⟩) 1 1
  wA : L 6 = false → W = W0
  wB : L 6 = true → L 7 = false → W = W0.alloc (pairO rn v)
  wC : L 7 = true → L 8 = false → AppendedP (W0.alloc (pairO rn v)) W (B + 3) lv x25 (out.length + 1) (out ++ [(rn, v)])
  wD : L 8 = true → ∃ w2, AppendedP (W0.alloc (pairO rn v)) w2 (B + 3) lv x25 (out.length + 1) (out ++ [(rn, v)]) ∧ W = w2.setCell ⟨B + 1, 0, none⟩ x25
def PrsRegI (T : Array Value) (first B p : Nat) (v rn : Int) (out : List (Int × Int)) (lv : Value) (W0 : World) (L : Nat → Bool) (a : Act) (W : World) : Prop :=
  ∃ x18 x19 x20 x21 x22 x23 x24 x25, a = { tmps := #[.agg T, .int .i64 first, .pointer (some ⟨B, 0, none⟩), undef, .slice none 0 0, .pointer (some ⟨B + 1, 0, none⟩), .pointer (some ⟨B + 1 + 1, 0, none⟩), .int .i64 p, .int .i64 first, .int .i64 (-(first : Int)), .func (.func 134) #[] #[], .int .i64 p, .int .i64 p, .pointer (some ⟨B, p, none⟩), .int .i64 v, .bool false, undef, undef,
      x18, x19, x20, x21, x22, x23, x24, x25, undef], defers := [] } ∧ PrsC B p v rn out lv W0 L x18 x19 x20 x21 x22 x23 x24 x25 W

/-! ### Runs -/
/-- what Runs answers, in memory -/
def RunsOut (w w' : World) (e : Ending) (R : Int × List (Int × Int)) : Prop := ∃ v, e = .returned (.tuple #[v, .int .i64 R.1]) ∧ w'.ownsRow w.heap.size 66 2 v R.2.length (cellsQ R.2) ∧ Below w.heap.size w w'
theorem runsOut_nil (w : World) (err : Int) : RunsOut w w (.returned (.tuple #[.slice none 0 0, .int .i64 err])) (err, []) := ⟨_, rfl, World.ownsRow_nil _ _ _ _, Below.refl _ _⟩

end Go.Proofs.YtbcfiafgolcbpaaGreatDoor

/- The reference's scan (praxinoscoperef09): order, Place, Spread, Runs. -/
namespace Go.Proofs.YtbcfiafgolcbpaaGreatDoor
open Go.RowKit Go.Shelf
set_option linter.unusedVariables false

set_option maxRecDepth 100000 in
set_option maxHeartbeats 1000000 in
theorem r9order_any (w : World) :
    Calls Tryz.prog 70 #[] w fun e w' => e = .returned (.slice (some ⟨w.heap.size, 0, none⟩) 64 64) ∧ w' = w.alloc (.cells (numsA orderI) 3 (0, 0)) := by
  obtain ⟨T, hT⟩ : ∃ T, numsA orderI = T := ⟨_, rfl⟩
  rw [hT]
  have HT := Lib.hid hT
  clear hT
  go_enter Tryz.func70, Tryz.ntmps70
  go_wp2_with (with_reducible refine stop_slice 38 64 _ rfl ?_; refine Hid.out ?_)
  refine Lib.hid ?_
  refine Great.wpList_buildSliceTo rfl 38 3 64 _ rfl _ rfl _ rfl Tryz.underlying38y T (by rw [← HT.out]; kernel_rfl) ?_
  go_wp2
  go_ret
  exact ⟨rfl, rfl⟩


/-! ### Spread -/
/-- between two rounds of the reference's Spread -/
structure SpR (w : World) (g1 g2 : Nat) (blk : List Int) (W : World) : Prop where
  below : Below w.heap.size w W
  out : NumsAt W g1 3 blk
  tab : NumsAt W g2 3 orderI
  lo1 : w.heap.size ≤ g1
  lo2 : w.heap.size ≤ g2
  ne : g1 ≠ g2
theorem SpR.set {w W : World} {g1 g2 : Nat} {blk : List Int} (h : SpR w g1 g2 blk W) (k : Nat) (x : Int) : SpR w g1 g2 (blk.set k x) (W.setCell ⟨g1, k, none⟩ (.int .i64 x)) :=
  ⟨h.below.setCell (p := ⟨g1, k, none⟩) h.lo1 _, h.out.set k x, h.tab.other (by have := h.ne; simp; omega) _, h.lo1, h.lo2, h.ne⟩
theorem SpR.drew {w W : World} {g1 g2 : Nat} {blk : List Int} (h : SpR w g1 g2 blk W) : SpR w g1 g2 blk W.drew := ⟨h.below.drew, h.out, h.tab, h.lo1, h.lo2, h.ne⟩

theorem spr_ne : ¬ (some (Obj.cells (numsA zeros64) 3 (0, 0)) = some (Obj.cells (numsA orderI) 3 (0, 0))) := by
  intro h
  injection h with h
  injection h with h1 h2 h3
  have h4 := congrArg (fun a => a[1]?) h1
  have h5 : (numsA zeros64)[1]? = some (.int .i64 0) := by rfl
  have h6 : (numsA orderI)[1]? = some (.int .i64 1) := by rfl
  simp only [h5, h6] at h4
  injection h4 with h4
  injection h4 with _ h4
  cases h4

structure R9C (w : World) (kf : Nat) (L : Nat → Bool) (x6 x7 x8 x16 x17 x18 : Value) (W : World) : Prop where
  below : Below w.heap.size w W
  l0 : L 0 = true → ∃ g1, x16 = .slice (some ⟨g1, 0, none⟩) 64 64 ∧ w.heap.size ≤ g1 ∧ NumsAt W g1 3 zeros64
  l1 : L 1 = true → x17 = .int .i64 kf
  l2 : L 2 = true → ∃ g2, x18 = .slice (some ⟨g2, 0, none⟩) 64 64 ∧ w.heap.size ≤ g2 ∧ NumsAt W g2 3 orderI
  l3 : L 3 = true → x6 = x16
  l4 : L 4 = true → x7 = x17
  l5 : L 5 = true → x8 = x18
def R9RegI (w : World) (av : Option Addr) (len cap kf : Nat) (u10 u11 u12 u13 u14 u15 : Value) (L : Nat → Bool) (a : Act) (W : World) : Prop :=
  ∃ x6 x7 x8 x16 x17 x18, a = { tmps := #[.slice av len cap, .int .i64 kf, undef, undef, .slice none 0 0, .int .i64 0, x6, x7, x8, undef, u10, u11, u12, u13, u14, u15, x16, x17, x18, undef, undef, undef, undef, undef, undef, undef, undef, undef, undef, undef, undef, undef, undef, undef, undef, undef, undef, undef, undef, undef, undef, undef, undef, undef, undef, undef, undef, undef, undef, undef, undef, undef, undef, undef, undef, undef, undef, undef, undef, undef, undef, undef, undef, undef, undef, undef, undef, undef, undef, undef, undef, undef, undef, undef, undef, undef, undef, undef, undef, undef, undef, undef, undef, undef, undef, undef], defers := [] } ∧ R9C w kf L x6 x7 x8 x16 x17 x18 W

set_option maxRecDepth 100000 in
set_option maxHeartbeats 4000000 in
theorem r9spread_any {n₀ : Nat} {w : World} {av : Option Addr} {len cap : Nat} {ps : List (Int × Int)} (hR : RowP n₀ w av len cap ps) (hn : n₀ ≤ w.heap.size) (hlen : len ≤ 1000000) (first : Int) :
    Calls Tryz.prog 45 #[.slice av len cap, .int .i64 first] w fun e w' => ∃ v, e = .returned (.tuple #[v, .int .i64 (sprR ps first).1]) ∧ OwnI w' w.heap.size v (sprR ps first).2 ∧ Below w.heap.size w w' := by
  by_cases h : first = 0 ∨ first = 1
  · obtain ⟨kf, rfl⟩ : ∃ k : Nat, first = k := ⟨first.toNat, by omega⟩
    have hsR : sprR ps kf = spr ps kf zeros64 := by unfold sprR; rw [if_pos h, Int.toNat_natCast]
    rw [hsR]
    have hl := hR.1
    have HR := Lib.hid hR
    have HO := Lib.hid (fun W => r9order_any W)
    have hmk := made64
    obtain ⟨R, hRes⟩ : ∃ R, spr ps kf zeros64 = R := ⟨_, rfl⟩
    rw [hRes]
    have HRes := Lib.hid hRes
    have hkf : kf ≤ 1 := by omega
    have hk2 : ((kf : Int) != 0) = false ∨ (((kf : Int) != 0) = true ∧ ((kf : Int) != 1) = false) := by
      by_cases e : kf = 0
      · subst e; exact .inl rfl
      · obtain rfl : kf = 1 := by omega
        exact .inr ⟨rfl, rfl⟩
    clear hR hRes hsR h
    go_enter Tryz.func45, Tryz.ntmps45
    rcases hk2 with hk0 | ⟨hk0, hk1⟩
    all_goals go_wp2
    · refine wp_region_inv (by kernel_rfl) (by kernel_rfl) (by kernel_rfl) (R9RegI w av len cap kf (.int .i64 kf) (.bool false) (.bool false) undef undef (.bool false)) ?h0 ?st ?hd
      case h0 =>
        intro L hL
        have e : ∀ i, ¬ L i = true := fun i h => by rw [hL i] at h; cases h
        exact ⟨undef, undef, undef, undef, undef, undef, rfl, (Below.refl _ _).drew, fun h => (e _ h).elim, fun h => (e _ h).elim, fun h => (e _ h).elim, fun h => (e _ h).elim, fun h => (e _ h).elim, fun h => (e _ h).elim⟩
      case st =>
        refine ⟨?o0, ?o1, ?o2, ?o3, ?o4, ?o5, trivial⟩
        case o0 =>
          rintro L a W' hL hbe hcl ⟨x6, x7, x8, x16, x17, x18, rfl, hC⟩
          have h3 : L 3 = false := by
            rw [Bool.eq_false_iff]; intro h
            have := hcl 3 _ rfl h { on := 0, ground := .data } (by simp) rfl
            rw [hL] at this; cases this
          have HC := Lib.hid hC
          have H3 := Lib.hid h3
          clear hC hcl hbe h3
          go_simp
          exact ⟨x6, x7, x8, _, x17, x18, rfl, HC.out.below.alloc HC.out.below.size _, fun _ => ⟨_, rfl, HC.out.below.size, numsAt_new _ _ _⟩, HC.out.l1, fun h => by obtain ⟨g, e1, e2, e3⟩ := HC.out.l2 h; exact ⟨g, e1, e2, e3.alloc _⟩, fun h => absurd (show L 3 = true from h) (by simp [H3.out]), HC.out.l4, HC.out.l5⟩
        case o1 =>
          rintro L a W' hL hbe hcl ⟨x6, x7, x8, x16, x17, x18, rfl, hC⟩
          have h4 : L 4 = false := by
            rw [Bool.eq_false_iff]; intro h
            have := hcl 4 _ rfl h { on := 1, ground := .data } (by simp) rfl
            rw [hL] at this; cases this
          have HC := Lib.hid hC
          have H4 := Lib.hid h4
          clear hC hcl hbe h4
          go_simp
          exact ⟨x6, x7, x8, x16, _, x18, rfl, HC.out.below, HC.out.l0, fun _ => rfl, HC.out.l2, HC.out.l3, fun h => absurd (show L 4 = true from h) (by simp [H4.out]), HC.out.l5⟩
        case o2 =>
          rintro L a W' hL hbe hcl ⟨x6, x7, x8, x16, x17, x18, rfl, hC⟩
          have h5 : L 5 = false := by
            rw [Bool.eq_false_iff]; intro h
            have := hcl 5 _ rfl h { on := 2, ground := .data } (by simp) rfl
            rw [hL] at this; cases this
          have HC := Lib.hid hC
          have H5 := Lib.hid h5
          clear hC hcl hbe h5
          go_simp
          refine ⟨trivial, rfl, (callsIn_wide.2 (HO.out W')).mono ?_⟩
          rintro e w2 ⟨rfl, rfl⟩
          exact ⟨x6, x7, x8, x16, x17, _, rfl, HC.out.below.alloc HC.out.below.size _, fun h => by obtain ⟨g, e1, e2, e3⟩ := HC.out.l0 h; exact ⟨g, e1, e2, e3.alloc _⟩, HC.out.l1, fun _ => ⟨_, rfl, HC.out.below.size, numsAt_new _ _ _⟩, HC.out.l3, HC.out.l4, fun h => absurd (show L 5 = true from h) (by simp [H5.out])⟩
        case o3 =>
          rintro L a W' hL hbe hcl ⟨x6, x7, x8, x16, x17, x18, rfl, hC⟩
          have HC := Lib.hid hC
          clear hC hcl hbe
          go_simp
          exact ⟨_, x7, x8, x16, x17, x18, rfl, HC.out.below, HC.out.l0, HC.out.l1, HC.out.l2, fun _ => rfl, HC.out.l4, HC.out.l5⟩
        case o4 =>
          rintro L a W' hL hbe hcl ⟨x6, x7, x8, x16, x17, x18, rfl, hC⟩
          have HC := Lib.hid hC
          clear hC hcl hbe
          go_simp
          exact ⟨x6, _, x8, x16, x17, x18, rfl, HC.out.below, HC.out.l0, HC.out.l1, HC.out.l2, HC.out.l3, fun _ => rfl, HC.out.l5⟩
        case o5 =>
          rintro L a W' hL hbe hcl ⟨x6, x7, x8, x16, x17, x18, rfl, hC⟩
          have HC := Lib.hid hC
          clear hC hcl hbe
          go_simp
          exact ⟨x6, x7, _, x16, x17, x18, rfl, HC.out.below, HC.out.l0, HC.out.l1, HC.out.l2, HC.out.l3, HC.out.l4, fun _ => rfl⟩
      case hd =>
        rintro L a W0 hL ⟨x6, x7, x8, x16, x17, x18, rfl, hC⟩
        have hL : ∀ i, i < 6 → L i = true := hL
        obtain ⟨g1, rfl, hg1, hz1⟩ := hC.l0 (hL 0 (by omega))
        obtain ⟨g2, rfl, hg2, hz2⟩ := hC.l2 (hL 2 (by omega))
        obtain rfl := hC.l1 (hL 1 (by omega))
        obtain rfl := hC.l3 (hL 3 (by omega))
        obtain rfl := hC.l4 (hL 4 (by omega))
        obtain rfl := hC.l5 (hL 5 (by omega))
        have HS := Lib.hid (show SpR w g1 g2 zeros64 W0 from ⟨hC.below, hz1, hz2, hg1, hg2, fun e => by
          subst e
          unfold NumsAt at hz1 hz2
          rw [hz1] at hz2
          exact absurd hz2 spr_ne⟩)
        clear hC hL hz1 hz2
        go_wp2_with fail
        go_loopw [7, 9] (fun nx k wr => ∃ (j na : Nat) (blk : List Int), k = .int .i64 j ∧ j ≤ len ∧ nx = .int .i64 na ∧ na ≤ 64 ∧ blk.length = 64 ∧ spr (ps.drop j) na blk = R ∧ SpR w g1 g2 blk wr) (fun _ k _ => len - (intOf k).toNat)
        case atStart => exact ⟨0, kf, zeros64, rfl, by omega, rfl, by omega, rfl, HRes.out, HS.out⟩
        case round =>
          obtain ⟨j, na, blk, rfl, hj, rfl, hna, hbl, hsp, hS2⟩ := hrel
          have HS2 := Lib.hid hS2
          have HSp := Lib.hid hsp
          clear hsp hS2
          by_cases hj2 : j < len
          · have hjp : j < ps.length := by omega
            have hd : ps.drop j = ps[j] :: ps.drop (j + 1) := List.drop_eq_getElem_cons hjp
            rw [hd] at HSp
            have hpj : ps[j]? = some ps[j] := List.getElem?_eq_getElem hjp
            rcases HR.out.2.2.2 with h0 | ⟨b, off, rfl, hb, hc⟩
            · have := HR.out.2.1
              omega
            have hb2 : b < w.heap.size := by have := hb (by omega); omega
            obtain ⟨x1, x2⟩ := hc.below HS2.out.below hb2 j _ hpj
            clear hd hpj hc
            generalize ps[j] = p at *
            obtain ⟨r, l⟩ := p
            simp only at x1 x2
            have q1 : (j : Int) < (len : Int) := by omega
            have q2 : (0 : Int) ≤ (j : Int) := by omega
            cases hok : okLv l with
            | false =>
              have hR0 := spr_lv (rest := ps.drop (j + 1)) (a := na) (b := blk) (r := r) hok
              have HR0 : Hid (R = (10, [])) := by show R = _; rw [← HSp.out, hR0]
              clear hR0 HSp
              by_cases l0 : l = 0
              · have e0 : (l == 0) = true := by simpa using l0
                clear l0 hok
                go_wp2
                go_ret2
                rw [HR0.out]
                exact ⟨_, rfl, ownI_nil _ _, HS2.out.below⟩
              · have e0 : (l == 0) = false := by simpa using l0
                by_cases l1 : l < -127
                · clear l0 hok
                  go_wp2
                  go_ret2
                  rw [HR0.out]
                  exact ⟨_, rfl, ownI_nil _ _, HS2.out.below⟩
                · have l2 : 127 < l := by
                    have := (not_congr (okLv_iff l)).1 (by simp [hok])
                    omega
                  clear l0 hok
                  go_wp2
                  go_ret2
                  rw [HR0.out]
                  exact ⟨_, rfl, ownI_nil _ _, HS2.out.below⟩
            | true =>
              obtain ⟨l0, l1, l2⟩ := (okLv_iff l).1 hok
              have e0 : (l == 0) = false := by simpa using l0
              have l3 : ¬ l < -127 := by omega
              have l4 : ¬ 127 < l := by omega
              by_cases hin : r < 0 ∨ 64 - (na : Int) ≤ r
              · have hR0 := spr_run (rest := ps.drop (j + 1)) (a := na) (b := blk) (r := r) hok hin
                have HR0 : Hid (R = (11, [])) := by show R = _; rw [← HSp.out, hR0]
                clear hR0 hok l0 l1 l2 HSp
                by_cases r0 : r < 0
                · clear hin
                  go_wp2
                  go_ret2
                  rw [HR0.out]
                  exact ⟨_, rfl, ownI_nil _ _, HS2.out.below⟩
                · have r1 : 63 - (na : Int) < r := by omega
                  clear hin
                  go_wp2
                  go_ret2
                  rw [HR0.out]
                  exact ⟨_, rfl, ownI_nil _ _, HS2.out.below⟩
              · obtain ⟨nr, rfl⟩ : ∃ nr : Nat, r = nr := ⟨r.toNat, by omega⟩
                have h0 : 0 ≤ (nr : Int) := by omega
                have h1 : (na : Int) + nr < 64 := by omega
                have r0 : ¬ (nr : Int) < 0 := by omega
                have r1 : ¬ 63 - (na : Int) < (nr : Int) := by omega
                have hsp2 := spr_step (rest := ps.drop (j + 1)) (b := blk) hok h0 h1
                rw [Int.toNat_natCast] at hsp2
                have HSp2 : Hid (spr (ps.drop (j + 1)) (na + nr + 1) (blk.set (ordAt (na + nr)) l) = R) := by show _ = R; rw [← HSp.out, hsp2]
                clear hsp2 hok hin l0 l1 l2 HSp
                go_wp2_with fail
                obtain ⟨M, hM⟩ : ∃ M : Nat, na + nr = M := ⟨_, rfl⟩
                have hMi : (na : Int) + (nr : Int) = (M : Int) := by omega
                have hM64 : M < 64 := by omega
                have hM65 : (M : Int) < 64 := by omega
                have hM0 : (0 : Int) ≤ (M : Int) := by omega
                rw [hM] at HSp2
                rw [hMi]
                have hoM := ordAt_lt M
                have hoI : ((ordAt M : Nat) : Int) < 64 := by omega
                have hoJ : (0 : Int) ≤ ((ordAt M : Nat) : Int) := by omega
                have c0 := HS2.out.tab.cell (k := M) (by rw [orderI_length]; exact hM64)
                rw [orderI_get hM64] at c0
                have c2 := HS2.out.out.cell (k := ordAt M) (by omega)
                have f2 := HS2.out.out.frozen (ordAt M)
                clear x1 hMi h0 h1 r0 r1 l3 l4 e0 hmk
                generalize ordAt M = oM at *
                go_region
                have HBl2 := Lib.hid (show (blk.set oM l).length = 64 by simp [hbl])
                clear c0 c2 f2
                go_wp2
                go_roundw
                case rel => exact ⟨j + 1, M + 1, blk.set oM l, by go_num, by omega, by go_num, by omega, HBl2.out, HSp2.out, (HS2.out.set oM l).drew⟩
                case measure => simp [intOf]; omega
          · obtain rfl : j = len := by omega
            have hR0 : R = (0, blk) := by rw [← HSp.out, List.drop_eq_nil_of_le (by omega)]; rfl
            have HR0 := Lib.hid hR0
            clear hR0 hmk
            go_wp2
            go_ret2
            rw [HR0.out]
            exact ⟨_, rfl, ⟨3, by rw [hbl]; exact HS2.out.out.own hbl HS2.out.lo1⟩, HS2.out.below⟩
    · refine wp_region_inv (by kernel_rfl) (by kernel_rfl) (by kernel_rfl) (R9RegI w av len cap kf (.int .i64 kf) (.bool true) (.bool true) (.int .i64 kf) (.bool false) (.bool false)) ?h0 ?st ?hd
      case h0 =>
        intro L hL
        have e : ∀ i, ¬ L i = true := fun i h => by rw [hL i] at h; cases h
        exact ⟨undef, undef, undef, undef, undef, undef, rfl, (Below.refl _ _).drew, fun h => (e _ h).elim, fun h => (e _ h).elim, fun h => (e _ h).elim, fun h => (e _ h).elim, fun h => (e _ h).elim, fun h => (e _ h).elim⟩
      case st =>
        refine ⟨?o0, ?o1, ?o2, ?o3, ?o4, ?o5, trivial⟩
        case o0 =>
          rintro L a W' hL hbe hcl ⟨x6, x7, x8, x16, x17, x18, rfl, hC⟩
          have h3 : L 3 = false := by
            rw [Bool.eq_false_iff]; intro h
            have := hcl 3 _ rfl h { on := 0, ground := .data } (by simp) rfl
            rw [hL] at this; cases this
          have HC := Lib.hid hC
          have H3 := Lib.hid h3
          clear hC hcl hbe h3
          go_simp
          exact ⟨x6, x7, x8, _, x17, x18, rfl, HC.out.below.alloc HC.out.below.size _, fun _ => ⟨_, rfl, HC.out.below.size, numsAt_new _ _ _⟩, HC.out.l1, fun h => by obtain ⟨g, e1, e2, e3⟩ := HC.out.l2 h; exact ⟨g, e1, e2, e3.alloc _⟩, fun h => absurd (show L 3 = true from h) (by simp [H3.out]), HC.out.l4, HC.out.l5⟩
        case o1 =>
          rintro L a W' hL hbe hcl ⟨x6, x7, x8, x16, x17, x18, rfl, hC⟩
          have h4 : L 4 = false := by
            rw [Bool.eq_false_iff]; intro h
            have := hcl 4 _ rfl h { on := 1, ground := .data } (by simp) rfl
            rw [hL] at this; cases this
          have HC := Lib.hid hC
          have H4 := Lib.hid h4
          clear hC hcl hbe h4
          go_simp
          exact ⟨x6, x7, x8, x16, _, x18, rfl, HC.out.below, HC.out.l0, fun _ => rfl, HC.out.l2, HC.out.l3, fun h => absurd (show L 4 = true from h) (by simp [H4.out]), HC.out.l5⟩
        case o2 =>
          rintro L a W' hL hbe hcl ⟨x6, x7, x8, x16, x17, x18, rfl, hC⟩
          have h5 : L 5 = false := by
            rw [Bool.eq_false_iff]; intro h
            have := hcl 5 _ rfl h { on := 2, ground := .data } (by simp) rfl
            rw [hL] at this; cases this
          have HC := Lib.hid hC
          have H5 := Lib.hid h5
          clear hC hcl hbe h5
          go_simp
          refine ⟨trivial, rfl, (callsIn_wide.2 (HO.out W')).mono ?_⟩
          rintro e w2 ⟨rfl, rfl⟩
          exact ⟨x6, x7, x8, x16, x17, _, rfl, HC.out.below.alloc HC.out.below.size _, fun h => by obtain ⟨g, e1, e2, e3⟩ := HC.out.l0 h; exact ⟨g, e1, e2, e3.alloc _⟩, HC.out.l1, fun _ => ⟨_, rfl, HC.out.below.size, numsAt_new _ _ _⟩, HC.out.l3, HC.out.l4, fun h => absurd (show L 5 = true from h) (by simp [H5.out])⟩
        case o3 =>
          rintro L a W' hL hbe hcl ⟨x6, x7, x8, x16, x17, x18, rfl, hC⟩
          have HC := Lib.hid hC
          clear hC hcl hbe
          go_simp
          exact ⟨_, x7, x8, x16, x17, x18, rfl, HC.out.below, HC.out.l0, HC.out.l1, HC.out.l2, fun _ => rfl, HC.out.l4, HC.out.l5⟩
        case o4 =>
          rintro L a W' hL hbe hcl ⟨x6, x7, x8, x16, x17, x18, rfl, hC⟩
          have HC := Lib.hid hC
          clear hC hcl hbe
          go_simp
          exact ⟨x6, _, x8, x16, x17, x18, rfl, HC.out.below, HC.out.l0, HC.out.l1, HC.out.l2, HC.out.l3, fun _ => rfl, HC.out.l5⟩
        case o5 =>
          rintro L a W' hL hbe hcl ⟨x6, x7, x8, x16, x17, x18, rfl, hC⟩
          have HC := Lib.hid hC
          clear hC hcl hbe
          go_simp
          exact ⟨x6, x7, _, x16, x17, x18, rfl, HC.out.below, HC.out.l0, HC.out.l1, HC.out.l2, HC.out.l3, HC.out.l4, fun _ => rfl⟩
      case hd =>
        rintro L a W0 hL ⟨x6, x7, x8, x16, x17, x18, rfl, hC⟩
        have hL : ∀ i, i < 6 → L i = true := hL
        obtain ⟨g1, rfl, hg1, hz1⟩ := hC.l0 (hL 0 (by omega))
        obtain ⟨g2, rfl, hg2, hz2⟩ := hC.l2 (hL 2 (by omega))
        obtain rfl := hC.l1 (hL 1 (by omega))
        obtain rfl := hC.l3 (hL 3 (by omega))
        obtain rfl := hC.l4 (hL 4 (by omega))
        obtain rfl := hC.l5 (hL 5 (by omega))
        have HS := Lib.hid (show SpR w g1 g2 zeros64 W0 from ⟨hC.below, hz1, hz2, hg1, hg2, fun e => by
          subst e
          unfold NumsAt at hz1 hz2
          rw [hz1] at hz2
          exact absurd hz2 spr_ne⟩)
        clear hC hL hz1 hz2
        go_wp2_with fail
        go_loopw [7, 9] (fun nx k wr => ∃ (j na : Nat) (blk : List Int), k = .int .i64 j ∧ j ≤ len ∧ nx = .int .i64 na ∧ na ≤ 64 ∧ blk.length = 64 ∧ spr (ps.drop j) na blk = R ∧ SpR w g1 g2 blk wr) (fun _ k _ => len - (intOf k).toNat)
        case atStart => exact ⟨0, kf, zeros64, rfl, by omega, rfl, by omega, rfl, HRes.out, HS.out⟩
        case round =>
          obtain ⟨j, na, blk, rfl, hj, rfl, hna, hbl, hsp, hS2⟩ := hrel
          have HS2 := Lib.hid hS2
          have HSp := Lib.hid hsp
          clear hsp hS2
          by_cases hj2 : j < len
          · have hjp : j < ps.length := by omega
            have hd : ps.drop j = ps[j] :: ps.drop (j + 1) := List.drop_eq_getElem_cons hjp
            rw [hd] at HSp
            have hpj : ps[j]? = some ps[j] := List.getElem?_eq_getElem hjp
            rcases HR.out.2.2.2 with h0 | ⟨b, off, rfl, hb, hc⟩
            · have := HR.out.2.1
              omega
            have hb2 : b < w.heap.size := by have := hb (by omega); omega
            obtain ⟨x1, x2⟩ := hc.below HS2.out.below hb2 j _ hpj
            clear hd hpj hc
            generalize ps[j] = p at *
            obtain ⟨r, l⟩ := p
            simp only at x1 x2
            have q1 : (j : Int) < (len : Int) := by omega
            have q2 : (0 : Int) ≤ (j : Int) := by omega
            cases hok : okLv l with
            | false =>
              have hR0 := spr_lv (rest := ps.drop (j + 1)) (a := na) (b := blk) (r := r) hok
              have HR0 : Hid (R = (10, [])) := by show R = _; rw [← HSp.out, hR0]
              clear hR0 HSp
              by_cases l0 : l = 0
              · have e0 : (l == 0) = true := by simpa using l0
                clear l0 hok
                go_wp2
                go_ret2
                rw [HR0.out]
                exact ⟨_, rfl, ownI_nil _ _, HS2.out.below⟩
              · have e0 : (l == 0) = false := by simpa using l0
                by_cases l1 : l < -127
                · clear l0 hok
                  go_wp2
                  go_ret2
                  rw [HR0.out]
                  exact ⟨_, rfl, ownI_nil _ _, HS2.out.below⟩
                · have l2 : 127 < l := by
                    have := (not_congr (okLv_iff l)).1 (by simp [hok])
                    omega
                  clear l0 hok
                  go_wp2
                  go_ret2
                  rw [HR0.out]
                  exact ⟨_, rfl, ownI_nil _ _, HS2.out.below⟩
            | true =>
              obtain ⟨l0, l1, l2⟩ := (okLv_iff l).1 hok
              have e0 : (l == 0) = false := by simpa using l0
              have l3 : ¬ l < -127 := by omega
              have l4 : ¬ 127 < l := by omega
              by_cases hin : r < 0 ∨ 64 - (na : Int) ≤ r
              · have hR0 := spr_run (rest := ps.drop (j + 1)) (a := na) (b := blk) (r := r) hok hin
                have HR0 : Hid (R = (11, [])) := by show R = _; rw [← HSp.out, hR0]
                clear hR0 hok l0 l1 l2 HSp
                by_cases r0 : r < 0
                · clear hin
                  go_wp2
                  go_ret2
                  rw [HR0.out]
                  exact ⟨_, rfl, ownI_nil _ _, HS2.out.below⟩
                · have r1 : 63 - (na : Int) < r := by omega
                  clear hin
                  go_wp2
                  go_ret2
                  rw [HR0.out]
                  exact ⟨_, rfl, ownI_nil _ _, HS2.out.below⟩
              · obtain ⟨nr, rfl⟩ : ∃ nr : Nat, r = nr := ⟨r.toNat, by omega⟩
                have h0 : 0 ≤ (nr : Int) := by omega
                have h1 : (na : Int) + nr < 64 := by omega
                have r0 : ¬ (nr : Int) < 0 := by omega
                have r1 : ¬ 63 - (na : Int) < (nr : Int) := by omega
                have hsp2 := spr_step (rest := ps.drop (j + 1)) (b := blk) hok h0 h1
                rw [Int.toNat_natCast] at hsp2
                have HSp2 : Hid (spr (ps.drop (j + 1)) (na + nr + 1) (blk.set (ordAt (na + nr)) l) = R) := by show _ = R; rw [← HSp.out, hsp2]
                clear hsp2 hok hin l0 l1 l2 HSp
                go_wp2_with fail
                obtain ⟨M, hM⟩ : ∃ M : Nat, na + nr = M := ⟨_, rfl⟩
                have hMi : (na : Int) + (nr : Int) = (M : Int) := by omega
                have hM64 : M < 64 := by omega
                have hM65 : (M : Int) < 64 := by omega
                have hM0 : (0 : Int) ≤ (M : Int) := by omega
                rw [hM] at HSp2
                rw [hMi]
                have hoM := ordAt_lt M
                have hoI : ((ordAt M : Nat) : Int) < 64 := by omega
                have hoJ : (0 : Int) ≤ ((ordAt M : Nat) : Int) := by omega
                have c0 := HS2.out.tab.cell (k := M) (by rw [orderI_length]; exact hM64)
                rw [orderI_get hM64] at c0
                have c2 := HS2.out.out.cell (k := ordAt M) (by omega)
                have f2 := HS2.out.out.frozen (ordAt M)
                clear x1 hMi h0 h1 r0 r1 l3 l4 e0 hmk
                generalize ordAt M = oM at *
                go_region
                have HBl2 := Lib.hid (show (blk.set oM l).length = 64 by simp [hbl])
                clear c0 c2 f2
                go_wp2
                go_roundw
                case rel => exact ⟨j + 1, M + 1, blk.set oM l, by go_num, by omega, by go_num, by omega, HBl2.out, HSp2.out, (HS2.out.set oM l).drew⟩
                case measure => simp [intOf]; omega
          · obtain rfl : j = len := by omega
            have hR0 : R = (0, blk) := by rw [← HSp.out, List.drop_eq_nil_of_le (by omega)]; rfl
            have HR0 := Lib.hid hR0
            clear hR0 hmk
            go_wp2
            go_ret2
            rw [HR0.out]
            exact ⟨_, rfl, ⟨3, by rw [hbl]; exact HS2.out.out.own hbl HS2.out.lo1⟩, HS2.out.below⟩
  · have hsR : sprR ps first = (3, []) := by unfold sprR; rw [if_neg h]
    rw [hsR]
    have e0 : (first != 0) = true := by rw [bne_iff_ne]; omega
    have e1 : (first != 1) = true := by rw [bne_iff_ne]; omega
    clear hsR h
    go_enter Tryz.func45, Tryz.ntmps45
    go_wp2
    go_ret2
    exact ⟨_, rfl, ownI_nil _ _, Below.refl _ _⟩

end Go.Proofs.YtbcfiafgolcbpaaGreatDoor
