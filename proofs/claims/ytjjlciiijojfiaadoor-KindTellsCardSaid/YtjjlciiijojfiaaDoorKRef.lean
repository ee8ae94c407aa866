/- Contracts of the reference's kind (praxinoscoperef05): codes, Tree, Get, Put, Of. What kind's functions must answer, as one record; the laws' helpers gets, puts, has, awake (praxinoscopelaw05); the walks of KindReads, KindTells, KindKnown, KindParts. awake (praxinoscopelaw05); the walks of KindReads, KindTells, KindKnown. The walk of KindParts. -/
import Derived.Test.YtjjlciiijojfiaaDoorLit
/- Contracts of the reference's kind (praxinoscoperef05): codes, Tree, Get, Put, Of. -/
namespace Go.Proofs.YtjjlciiijojfiaaDoor
open Go.RowKit Go.Shelf
set_option linter.unusedVariables false

def codes5 : List ByteArray := [[0, 0, 0, 1], [0, 0, 0, 0, 0, 0, 1], [1], [0, 0, 0, 0, 1], [0, 0, 0, 0, 0, 0, 0, 0, 1], [0, 0, 0, 0, 0, 0, 0, 1], [0, 0, 0, 0, 0, 0, 0, 0, 0, 1], [0, 0, 1], [0, 1], [0, 0, 0, 0, 0, 1]].map bitsT
def nums5 : List Int := [1, 2, 3, 4, 5, 6, 7, 8, 9, 10]
theorem codes5_length : codes5.length = 10 := rfl
theorem make5 : makeE codes5 nums5 = 0 := by decide +kernel
theorem clash5 : clash codes5 = false := by decide +kernel
theorem codes5_small : ∀ s ∈ codes5, s.size ≤ 9223372036854775807 := by decide +kernel

/-- a kind's parts -/
structure P5 where
  intra : Bool
  quant : Bool
  vector : Bool
  filter : Bool
  coded : Bool
deriving DecidableEq
abbrev partsV (p : P5) : Value := .agg #[.bool p.intra, .bool p.quant, .bool p.vector, .bool p.filter, .bool p.coded]
def partsOf (n : Int) : P5 :=
  if n < 1 ∨ 10 < n then ⟨false, false, false, false, false⟩
  else ⟨decide (n ≤ 2), n == 2 || n == 4 || n == 7 || n == 10, decide (5 ≤ n), decide (8 ≤ n), n == 3 || n == 4 || n == 6 || n == 7 || decide (9 ≤ n)⟩
def ofE (n : Int) : Int := if n < 1 ∨ 10 < n then 18 else 0

set_option maxRecDepth 100000 in
set_option maxHeartbeats 1000000 in
theorem r5codes_any (w : World) :
    Calls Tryd.prog 44 #[] w fun e w' => e = .returned (.slice (some ⟨w.heap.size, 0, none⟩) 10 10) ∧ w' = w.alloc (.cells (strV codes5).toArray 9 (0, 0)) := by
  go_enter Tryd.func44, Tryd.ntmps44
  go_wp2_with (with_reducible refine stop_slice 67 10 _ rfl ?_; refine Hid.out ?_)
  refine Lib.hid ?_
  refine Great.wpList_buildSliceTo rfl 67 9 10 _ rfl _ rfl _ rfl Tryd.underlying67x (strV codes5).toArray (by kernel_rfl) ?_
  go_wp2
  go_ret
  exact ⟨rfl, rfl⟩

set_option maxRecDepth 100000 in
set_option maxHeartbeats 1000000 in
theorem r5tree_any (w : World) :
    Calls Tryd.prog 28 #[] w fun e w' => ∃ n₀ b, e = .returned (.pointer (some ⟨b, 0, none⟩)) ∧ IsT n₀ w' b codes5 nums5 ∧ Below w.heap.size w w' := by
  have h1 : Below w.heap.size w (w.alloc (.cells (strV codes5).toArray 9 (0, 0))) := (Below.refl _ w).alloc (Nat.le_refl _) _
  have HR := Lib.hid (rowV_new w (strV codes5) 9 10 (by simp [codes5_length]) (by decide))
  generalize hw1 : w.alloc (.cells (strV codes5).toArray 9 (0, 0)) = w1 at *
  have HW1 := Lib.hid hw1
  clear hw1
  have hs1 := h1.size
  have H1 := Lib.hid h1
  clear h1
  go_enter Tryd.func28, Tryd.ntmps28
  go_wp2_with (first
    | (go_at_call 44; refine (r5codes_any w).mono ?_; rintro e w' ⟨rfl, hw'⟩; rw [HW1.out] at hw'; have hw2 := hw'.symm; subst hw2)
    | (with_reducible refine stop_slice 40 10 _ rfl ?_; refine Hid.out ?_))
  refine Lib.hid ?_
  refine Great.wpList_buildSliceTo rfl 40 3 10 _ rfl _ rfl _ rfl Tryd.underlying40y (intV nums5).toArray (by kernel_rfl) ?_
  have HN := Lib.hid (rowV_new w1 (intV nums5) 3 10 rfl (by decide))
  have h2 : Below w1.heap.size w1 (w1.alloc (.cells (intV nums5).toArray 3 (0, 0))) := (Below.refl _ w1).alloc (Nat.le_refl _) _
  have HC := Lib.hid ((HR.out.below h2).mono4 h2.size)
  generalize w1.alloc (.cells (intV nums5).toArray 3 (0, 0)) = w2 at *
  have H2 := Lib.hid h2
  have hs2 := h2.size
  clear h2
  have HM := Lib.hid (tmake_any HC.out HN.out codes5_small)
  go_wp2_with (go_at_call 43; refine HM.out.mono ?_; rintro e w3 ⟨hb3, hm⟩; obtain ⟨_, bt, rfl, hT⟩ := hm.resolve_right (fun h => h.1 make5); have HB3 := Lib.hid hb3; have HT := Lib.hid hT; clear hb3 hT hm)
  go_ret
  exact ⟨_, bt, rfl, HT.out, (H1.out.trans (H2.out.mono hs1)).trans (HB3.out.mono (by omega))⟩

set_option maxHeartbeats 1000000 in
theorem r5get_any {n₁ : Nat} {w : World} {sv : Value} {zs : List UInt8} (hB : Byt n₁ w sv zs) (hn : n₁ ≤ w.heap.size) (hl : zs.length ≤ 1099511627776) (x : Int) (hx : x ≤ 9223372036854775807) :
    Calls Tryd.prog 11 #[sv, .int .i64 x] w fun e w' => e = .returned (getT codes5 nums5 zs x) ∧ Below w.heap.size w w' := by
  have HB := Lib.hid (fun w' (hb : Below w.heap.size w w') => hB.below (hb.mono hn))
  clear hB
  obtain ⟨g, n, e0, hg⟩ : ∃ g n e : Int, getT codes5 nums5 zs x = .tuple #[.int .i64 g, .int .i64 n, .int .i64 e] := by
    unfold getT
    split
    · exact ⟨_, _, _, rfl⟩
    · exact ⟨_, _, _, rfl⟩
  have HG := Lib.hid hg
  rw [hg]
  clear hg
  go_enter Tryd.func11, Tryd.ntmps11
  go_wp2_with fail
  refine (r5tree_any w).mono ?_
  rintro e w1 ⟨n₀, b, rfl, hT, b1⟩
  have HGt := Lib.hid (tget_any hT (HB.out _ b1) (by have := b1.size; omega) hl x hx)
  rw [HG.out] at HGt
  have HB1 := Lib.hid b1
  clear hT b1
  go_wp2_with (go_at_call 29; refine HGt.out.mono ?_; rintro e w2 ⟨rfl, b2⟩)
  go_ret3
  exact ⟨rfl, below_chain HB1.out (Nat.le_refl _) b2⟩

set_option maxHeartbeats 1000000 in
theorem r5put_any (x : Int) (w : World) :
    Calls Tryd.prog 14 #[.int .i64 x] w fun e w' => e = .returned (.tuple #[.string (putS codes5 nums5 x), .int .i64 (putE3 nums5 x)]) ∧ Below w.heap.size w w' := by
  go_enter Tryd.func14, Tryd.ntmps14
  go_wp2_with fail
  refine (r5tree_any w).mono ?_
  rintro e w1 ⟨n₀, b, rfl, hT, b1⟩
  have HP := Lib.hid (tput_any hT x)
  have HB1 := Lib.hid b1
  clear hT b1
  go_wp2_with (go_at_call 32; refine HP.out.mono ?_; rintro e w2 ⟨rfl, rfl⟩)
  go_ret2
  exact ⟨rfl, HB1.out⟩

set_option maxRecDepth 100000 in
set_option maxHeartbeats 4000000 in
theorem r5of_any (n : Int) (w : World) :
    Calls Tryd.prog 16 #[.int .i64 n] w fun e w' => e = .returned (.tuple #[partsV (partsOf n), .int .i64 (ofE n)]) ∧ Below w.heap.size w w' := by
  by_cases h : n < 1 ∨ 10 < n
  · unfold partsOf ofE
    rw [if_pos h, if_pos h]
    by_cases h1 : n < 1
    · clear h
      go_enter Tryd.func16, Tryd.ntmps16
      go_wp2
      exact bodyPost_ret (v := .tuple #[partsV ⟨false, false, false, false, false⟩, .int .i64 18]) (by simp [results, Tryd.f16, go_sem]) rfl ⟨rfl, (Below.refl _ w).alloc (Nat.le_refl _) _⟩
    · have h2 : 10 < n := by omega
      clear h
      go_enter Tryd.func16, Tryd.ntmps16
      go_wp2
      exact bodyPost_ret (v := .tuple #[partsV ⟨false, false, false, false, false⟩, .int .i64 18]) (by simp [results, Tryd.f16, go_sem]) rfl ⟨rfl, (Below.refl _ w).alloc (Nat.le_refl _) _⟩
  · have h10 : n = 1 ∨ n = 2 ∨ n = 3 ∨ n = 4 ∨ n = 5 ∨ n = 6 ∨ n = 7 ∨ n = 8 ∨ n = 9 ∨ n = 10 := by omega
    clear h
    rcases h10 with rfl | rfl | rfl | rfl | rfl | rfl | rfl | rfl | rfl | rfl
    · go_enter Tryd.func16, Tryd.ntmps16
      go_wp2
      refine bodyPost_ret (v := .tuple #[partsV (partsOf 1), .int .i64 (ofE 1)]) ?_ rfl ⟨rfl, ((Below.refl _ w).alloc (Nat.le_refl _) _).alloc (by simp) _⟩
      simp [results, Tryd.f16, go_sem, show partsOf 1 = ⟨true, false, false, false, false⟩ by decide, show ofE 1 = 0 by decide]
    · go_enter Tryd.func16, Tryd.ntmps16
      go_wp2
      refine bodyPost_ret (v := .tuple #[partsV (partsOf 2), .int .i64 (ofE 2)]) ?_ rfl ⟨rfl, ((Below.refl _ w).alloc (Nat.le_refl _) _).alloc (by simp) _⟩
      simp [results, Tryd.f16, go_sem, show partsOf 2 = ⟨true, true, false, false, false⟩ by decide, show ofE 2 = 0 by decide]
    · go_enter Tryd.func16, Tryd.ntmps16
      go_wp2
      refine bodyPost_ret (v := .tuple #[partsV (partsOf 3), .int .i64 (ofE 3)]) ?_ rfl ⟨rfl, ((Below.refl _ w).alloc (Nat.le_refl _) _).alloc (by simp) _⟩
      simp [results, Tryd.f16, go_sem, show partsOf 3 = ⟨false, false, false, false, true⟩ by decide, show ofE 3 = 0 by decide]
    · go_enter Tryd.func16, Tryd.ntmps16
      go_wp2
      refine bodyPost_ret (v := .tuple #[partsV (partsOf 4), .int .i64 (ofE 4)]) ?_ rfl ⟨rfl, ((Below.refl _ w).alloc (Nat.le_refl _) _).alloc (by simp) _⟩
      simp [results, Tryd.f16, go_sem, show partsOf 4 = ⟨false, true, false, false, true⟩ by decide, show ofE 4 = 0 by decide]
    · go_enter Tryd.func16, Tryd.ntmps16
      go_wp2
      refine bodyPost_ret (v := .tuple #[partsV (partsOf 5), .int .i64 (ofE 5)]) ?_ rfl ⟨rfl, ((Below.refl _ w).alloc (Nat.le_refl _) _).alloc (by simp) _⟩
      simp [results, Tryd.f16, go_sem, show partsOf 5 = ⟨false, false, true, false, false⟩ by decide, show ofE 5 = 0 by decide]
    · go_enter Tryd.func16, Tryd.ntmps16
      go_wp2
      refine bodyPost_ret (v := .tuple #[partsV (partsOf 6), .int .i64 (ofE 6)]) ?_ rfl ⟨rfl, ((Below.refl _ w).alloc (Nat.le_refl _) _).alloc (by simp) _⟩
      simp [results, Tryd.f16, go_sem, show partsOf 6 = ⟨false, false, true, false, true⟩ by decide, show ofE 6 = 0 by decide]
    · go_enter Tryd.func16, Tryd.ntmps16
      go_wp2
      refine bodyPost_ret (v := .tuple #[partsV (partsOf 7), .int .i64 (ofE 7)]) ?_ rfl ⟨rfl, ((Below.refl _ w).alloc (Nat.le_refl _) _).alloc (by simp) _⟩
      simp [results, Tryd.f16, go_sem, show partsOf 7 = ⟨false, true, true, false, true⟩ by decide, show ofE 7 = 0 by decide]
    · go_enter Tryd.func16, Tryd.ntmps16
      go_wp2
      refine bodyPost_ret (v := .tuple #[partsV (partsOf 8), .int .i64 (ofE 8)]) ?_ rfl ⟨rfl, ((Below.refl _ w).alloc (Nat.le_refl _) _).alloc (by simp) _⟩
      simp [results, Tryd.f16, go_sem, show partsOf 8 = ⟨false, false, true, true, false⟩ by decide, show ofE 8 = 0 by decide]
    · go_enter Tryd.func16, Tryd.ntmps16
      go_wp2
      refine bodyPost_ret (v := .tuple #[partsV (partsOf 9), .int .i64 (ofE 9)]) ?_ rfl ⟨rfl, ((Below.refl _ w).alloc (Nat.le_refl _) _).alloc (by simp) _⟩
      simp [results, Tryd.f16, go_sem, show partsOf 9 = ⟨false, false, true, true, true⟩ by decide, show ofE 9 = 0 by decide]
    · go_enter Tryd.func16, Tryd.ntmps16
      go_wp2
      refine bodyPost_ret (v := .tuple #[partsV (partsOf 10), .int .i64 (ofE 10)]) ?_ rfl ⟨rfl, ((Below.refl _ w).alloc (Nat.le_refl _) _).alloc (by simp) _⟩
      simp [results, Tryd.f16, go_sem, show partsOf 10 = ⟨false, true, true, true, true⟩ by decide, show ofE 10 = 0 by decide]

end Go.Proofs.YtjjlciiijojfiaaDoor

/- What kind's functions must answer, as one record; the laws' helpers gets, puts, has, awake (praxinoscopelaw05); the walks of KindReads, KindTells, KindKnown, KindParts. -/
namespace Go.Proofs.YtjjlciiijojfiaaDoor
open Go.RowKit Go.Shelf
set_option linter.unusedVariables false

theorem parts_eq_all (w : World) : ∀ a b c d e a' b' c' d' e' : Bool, (binOp .eql 33 (partsV ⟨a, b, c, d, e⟩) (partsV ⟨a', b', c', d', e'⟩)).run Tryd.prog w = .ok (.bool (decide ((⟨a, b, c, d, e⟩ : P5) = ⟨a', b', c', d', e'⟩))) w := by
  intro a b c d e a' b' c' d' e'
  cases a <;> cases a' <;> cases b <;> cases b' <;> cases c <;> cases c' <;> cases d <;> cases d' <;> cases e <;> cases e' <;> kernel_rfl
theorem parts_eq (p q : P5) (w : World) : (binOp .eql 33 (partsV p) (partsV q)).run Tryd.prog w = .ok (.bool (decide (p = q))) w := by
  obtain ⟨a, b, c, d, e⟩ := p
  obtain ⟨a', b', c', d', e'⟩ := q
  exact parts_eq_all w a b c d e a' b' c' d' e'

abbrev partsO (p : P5) : Obj := .cells #[.bool p.intra, .bool p.quant, .bool p.vector, .bool p.filter, .bool p.coded] 33 (0, 0)
theorem five_cells {w : World} {g : Nat} {p : P5} (h : w.heap[g]? = some (partsO p)) :
    w.cell? ⟨g, 0, none⟩ = some (.bool p.intra) ∧ w.cell? ⟨g, 1, none⟩ = some (.bool p.quant) ∧ w.cell? ⟨g, 2, none⟩ = some (.bool p.vector) ∧ w.cell? ⟨g, 3, none⟩ = some (.bool p.filter) ∧ w.cell? ⟨g, 4, none⟩ = some (.bool p.coded) := by
  simp [World.cell?, h]
/-- what kind's functions must answer -/
structure KindI : Prop where
  get : ∀ {n₁ : Nat} {w : World} {sv : Value} {zs : List UInt8}, Byt n₁ w sv zs → n₁ ≤ w.heap.size → zs.length ≤ 1099511627776 → ∀ x : Int, x ≤ 9223372036854775807 →
    Calls Tryd.prog 10 #[sv, .int .i64 x] w fun e w' => e = .returned (getT codes5 nums5 zs x) ∧ Below w.heap.size w w'
  put : ∀ (n : Int) (w : World), -9223372036854775808 ≤ n → n ≤ 9223372036854775807 → Calls Tryd.prog 13 #[.int .i64 n] w fun e w' => e = .returned (.tuple #[.string (putS codes5 nums5 n), .int .i64 (putE3 nums5 n)]) ∧ Below w.heap.size w w'
  of : ∀ (n : Int) (w : World), -9223372036854775808 ≤ n → n ≤ 9223372036854775807 → Calls Tryd.prog 15 #[.int .i64 n] w fun e w' => e = .returned (.tuple #[partsV (partsOf n), .int .i64 (ofE n)]) ∧ Below w.heap.size w w'

set_option maxHeartbeats 1000000 in
theorem gets5_lit (I : KindI) (W : World) (zs : List UInt8) (cs : Array Value) (len cap : Nat) (hcs : cs = (zs.map fun z => Value.int .u8 z.toNat).toArray) (hlen : zs.length = len) (want size err : Int) (hl : len ≤ 1000)
    (h : getT codes5 nums5 zs 0 = .tuple #[.int .i64 want, .int .i64 size, .int .i64 err]) (t : TypeId) :
    Calls Tryd.prog 17 #[.int .i64 want, .int .i64 size, .int .i64 err, .slice (some ⟨W.heap.size, 0, none⟩) len cap] (W.alloc (.cells cs t)) fun e w' => e = .returned (.bool true) ∧ Below W.heap.size W w' := by
  subst hlen
  have HG := Lib.hid (I.get (byt_new W zs cs cap hcs (by omega) (W.heap.size + 1) (by omega) t) (by simp) (by omega) 0 (by omega))
  rw [h] at HG
  have hb : Below W.heap.size W (W.alloc (.cells cs t)) := (Below.refl _ _).alloc (Nat.le_refl _) _
  generalize W.alloc (.cells cs t) = W1 at *
  have HB := Lib.hid hb
  clear h hb hcs
  go_enter Tryd.func17, Tryd.ntmps17
  go_wp2_with (go_at_call 10; refine HG.out.mono ?_; rintro e w' ⟨rfl, hb2⟩)
  go_ret
  exact ⟨rfl, below_chain HB.out (Nat.le_refl _) hb2⟩
set_option maxHeartbeats 1000000 in
theorem puts5_lit (I : KindI) (n : Int) (want : ByteArray) (err : Int) (h1 : putS codes5 nums5 n = want) (h2 : putE3 nums5 n = err) (hn : 0 ≤ n) (hn2 : n ≤ 1000) (w : World) :
    Calls Tryd.prog 18 #[.int .i64 n, .string want, .int .i64 err] w fun e w' => e = .returned (.bool true) ∧ Below w.heap.size w w' := by
  have HG := Lib.hid (I.put n w (by omega) (by omega))
  rw [h1, h2] at HG
  clear h1 h2
  go_enter Tryd.func18, Tryd.ntmps18
  go_wp2_with (go_at_call 13; refine HG.out.mono ?_; rintro e w' ⟨rfl, hb2⟩)
  go_ret
  exact ⟨rfl, hb2⟩
set_option maxHeartbeats 1000000 in
theorem has5_lit (I : KindI) (n : Int) (p : P5) (h1 : partsOf n = p) (h2 : ofE n = 0) (hn : 0 ≤ n) (hn2 : n ≤ 1000) (w : World) :
    Calls Tryd.prog 19 #[.int .i64 n, partsV p] w fun e w' => e = .returned (.bool true) ∧ Below w.heap.size w w' := by
  have HG := Lib.hid (fun w => I.of n w (by omega) (by omega))
  rw [h1, h2] at HG
  clear h1 h2
  have heq := fun W => parts_eq p p W
  obtain ⟨a, b, c, d, e⟩ := p
  have hd : decide ((⟨a, b, c, d, e⟩ : P5) = ⟨a, b, c, d, e⟩) = true := by simp
  rw [hd] at heq
  clear hd
  go_enter Tryd.func19, Tryd.ntmps19
  go_wp2_with (go_at_call 15; refine (HG.out _).mono ?_; rintro e w' ⟨rfl, hb2⟩; have HB2 := Lib.hid hb2; have hlt : w.heap.size < w'.heap.size := by { have := hb2.size; simp at this; omega }; have hbx : w'.heap[w.heap.size]? = some (partsO ⟨a, b, c, d, e⟩) := (hb2.block w.heap.size (by simp)).trans (World.alloc_heap_new _ _); obtain ⟨c0, c1, c2, c3, c4⟩ := five_cells hbx; clear hb2 hbx)
  go_ret
  exact ⟨rfl, (((Below.refl _ w).alloc (Nat.le_refl _) _).trans (HB2.out.mono (by simp))).alloc (by omega) _⟩

end Go.Proofs.YtjjlciiijojfiaaDoor

/- awake (praxinoscopelaw05); the walks of KindReads, KindTells, KindKnown. -/
namespace Go.Proofs.YtjjlciiijojfiaaDoor
open Go.RowKit Go.Shelf
set_option linter.unusedVariables false

set_option maxHeartbeats 1000000 in
theorem awake5_any (I : KindI) (w : World) : Calls Tryd.prog 8 #[] w fun e w' => e = .returned (.bool true) ∧ Below w.heap.size w w' := by
  go_enter Tryd.func8, Tryd.ntmps8
  go_wp2_with fail
  refine (gets5_lit I w [128] _ 1 1 (by rfl) rfl 3 1 0 (by omega) (by kernel_rfl) _).mono ?_
  rintro e w1 ⟨rfl, b1⟩
  go_wp2_with fail
  refine (gets5_lit I w1 [16] _ 1 1 (by rfl) rfl 1 4 0 (by omega) (by kernel_rfl) _).mono ?_
  rintro e w2 ⟨rfl, b2⟩
  have B2 := Lib.hid (below_chain b1 (Nat.le_refl _) b2)
  clear b1 b2
  go_wp2_with fail
  refine (puts5_lit I 9 _ 0 (by decide +kernel) (by decide +kernel) (by omega) (by omega) w2).mono ?_
  rintro e w3 ⟨rfl, b3⟩
  have B3 := Lib.hid (below_chain B2.out (Nat.le_refl _) b3)
  clear b3
  go_wp2_with fail
  refine (has5_lit I 1 ⟨true, false, false, false, false⟩ (by decide +kernel) (by decide +kernel) (by omega) (by omega) w3).mono ?_
  rintro e w4 ⟨rfl, b4⟩
  go_wp2
  go_ret
  exact ⟨rfl, below_chain B3.out (Nat.le_refl _) b4⟩

set_option maxRecDepth 100000 in
set_option maxHeartbeats 2000000 in
theorem known5_any (I : KindI) (w : World) : Calls Tryd.prog 5 #[] w fun e w' => e = .returned (.bool true) ∧ Below w.heap.size w w' := by
  go_enter Tryd.func5, Tryd.ntmps5
  go_wp2_with fail
  refine (awake5_any I w).mono ?_
  rintro e w1 ⟨rfl, b1⟩
  go_wp2_with fail
  refine (gets5_lit I w1 [0, 64] _ 2 2 (by rfl) rfl 7 10 0 (by omega) (by kernel_rfl) _).mono ?_
  rintro e w2 ⟨rfl, b2⟩
  have B2 := Lib.hid (below_chain b1 (Nat.le_refl _) b2)
  clear b1 b2
  go_wp2_with fail
  refine (gets5_lit I w2 [0] _ 1 1 (by rfl) rfl 0 0 5 (by omega) (by kernel_rfl) _).mono ?_
  rintro e w3 ⟨rfl, b3⟩
  have B3 := Lib.hid (below_chain B2.out (Nat.le_refl _) b3)
  clear b3
  go_wp2_with fail
  refine (gets5_lit I w3 [0, 0] _ 2 2 (by rfl) rfl 0 0 7 (by omega) (by kernel_rfl) _).mono ?_
  rintro e w4 ⟨rfl, b4⟩
  have B4 := Lib.hid (below_chain B3.out (Nat.le_refl _) b4)
  clear b4
  go_wp2_with fail
  refine (puts5_lit I 0 _ 18 (by decide +kernel) (by decide +kernel) (by omega) (by omega) w4).mono ?_
  rintro e w5 ⟨rfl, b5⟩
  have B5 := Lib.hid (below_chain B4.out (Nat.le_refl _) b5)
  clear b5
  go_wp2_with fail
  refine (puts5_lit I 11 _ 18 (by decide +kernel) (by decide +kernel) (by omega) (by omega) w5).mono ?_
  rintro e w6 ⟨rfl, b6⟩
  have B6 := Lib.hid (below_chain B5.out (Nat.le_refl _) b6)
  clear b6
  go_wp2_with fail
  refine (has5_lit I 10 ⟨false, true, true, true, true⟩ (by decide +kernel) (by decide +kernel) (by omega) (by omega) w6).mono ?_
  rintro e w7 ⟨rfl, b7⟩
  go_wp2
  go_ret
  exact ⟨rfl, below_chain B6.out (Nat.le_refl _) b7⟩

set_option maxRecDepth 100000 in
set_option maxHeartbeats 2000000 in
theorem kindReads_walk (I : KindI) {a : Option Addr} {len cap : Nat} {zs : List UInt8} {w : World} (hR : Row8 w.heap.size w a len cap zs) (x : Int) (hx : x ≤ 9223372036854775807) :
    Calls Tryd.prog 3 #[.slice a len cap, .int .i64 x] w fun e w' => e = .returned (.bool true) ∧ Below w.heap.size w w' := by
  by_cases h : 100 < len
  · clear hR
    go_enter Tryd.func3, Tryd.ntmps3
    go_wp2_with (go_at_call 8; refine (awake5_any I w).mono ?_; rintro e w' ⟨rfl, b3⟩)
    go_ret
    exact ⟨rfl, b3⟩
  · have hl := hR.1
    subst hl
    have HSrc : Hid (Src w a zs.length (u8s zs)) := by
      have h := hR.src (n := zs.length) (Nat.le_refl _)
      rw [List.take_length] at h
      exact h
    have HB : Hid (∀ w', Below w.heap.size w w' → Byt w.heap.size w' (.slice a zs.length cap) zs) := fun w' hb => by
      have h := hR.byt (Nat.le_refl _) (k := zs.length) (Nat.le_refl _) (by omega)
      rw [List.take_length] at h
      exact h.below hb
    have HNc := Lib.hid hR.nocap
    obtain ⟨g, n, e0, hg⟩ : ∃ g n e : Int, getT codes5 nums5 zs x = .tuple #[.int .i64 g, .int .i64 n, .int .i64 e] := by
      unfold getT
      split
      · exact ⟨_, _, _, rfl⟩
      · exact ⟨_, _, _, rfl⟩
    have HGt := Lib.hid hg
    clear hR hg
    go_enter Tryd.func3, Tryd.ntmps3
    go_wp2_with fail
    refine (lent_any HSrc.out HNc.out (by omega)).mono ?_
    rintro e w1 ⟨vi, rfl, hLe, b1⟩
    have HLe := Lib.hid hLe
    have HB1 := Lib.hid b1
    have HG := Lib.hid (I.get (hLe.byt (by omega)) (Nat.le_refl _) (by omega) x hx)
    rw [HGt.out] at HG
    clear hLe b1
    go_wp2_with fail
    refine HG.out.mono ?_
    rintro e w2 ⟨rfl, b2⟩
    have HB2 := Lib.hid (below_chain HB1.out (Nat.le_refl _) b2)
    have HLe2 := Lib.hid (HLe.out.bar (bar_of_below (S := fun _ => False) b2) (fun _ _ e => e))
    clear b2
    have HG2 := Lib.hid (r5get_any (HB.out w2 HB2.out) HB2.out.size (by omega) x hx)
    rw [HGt.out] at HG2
    go_wp2_with fail
    refine HG2.out.mono ?_
    rintro e w3 ⟨rfl, b3⟩
    have HB3 := Lib.hid (below_chain HB2.out (Nat.le_refl _) b3)
    have HLe3 := Lib.hid (HLe2.out.bar (bar_of_below (S := fun _ => False) b3) (fun _ _ e => e))
    clear b3
    go_wp2_with fail
    refine (kept_any HLe3.out (HB.out w3 HB3.out) (by omega)).mono ?_
    rintro e w4 ⟨rfl, b4⟩
    have HB4 := Lib.hid (below_chain HB3.out (Nat.le_refl _) b4)
    clear b4
    go_wp2_with (go_at_call 8; refine (awake5_any I w4).mono ?_; rintro e w' ⟨rfl, b5⟩)
    go_ret
    exact ⟨rfl, below_chain HB4.out (Nat.le_refl _) b5⟩

set_option maxRecDepth 100000 in
set_option maxHeartbeats 2000000 in
theorem kindTells_walk (I : KindI) (n : Int) (hn1 : -9223372036854775808 ≤ n) (hn2 : n ≤ 9223372036854775807) (w : World) :
    Calls Tryd.prog 4 #[.int .i64 n] w fun e w' => e = .returned (.bool true) ∧ Below w.heap.size w w' := by
  have HP := Lib.hid (fun w => I.put n w hn1 hn2)
  have HR := Lib.hid (fun w => r5put_any n w)
  have HO := Lib.hid (fun w => I.of n w hn1 hn2)
  have HQ := Lib.hid (fun w => r5of_any n w)
  have heq := fun W => parts_eq (partsOf n) (partsOf n) W
  have hd : decide (partsOf n = partsOf n) = true := by simp
  rw [hd] at heq
  clear hd hn1 hn2
  generalize putS codes5 nums5 n = s at *
  generalize putE3 nums5 n = f at *
  generalize ofE n = h at *
  generalize partsOf n = p at *
  obtain ⟨a, b, c, d, q⟩ := p
  go_enter Tryd.func4, Tryd.ntmps4
  go_wp2_with fail
  refine (HP.out w).mono ?_
  rintro e w1 ⟨rfl, b1⟩
  go_wp2_with fail
  refine (HR.out w1).mono ?_
  rintro e w2 ⟨rfl, b2⟩
  have B2 := Lib.hid (below_chain b1 (Nat.le_refl _) b2)
  clear b1 b2
  go_wp2_with fail
  refine (HO.out w2).mono ?_
  rintro e w3 ⟨rfl, b3⟩
  have B3 := Lib.hid (below_chain B2.out (Nat.le_refl _) b3)
  have hs3 := B3.out.size
  clear b3
  have b4' : Below w.heap.size w (w3.alloc (partsO ⟨a, b, c, d, q⟩)) := B3.out.alloc hs3 _
  have hbx4 := World.alloc_heap_new w3 (partsO ⟨a, b, c, d, q⟩)
  have HX4 := Lib.hid hbx4
  have B4 := Lib.hid b4'
  clear b4' hbx4
  go_wp2_with fail
  refine (HQ.out _).mono ?_
  rintro e w5 ⟨rfl, b5⟩
  have B5 := Lib.hid (below_chain B4.out (Nat.le_refl _) b5)
  have hlt : w3.heap.size < w5.heap.size := by have := b5.size; simp at this; omega
  have hbx5 : w5.heap[w3.heap.size]? = some (partsO ⟨a, b, c, d, q⟩) := (b5.block w3.heap.size (by simp)).trans HX4.out
  obtain ⟨c0, c1, c2, c3, c4⟩ := five_cells hbx5
  have hs5 := B5.out.size
  have B6 : Below w.heap.size w (w5.alloc (partsO ⟨a, b, c, d, q⟩)) := B5.out.alloc hs5 _
  have HB6 := Lib.hid B6
  clear b5 hbx5 B6
  go_wp2_with (go_at_call 8; refine (awake5_any I _).mono ?_; rintro e w' ⟨rfl, b7⟩)
  go_ret
  exact ⟨rfl, below_chain HB6.out (Nat.le_refl _) b7⟩

end Go.Proofs.YtjjlciiijojfiaaDoor

/- The walk of KindParts. -/
namespace Go.Proofs.YtjjlciiijojfiaaDoor
open Go.RowKit Go.Shelf
set_option linter.unusedVariables false

theorem ten {n : Int} (h : ¬ (n < 1 ∨ 10 < n)) : n = 1 ∨ n = 2 ∨ n = 3 ∨ n = 4 ∨ n = 5 ∨ n = 6 ∨ n = 7 ∨ n = 8 ∨ n = 9 ∨ n = 10 := by omega
theorem putE5 (n : Int) : putE3 nums5 n = ofE n := by
  by_cases h : n < 1 ∨ 10 < n
  · unfold ofE
    rw [if_pos h]
    have hI : putI nums5 n = none := by
      unfold putI
      rw [List.findIdx?_eq_none_iff]
      intro y hy
      simp [nums5] at hy
      rw [beq_eq_false_iff_ne]
      omega
    unfold putE3
    rw [hI]
  · rcases ten h with rfl | rfl | rfl | rfl | rfl | rfl | rfl | rfl | rfl | rfl <;> decide
theorem kinds_apart : ∀ a ∈ nums5, ∀ b ∈ nums5, a ≠ b → partsOf a ≠ partsOf b ∧ (putS codes5 nums5 a).data.toList ≠ (putS codes5 nums5 b).data.toList := by decide +kernel
theorem mem5 {n : Int} (h : ¬ (n < 1 ∨ 10 < n)) : n ∈ nums5 := by
  rcases ten h with rfl | rfl | rfl | rfl | rfl | rfl | rfl | rfl | rfl | rfl <;> decide
theorem parts_ten {n : Int} (h : ¬ (n < 1 ∨ 10 < n)) : partsOf n = ⟨true, false, false, false, false⟩ ∨ partsOf n = ⟨true, true, false, false, false⟩ ∨ partsOf n = ⟨false, false, false, false, true⟩ ∨ partsOf n = ⟨false, true, false, false, true⟩ ∨ partsOf n = ⟨false, false, true, false, false⟩ ∨
    partsOf n = ⟨false, false, true, false, true⟩ ∨ partsOf n = ⟨false, true, true, false, true⟩ ∨ partsOf n = ⟨false, false, true, true, false⟩ ∨ partsOf n = ⟨false, false, true, true, true⟩ ∨ partsOf n = ⟨false, true, true, true, true⟩ := by
  rcases ten h with rfl | rfl | rfl | rfl | rfl | rfl | rfl | rfl | rfl | rfl <;> decide

set_option maxRecDepth 100000 in
set_option maxHeartbeats 4000000 in
theorem kindParts_walk (I : KindI) (a b : Int) (ha1 : -9223372036854775808 ≤ a) (ha2 : a ≤ 9223372036854775807) (hb1 : -9223372036854775808 ≤ b) (hb2 : b ≤ 9223372036854775807) (w : World) :
    Calls Tryd.prog 7 #[.int .i64 a, .int .i64 b] w fun e w' => e = .returned (.bool true) ∧ Below w.heap.size w w' := by
  have HP := Lib.hid (fun w => I.of a w ha1 ha2)
  have HQ := Lib.hid (fun w => I.of b w hb1 hb2)
  have HS := Lib.hid (fun w => I.put a w ha1 ha2)
  have HT := Lib.hid (fun w => I.put b w hb1 hb2)
  rw [putE5] at HS HT
  obtain ⟨p, hp⟩ : ∃ p, p = partsOf a := ⟨_, rfl⟩
  obtain ⟨q, hq⟩ : ∃ q, q = partsOf b := ⟨_, rfl⟩
  obtain ⟨s, hs⟩ : ∃ s, s = putS codes5 nums5 a := ⟨_, rfl⟩
  obtain ⟨t, ht⟩ : ∃ t, t = putS codes5 nums5 b := ⟨_, rfl⟩
  rw [← hp] at HP
  rw [← hq] at HQ
  rw [← hs] at HS
  rw [← ht] at HT
  have HpA := Lib.hid hp
  have HqB := Lib.hid hq
  have HsA := Lib.hid hs
  have HtB := Lib.hid ht
  clear hp hq hs ht
  obtain ⟨p1, p2, p3, p4, p5⟩ := p
  obtain ⟨q1, q2, q3, q4, q5⟩ := q
  go_enter Tryd.func7, Tryd.ntmps7
  go_wp2_with fail
  refine (awake5_any I w).mono ?_
  rintro e w1 ⟨rfl, b1⟩
  go_wp2_with fail
  refine (HP.out w1).mono ?_
  rintro e w2 ⟨rfl, b2⟩
  have B2 := below_chain b1 (Nat.le_refl _) b2
  have hx3 := World.alloc_heap_new w2 (partsO ⟨p1, p2, p3, p4, p5⟩)
  have B3 : Below w.heap.size w (w2.alloc (partsO ⟨p1, p2, p3, p4, p5⟩)) := B2.alloc B2.size _
  have HX3 := Lib.hid hx3
  have HB3 := Lib.hid B3
  clear b1 b2 hx3 B2 B3
  go_wp2_with fail
  refine (HQ.out _).mono ?_
  rintro e w4 ⟨rfl, b4⟩
  have hlt4 : w2.heap.size < w4.heap.size := by have := b4.size; simp at this; omega
  have hx4 : w4.heap[w2.heap.size]? = some (partsO ⟨p1, p2, p3, p4, p5⟩) := (b4.block w2.heap.size (by simp)).trans HX3.out
  have HX4 := Lib.hid hx4
  have B4 := below_chain HB3.out (Nat.le_refl _) b4
  have B5 : Below w.heap.size w (w4.alloc (partsO ⟨q1, q2, q3, q4, q5⟩)) := B4.alloc B4.size _
  have HB5 := Lib.hid B5
  have hy5 := World.alloc_heap_new w4 (partsO ⟨q1, q2, q3, q4, q5⟩)
  have HY5 := Lib.hid hy5
  clear b4 hx4 B4 B5 hy5
  go_wp2_with fail
  refine (HS.out _).mono ?_
  rintro e w6 ⟨rfl, b6⟩
  have hlt6 : w4.heap.size < w6.heap.size := by have := b6.size; simp at this; omega
  have hx6 : w6.heap[w2.heap.size]? = some (partsO ⟨p1, p2, p3, p4, p5⟩) := (b6.block w2.heap.size (by simp; omega)).trans ((Lib.alloc_old w4 _ _ hlt4).trans HX4.out)
  have hy6 : w6.heap[w4.heap.size]? = some (partsO ⟨q1, q2, q3, q4, q5⟩) := (b6.block w4.heap.size (by simp)).trans HY5.out
  have HX6 := Lib.hid hx6
  have HY6 := Lib.hid hy6
  have HB6 := Lib.hid (below_chain HB5.out (Nat.le_refl _) b6)
  clear b6 hx6 hy6
  go_wp2_with fail
  refine (HT.out _).mono ?_
  rintro e w7 ⟨rfl, b7⟩
  have hlt7 : w4.heap.size < w7.heap.size := by have := b7.size; omega
  have hx7 : w7.heap[w2.heap.size]? = some (partsO ⟨p1, p2, p3, p4, p5⟩) := (b7.block w2.heap.size (by omega)).trans HX6.out
  have hy7 : w7.heap[w4.heap.size]? = some (partsO ⟨q1, q2, q3, q4, q5⟩) := (b7.block w4.heap.size (by omega)).trans HY6.out
  have HB7 := Lib.hid (below_chain HB6.out (Nat.le_refl _) b7)
  obtain ⟨c0, c1, c2, c3, c4⟩ := five_cells hx7
  obtain ⟨d0, d1, d2, d3, d4⟩ := five_cells hy7
  clear b7 hx7 hy7
  by_cases ha : a < 1 ∨ 10 < a
  · have e1 : ofE a = 18 := by unfold ofE; rw [if_pos ha]
    by_cases ha3 : a < 1
    · clear ha
      go_wp2
      go_ret
      exact ⟨rfl, HB7.out⟩
    · have ha4 : 10 < a := by omega
      clear ha
      go_wp2
      go_ret
      exact ⟨rfl, HB7.out⟩
  · have e1 : ofE a = 0 := by unfold ofE; rw [if_neg ha]
    have ha3 : 1 ≤ a := by omega
    have ha4 : a ≤ 10 := by omega
    by_cases hb : b < 1 ∨ 10 < b
    · have e2 : ofE b = 18 := by unfold ofE; rw [if_pos hb]
      clear ha hb
      go_wp2
      go_ret
      exact ⟨rfl, HB7.out⟩
    · have e2 : ofE b = 0 := by unfold ofE; rw [if_neg hb]
      have hten := parts_ten ha
      rw [← HpA.out] at hten
      by_cases hab : a = b
      · subst hab
        have hq := HqB.out.trans HpA.out.symm
        have ht := HtB.out.trans HsA.out.symm
        simp only [P5.mk.injEq] at hq
        obtain ⟨rfl, rfl, rfl, rfl, rfl⟩ := hq
        subst ht
        have heq := fun W => parts_eq ⟨q1, q2, q3, q4, q5⟩ ⟨q1, q2, q3, q4, q5⟩ W
        have hd : decide ((⟨q1, q2, q3, q4, q5⟩ : P5) = ⟨q1, q2, q3, q4, q5⟩) = true := by simp
        rw [hd] at heq
        clear hd ha hb
        rcases hten with h | h | h | h | h | h | h | h | h | h
        all_goals
          simp only [P5.mk.injEq] at h
          obtain ⟨rfl, rfl, rfl, rfl, rfl⟩ := h
          go_wp2
          go_ret
          exact ⟨rfl, HB7.out⟩
      · obtain ⟨n1, n2⟩ := kinds_apart a (mem5 ha) b (mem5 hb) hab
        rw [← HpA.out, ← HqB.out] at n1
        rw [← HsA.out, ← HtB.out] at n2
        have heq := fun W => parts_eq ⟨p1, p2, p3, p4, p5⟩ ⟨q1, q2, q3, q4, q5⟩ W
        rw [decide_eq_false n1] at heq
        have t1 : (a == b) = false := by rw [beq_eq_false_iff_ne]; exact hab
        have t2 : (s.toList == t.toList) = false := Bool.eq_false_iff.2 (fun h => n2 (by rw [(str_eq_iff _ _).1 h]))
        clear ha hb n1 n2 hab
        rcases hten with h | h | h | h | h | h | h | h | h | h
        all_goals
          simp only [P5.mk.injEq] at h
          obtain ⟨rfl, rfl, rfl, rfl, rfl⟩ := h
          go_wp2
          go_ret
          exact ⟨rfl, HB7.out⟩

end Go.Proofs.YtjjlciiijojfiaaDoor
