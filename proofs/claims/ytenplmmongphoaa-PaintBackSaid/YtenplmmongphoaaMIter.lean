/- A range over a func whose iterator itself ranges over a func, where the rounds lay rows: the blocks that the iterator moves are told by where it starts. motion: the places of a square, handed over till one lies outside. -/
import Derived.Test.YtenplmmongphoaaMPlain
import Derived.Test.YtenplmmongphoaaSeqM
import Derived.RangeFuncNested
namespace Go.Proofs.Ytenplmmongphoaa
open Go.RowKit Go.Shelf
set_option linter.unusedVariables false

/-- an iterator hands over N things, and no round leaves; S: the blocks that it moves (it is told where its own blocks begin); Kp: what a round keeps -/
def SeqD (F : Fence) (n : Nat) (P : Program) (g : Nat) (lb : Array Value) (encs : Nat → Array Value) (S : Nat → Prop) (Kp : World → World → Prop) (N h c : Nat) (w : World) : Prop :=
  ∀ (l : Nat) (J : Nat → World → Prop) (W : World), Below w.heap.size w W → W.heap.size = h → (∀ s A B, J s A → Bar S A B → J s B) →
    (∀ x W1, J x W1 → h + c ≤ W1.heap.size → x < N → YieldAt F (n - 1) P l (encs x) W1 fun e W' => e = .returned (.bool true) ∧ J (x + 1) W' ∧ Kp W1 W') →
    J 0 W →
    CallsIn F n P g (#[.func (.yield l) #[] #[]] ++ lb) W fun e W' => (∃ v, e = .returned v) ∧ J N W'

/-- a round goes to its end -/
def postD (D : Nat) (Kp : World → World → Prop) (I : Nat → World → Prop) (x : Nat) (W : World) : Exit → Act → World → Prop
  | .normal, _, W' => Keep2 D W W' ∧ Kp W W' ∧ I (x + 1) W'
  | _, _, _ => False

section
variable {F : Fence} {n : Nat} {P : Program}
theorem wpIn_range_D {g : Operand} {ps : Array Tmp} {assign body : Code} {Q : Exit → Act → World → Prop} {a : Act} {w : World}
    (hro : F.round = none) (h1 : 1 ≤ n) {gf : Nat} {lb : Array Value} (hg : a.eval g = .func (.func gf) #[] lb) (hFg : F.fn gf) (eg : ∀ args w, (callFunc gf args).run P w = .ok (.enter gf args) w)
    {encs : Nat → Array Value} {S : Nat → Prop} {Kp : World → World → Prop} {N c : Nat} {w0 : World} (hseq : SeqD F (n - 1) P gf lb encs S Kp N (w.heap.size + 2) c w0)
    (hSa : ¬ S w.heap.size) (hSb : ¬ S (w.heap.size + 1))
    (hKt : ∀ {A B C : World}, Kp A B → Kp B C → Kp A C) (hKb : ∀ (W : World) (o' : Obj), w.heap.size + 2 ≤ W.heap.size → Kp W (W.putObj (w.heap.size + 1) o')) (hb0 : Below w0.heap.size w0 w) (hps : ∀ x, (encs x).size = ps.size)
    (I : Nat → World → Prop) (hI : ∀ s A B, I s A → Bar (fun k => S k ∨ k = w.heap.size + 1) A B → I s B) (h0 : ∀ W, Bar (fun _ => False) w W → I 0 W)
    (hround : ∀ (x : Nat) (W : World), I x W → w.heap.size + 2 + c ≤ W.heap.size → x < N →
      assign.wpIn (F.inRound (w.heap.size + 1)) (n - 1 - 1) P (Exit.then (fun a₁ W₁ => Keep2 w.heap.size W W₁ ∧ Kp W W₁ ∧ ∀ W₂, Bar (fun k => k = w.heap.size + 1) W₁ W₂ → W₂.heap.size = W₁.heap.size → (∀ k, k ≠ w.heap.size + 1 → W₂.heap[k]? = W₁.heap[k]?) →
          body.wpIn (F.inRound (w.heap.size + 1)) (n - 1 - 1) P (postD w.heap.size Kp I x W₂) a₁ W₂) (fun _ _ _ => False))
        { tmps := (ps.zip (encs x)).foldl (fun t (p, v) => t.setIfInBounds p v) a.tmps, defers := [] } W)
    (hdone : ∀ (D : Nat) (W : World), D = w.heap.size → I N W → W.heap[D]? = some (.deferred (some [])) → Q .normal { a with defers := { target := .collected D, args := #[] } :: a.defers } W) :
    (Code.rangeFunc g ps assign body).wpIn F n P Q a w := by
  refine wpIn_rangeFunc ?_
  intro fn hfn
  rw [hro]
  obtain ⟨rec, hrec⟩ : ∃ rec : LoopState → Option Code → Loop, rec = fun st pe => { state := st, pending := pe, fn, tmps := a.tmps, params := ps, assign, body, defers := w.heap.size } := ⟨_, rfl⟩
  obtain ⟨W1, hW1⟩ : ∃ W1, (w.alloc (.deferred (some []))).alloc (.loop (rec .ready none)) = W1 := ⟨_, rfl⟩
  have hz1 : W1.heap.size = w.heap.size + 2 := by rw [← hW1]; simp
  have hL1 : W1.heap[w.heap.size + 1]? = some (.loop (rec .ready none)) := by
    rw [← hW1]; have := World.alloc_heap_new (w.alloc (.deferred (some []))) (.loop (rec .ready none)); rwa [World.size_alloc] at this
  have hK1 : W1.heap[w.heap.size]? = some (.deferred (some [])) := by
    rw [← hW1]; exact (Below.heap_alloc _ _ _ (by simp)).trans (World.alloc_heap_new w _)
  have hbw : Below w.heap.size w W1 := by rw [← hW1]; exact ((Below.refl _ w).alloc (Nat.le_refl _) _).alloc (by simp) _
  have hI1 : I 0 W1 := h0 _ (bar_of_below hbw)
  have hb1 : Below w0.heap.size w0 W1 := hb0.trans (hbw.mono hb0.size)
  have hput : ∀ (W : World) (o : Obj), Bar (fun k => S k ∨ k = w.heap.size + 1) W (W.putObj (w.heap.size + 1) o) := fun W o => bar_putObj (.inr rfl) o
  have hup : ∀ {A B : World}, Bar S A B → Bar (fun k => S k ∨ k = w.heap.size + 1) A B := fun h => ⟨h.os, h.tape, h.output, h.size, fun k hk hn => h.block k hk (fun e => hn (.inl e))⟩
  refine ⟨w.heap.size + 1, [{ target := .collected w.heap.size, args := #[] }], W1, { target := .fn (.func gf) lb, args := #[.func (.yield (w.heap.size + 1)) #[] #[]] }, W1, gf,
    #[.func (.yield (w.heap.size + 1)) #[] #[]] ++ lb, W1, ?_, ?_, ?_, ?_, fun _ => h1, ?_⟩
  · rw [← hW1, hrec]; exact run_enterLoop_outer _ _ _ _ _
  · simp only [resolve, hg]
    simp [go_sem]
  · intro f' hf'; simp [Target.leads] at hf'; subst hf'; exact hFg
  · simp [invoke, go_sem, eg]
  · refine (hseq (w.heap.size + 1)
      (fun pre W => I pre W ∧ W.heap[w.heap.size + 1]? = some (.loop (rec .ready none)) ∧ W.heap[w.heap.size]? = some (.deferred (some [])))
      W1 hb1 hz1
      (fun s A B hs hb => ⟨hI s A B hs.1 (hup hb), (hb.block _ (Array.getElem?_eq_some_iff.1 hs.2.1).1 hSb).trans hs.2.1, (hb.block _ (Array.getElem?_eq_some_iff.1 hs.2.2).1 hSa).trans hs.2.2⟩)
      ?_ ⟨hI1, hL1, hK1⟩).mono ?_
    · rintro x W ⟨hi, hl, hk⟩ hsc hmore
      have hlt0 : w.heap.size + 1 < W.heap.size := (Array.getElem?_eq_some_iff.1 hl).1
      have hy := run_yield (P := P) (args := encs x) hl (by rw [hrec]; exact hps x)
      rw [hrec] at hy
      refine ⟨fn, _, assign, body, hy, roundIn_of_wpIn hfn (wpIn_mono (hround x W hi hsc hmore) ?_)⟩
      clear hy
      rintro e a1 Wa h
      cases e with
      | normal =>
        obtain ⟨hka, hkpa, hbody⟩ := h
        have hla := hka.2.2.trans hl
        have hda := hka.2.1.trans hk
        have hza := hka.1
        refine ⟨_, run_beginRound hla (by rw [hrec]), ?_⟩
        have hlt : w.heap.size + 1 < Wa.heap.size := by omega
        have hl2 : (Wa.putObj (w.heap.size + 1) (.loop { rec .ready none with state := .busy })).heap[w.heap.size + 1]? = some (.loop { rec .ready none with state := .busy }) := World.putObj_heap_same hlt
        have hk2 : (Wa.putObj (w.heap.size + 1) (.loop { rec .ready none with state := .busy })).heap[w.heap.size]? = some (.deferred (some [])) := (World.putObj_heap_other (by omega)).trans hda
        have hw2 : Kp Wa (Wa.putObj (w.heap.size + 1) (.loop { rec .ready none with state := .busy })) := hKb _ _ (by omega)
        have hz2 : (Wa.putObj (w.heap.size + 1) (.loop { rec .ready none with state := .busy })).heap.size = Wa.heap.size := by simp [World.putObj]
        refine wpIn_mono (hbody _ (bar_putObj (S := fun k => k = w.heap.size + 1) rfl _) hz2 (fun k hk => World.putObj_heap_other hk)) ?_
        generalize Wa.putObj (w.heap.size + 1) (.loop { rec .ready none with state := .busy }) = W2 at *
        rintro e a3 W3 hp
        cases e with
        | normal =>
          obtain ⟨hk3, hkp3, hi3⟩ := hp
          have hl3 := hk3.2.2.trans hl2
          have hd3 := hk3.2.1.trans hk2
          have hz3 := hk3.1
          have hr := run_endRound (P := P) none hl3
          rw [hrec] at hr hl3
          have hlt3 := (Array.getElem?_eq_some_iff.1 hl3).1
          refine ⟨_, _, hr, rfl, ⟨hI _ _ _ hi3 (hput _ _), ?_, (World.putObj_heap_other (by omega)).trans hd3⟩, hKt hkpa (hKt (hKt hw2 hkp3) (hKb _ _ (by omega)))⟩
          rw [hrec]
          exact World.putObj_heap_same hlt3
        | ret => exact hp.elim
        | exit id => exact hp.elim
        | goto t => exact hp.elim
        | panic ch => exact hp.elim
        | outgrown => exact hp.elim
      | ret => exact h.elim
      | exit id => exact h.elim
      | goto t => exact h.elim
      | panic ch => exact h.elim
      | outgrown => exact h.elim
    · rintro e W2 ⟨⟨v, rfl⟩, hi, hl, hk⟩
      have hlt := (Array.getElem?_eq_some_iff.1 hl).1
      exact ⟨none, _, by have := run_endLoop (P := P) hl (by rw [hrec]; simp); rw [hrec] at this; exact this, hdone _ _ rfl (hI _ _ _ hi (hput _ _)) ((World.putObj_heap_other (by omega)).trans hk)⟩
end

end Go.Proofs.Ytenplmmongphoaa

/- motion: the places of a square, handed over till one lies outside. -/
namespace Go.Proofs.Ytenplmmongphoaa
open Go.RowKit Go.Shelf Go.Sort
set_option linter.unusedVariables false
attribute [local go_sem] Oper.semAt_some

/-- the k-th place of a square of side s at x, y -/
def inP (w h x y : Int) (s k : Nat) : Prop := 0 ≤ x + ((k % s : Nat) : Int) ∧ x + ((k % s : Nat) : Int) < w ∧ 0 ≤ y + ((k / s : Nat) : Int) ∧ y + ((k / s : Nat) : Int) < h
/-- so many places are handed over -/
def MPl (w h x y : Int) (s N : Nat) : Prop := N ≤ s * s ∧ (∀ k, k < N → inP w h x y s k) ∧ (N < s * s → ¬ inP w h x y s N)
theorem mpl_upto (w h x y : Int) (s : Nat) : ∀ m, m ≤ s * s → ∃ N, N ≤ m ∧ (∀ k, k < N → inP w h x y s k) ∧ (N < m → ¬ inP w h x y s N) := by
  intro m
  induction m with
  | zero => exact fun _ => ⟨0, Nat.le_refl _, fun k hk => by omega, fun hk => by omega⟩
  | succ m ih =>
    intro hm
    obtain ⟨N, h1, h2, h3⟩ := ih (by omega)
    by_cases e : N = m
    · subst e
      by_cases hi : inP w h x y s N
      · refine ⟨N + 1, Nat.le_refl _, fun k hk => ?_, fun hk => by omega⟩
        by_cases e2 : k = N
        · rw [e2]; exact hi
        · exact h2 k (by omega)
      · exact ⟨N, by omega, h2, fun _ => hi⟩
    · exact ⟨N, by omega, h2, fun _ => h3 (by omega)⟩
theorem mpl_ex (w h x y : Int) (s : Nat) : ∃ N, MPl w h x y s N := by
  obtain ⟨N, h1, h2, h3⟩ := mpl_upto w h x y s (s * s) (Nat.le_refl _)
  exact ⟨N, h1, h2, h3⟩
theorem row_col {s i k : Nat} (hk : k < s) : (s * i + k) / s = i ∧ (s * i + k) % s = k :=
  ⟨by rw [Nat.mul_add_div (by omega), Nat.div_eq_of_lt hk, Nat.add_zero], by rw [Nat.mul_add_mod, Nat.mod_eq_of_lt hk]⟩
abbrev encQ (x y : Int) (s k : Nat) : Array Value := #[.int .i64 (x + ((k % s : Nat) : Int)), .int .i64 (y + ((k / s : Nat) : Int))]

theorem mhas_any (w h x y : Int) (W : World) : Calls Try.prog 86 #[.agg #[.int .i64 w, .int .i64 h], .int .i64 x, .int .i64 y] W fun e W' => e = .returned (.bool (decide (0 ≤ x ∧ x < w ∧ 0 ≤ y ∧ y < h))) ∧ Below W.heap.size W W' := by
  have hbl := Lib.hid (fun o => (Below.refl W.heap.size W).alloc (Nat.le_refl _) o)
  by_cases h1 : 0 ≤ x
  · by_cases h2 : x < w
    · by_cases h3 : 0 ≤ y
      · by_cases h4 : y < h
        · rw [decide_eq_true (by exact ⟨h1, h2, h3, h4⟩)]
          go_enter Try.func86, Try.ntmps86
          go_wp2
          go_ret
          exact ⟨rfl, hbl.out _⟩
        · rw [decide_eq_false (by omega)]
          go_enter Try.func86, Try.ntmps86
          go_wp2
          go_ret
          exact ⟨rfl, hbl.out _⟩
      · rw [decide_eq_false (by omega)]
        go_enter Try.func86, Try.ntmps86
        go_wp2
        go_ret
        exact ⟨rfl, hbl.out _⟩
    · rw [decide_eq_false (by omega)]
      go_enter Try.func86, Try.ntmps86
      go_wp2
      go_ret
      exact ⟨rfl, hbl.out _⟩
  · rw [decide_eq_false (by omega)]
    go_enter Try.func86, Try.ntmps86
    go_wp2
    go_ret
    exact ⟨rfl, hbl.out _⟩

theorem mrows_in (F : Fence) (n : Nat) (hf : F.fn 85) (hro : F.round = none) (x y s : Int) (w : World) :
    CallsIn F n Try.prog 85 #[.agg #[.int .i64 x, .int .i64 y, .int .i64 s]] w fun e w' => e = .returned (.func (.func 89) #[] #[.pointer (some ⟨w.heap.size, 0, none⟩)]) ∧ w' = w.alloc (.cells #[.int .i64 x, .int .i64 y, .int .i64 s] 89) := by
  refine callsIn_of_wp Try.func85 rfl hf ?_ hro
  simp only [Try.ntmps85, List.size_toArray, List.length_cons, List.length_nil, Nat.reduceAdd, Nat.reduceSub, Array.replicate_succ, Array.replicate_zero, List.push_toArray, List.append_toArray, List.nil_append, List.cons_append]
  gi_wp2
  go_ret
  exact ⟨rfl, rfl⟩
theorem mplaces_in (F : Fence) (n : Nat) (hf : F.fn 75) (hro : F.round = none) (u v x y s : Int) (w : World) :
    CallsIn F n Try.prog 75 #[.agg #[.int .i64 u, .int .i64 v], .agg #[.int .i64 x, .int .i64 y, .int .i64 s]] w fun e w' => e = .returned (.func (.func 84) #[] #[.pointer (some ⟨w.heap.size + 1, 0, none⟩), .pointer (some ⟨w.heap.size, 0, none⟩)]) ∧
      w' = (w.alloc (.cells #[.int .i64 u, .int .i64 v] 80)).alloc (.cells #[.int .i64 x, .int .i64 y, .int .i64 s] 89) := by
  refine callsIn_of_wp Try.func75 rfl hf ?_ hro
  simp only [Try.ntmps75, List.size_toArray, List.length_cons, List.length_nil, Nat.reduceAdd, Nat.reduceSub, Array.replicate_succ, Array.replicate_zero, List.push_toArray, List.append_toArray, List.nil_append, List.cons_append]
  gi_wp2
  go_ret
  exact ⟨rfl, rfl⟩

set_option maxRecDepth 100000 in
set_option maxHeartbeats 4000000 in
theorem mrows1_in (x y : Int) (s : Nat) (hy0 : -1000 ≤ y) (hy : y ≤ 1000) (hs : s ≤ 16) (n : Nat) (hn : 1 ≤ n) (l bb : Nat) (Kp : World → World → Prop) (J Jx : Nat → World → Prop) (W : World)
    (hK : ∀ A B, Kp A B → B.heap[bb]? = A.heap[bb]?)
    (hY : ∀ i W1, J i W1 → i < s → YieldAt Fence.wide (n - 1) Try.prog l #[.int .i64 (y + (i : Int))] W1 fun e W' =>
      (e = .returned (.bool true) ∧ J (i + 1) W' ∧ Kp W1 W') ∨ (e = .returned (.bool false) ∧ Jx i W'))
    (hbb : ∃ t, W.heap[bb]? = some (.cells #[.int .i64 x, .int .i64 y, .int .i64 (s : Int)] t (0, 0))) (h0 : J 0 W) :
    CallsIn Fence.wide n Try.prog 89 #[.func (.yield l) #[] #[], .pointer (some ⟨bb, 0, none⟩)] W fun e W' => (∃ v, e = .returned v) ∧
      (J s W' ∨ (∃ k, k < s ∧ Jx k W')) := by
  have HY := Lib.hid hY
  have HK := Lib.hid hK
  obtain ⟨t, hbb⟩ := hbb
  have HB := Lib.hid hbb
  have c2 : W.cell? ⟨bb, 2, none⟩ = some (.int .i64 (s : Int)) := by simp [World.cell?, hbb]
  clear hY hK hbb
  refine callsIn_of_wp Try.func89 rfl trivial ?_ rfl
  simp only [Try.ntmps89, List.size_toArray, List.length_cons, List.length_nil, Nat.reduceAdd, Nat.reduceSub, Array.replicate_succ, Array.replicate_zero, List.push_toArray, List.append_toArray, List.nil_append, List.cons_append]
  gi_wp2
  gi_loopw [6] (fun p wr => ∃ i : Nat, i ≤ s ∧ p = .int .i64 (i : Int) ∧ J i wr ∧ wr.heap[bb]? = W.heap[bb]?) (fun p _ => s - (intOf p).toNat)
  case atStart => exact ⟨0, by omega, rfl, h0, rfl⟩
  case round =>
    obtain ⟨i, hi, rfl, hJs, hkb⟩ := hrel
    have HJs := Lib.hid hJs
    clear hJs
    by_cases hs2 : i < s
    · have hs3 : (i : Int) < s := by omega
      have hcell := hkb.trans HB.out
      obtain ⟨fn, tmps, assign, body, hyy, hR⟩ := HY.out i _ HJs.out hs2
      have c1 : wr.cell? ⟨bb, 1, none⟩ = some (.int .i64 y) := by simp [World.cell?, hcell]
      have HKb := Lib.hid hkb
      clear hcell hkb c2
      gi_wp2
      refine hR.mono ?_
      rintro e W3 (⟨rfl, hJ3, hk3⟩ | ⟨rfl, hJx3⟩)
      · have HJ3 := Lib.hid hJ3
        have HKp := Lib.hid ((HK.out _ _ hk3).trans HKb.out)
        clear hk3 hJ3 hR hyy c1
        gi_wp2
        go_roundw
        case rel => exact ⟨i + 1, by omega, by go_num, HJ3.out, HKp.out⟩
        case measure => simp [intOf]; omega
      · have HJx3 := Lib.hid hJx3
        clear hJx3 hR hyy c1
        gi_wp2
        refine bodyPost_ret (results_none rfl _ _ _) rfl ?_
        exact ⟨⟨_, rfl⟩, .inr ⟨i, by omega, HJx3.out⟩⟩
    · obtain rfl : i = s := by omega
      gi_wp2
      go_end0
      exact ⟨⟨_, rfl⟩, .inl HJs.out⟩
theorem mrows_M (x y : Int) (s : Nat) (hy0 : -1000 ≤ y) (hy : y ≤ 1000) (hs : s ≤ 16) (n : Nat) (hn : 1 ≤ n) (bb : Nat) (Kp : World → World → Prop) (hK : ∀ A B, Kp A B → B.heap[bb]? = A.heap[bb]?) (w0 : World)
    (hbb : ∃ t, w0.heap[bb]? = some (.cells #[.int .i64 x, .int .i64 y, .int .i64 (s : Int)] t (0, 0))) :
    SeqM Fence.wide n Try.prog 89 #[.pointer (some ⟨bb, 0, none⟩)] (fun i => #[.int .i64 (y + (i : Int))]) (fun _ => False) Kp (fun i _ => i ≤ s) (fun i => i < s) (fun _ => True) w0 := fun l J Jx W hW hJ hJx hY h0 => by
  obtain ⟨t, hbb⟩ := hbb
  have hbs := (Array.getElem?_eq_some_iff.1 hbb).1
  exact (mrows1_in x y s hy0 hy hs n hn l bb Kp (fun i A => J i A ∧ i ≤ s) Jx W hK
    (fun i W1 h hi => (hY i W1 h.1 h.2 hi).mono fun e W' h' => h'.imp (fun ⟨a, _, b, c⟩ => ⟨a, ⟨b, hi⟩, c⟩) id)
    ⟨t, (hW.block _ hbs).trans hbb⟩ ⟨h0, Nat.zero_le _⟩).mono fun e W' ⟨h1, h2⟩ => ⟨h1, h2.imp (fun h => ⟨_, Nat.lt_irrefl _, h⟩) id⟩

/-- what the func of places reads, and its own blocks, lie as they lay -/
def KpM (ba bq h : Nat) (A B : World) : Prop := A.heap.size ≤ B.heap.size ∧ ∀ k, (k = ba ∨ k = bq ∨ (h ≤ k ∧ k < h + 4)) → B.heap[k]? = A.heap[k]?
theorem KpM.refl (ba bq h : Nat) (A : World) : KpM ba bq h A A := ⟨Nat.le_refl _, fun _ _ => rfl⟩
theorem KpM.trans {ba bq h : Nat} {A B C : World} (p : KpM ba bq h A B) (q : KpM ba bq h B C) : KpM ba bq h A C := ⟨Nat.le_trans p.1 q.1, fun k hk => (q.2 k hk).trans (p.2 k hk)⟩
theorem KpM.below {ba bq h : Nat} {A B : World} (hb : Below A.heap.size A B) (h1 : ba < A.heap.size) (h2 : bq < A.heap.size) (h3 : h + 4 ≤ A.heap.size) : KpM ba bq h A B :=
  ⟨hb.size, fun k hk => hb.block _ (by omega)⟩

set_option maxRecDepth 100000 in
set_option maxHeartbeats 4000000 in
theorem mplaces1_in {w h x y : Int} {s N : Nat} (H : MPl w h x y s N) (hx0 : -1000 ≤ x) (hx : x ≤ 1000) (hy0 : -1000 ≤ y) (hy : y ≤ 1000) (hs1 : 1 ≤ s) (hs : s ≤ 16) (n : Nat) (hn : 12 ≤ n) (l ba bq : Nat) (J : Nat → World → Prop) (W : World)
    (hab : ba < W.heap.size) (hqb : bq < W.heap.size)
    (hJ : ∀ k A B, J k A → Bar (fun j => j = W.heap.size + 2 ∨ j = W.heap.size + 3) A B → J k B)
    (hY : ∀ k W1, J k W1 → W.heap.size + 4 ≤ W1.heap.size → k < N → YieldAt Fence.wide (n - 1) Try.prog l (encQ x y s k) W1 fun e W' =>
      e = .returned (.bool true) ∧ J (k + 1) W' ∧ KpM ba bq W.heap.size W1 W')
    (hba : ∃ t, W.heap[ba]? = some (.cells #[.int .i64 w, .int .i64 h] t (0, 0))) (hbq : ∃ t, W.heap[bq]? = some (.cells #[.int .i64 x, .int .i64 y, .int .i64 (s : Int)] t (0, 0))) (h0 : J 0 W) :
    CallsIn Fence.wide n Try.prog 84 #[.func (.yield l) #[] #[], .pointer (some ⟨bq, 0, none⟩), .pointer (some ⟨ba, 0, none⟩)] W fun e W' => (∃ v, e = .returned v) ∧ J N W' := by
  have hn1 : 1 ≤ n := by omega
  have hn2 : 1 ≤ n - 1 := by omega
  have hn3 : 1 ≤ n - 1 - 1 := by omega
  have hn4 : 1 ≤ n - 1 - 1 - 1 := by omega
  have HJ := Lib.hid hJ
  have HY := Lib.hid hY
  have HM := Lib.hid H
  have HR := Lib.hid (fun w => mrows_in Fence.wide (n - 1) trivial rfl x y s w)
  have HH := Lib.hid (fun u v W => mhas_any w h u v W)
  obtain ⟨ta, hba⟩ := hba
  obtain ⟨tq, hbq⟩ := hbq
  have HA := Lib.hid hba
  have HQ := Lib.hid hbq
  have c0 : W.cell? ⟨bq, 0, none⟩ = some (.int .i64 x) := by simp [World.cell?, hbq]
  have c1 : W.cell? ⟨bq, 1, none⟩ = some (.int .i64 y) := by simp [World.cell?, hbq]
  have c2 : W.cell? ⟨bq, 2, none⟩ = some (.int .i64 (s : Int)) := by simp [World.cell?, hbq]
  clear hJ hY H hba hbq
  refine callsIn_of_wp_marks Try.func84 rfl trivial ?_ rfl
  simp only [Try.ntmps84, List.size_toArray, List.length_cons, List.length_nil, Nat.reduceAdd, Nat.reduceSub, Array.replicate_succ, Array.replicate_zero, List.push_toArray, List.append_toArray, List.nil_append, List.cons_append]
  gi_wp2
  refine wpIn_wide.2 (wp_scope_straight ((wpIn_wide (n := n)).1 ?_))
  gi_wp2
  refine wpIn_label ?_
  gi_wp2_with (refine ⟨trivial, ?_⟩; gi_at_call 85; refine (HR.out _).mono ?_; rintro e w' ⟨rfl, rfl⟩)
  have hw1 : ((W.alloc (Obj.cells #[Value.func (Fn.yield l) #[] #[]] 137)).alloc (Obj.cells #[Value.int IntKind.i64 x, Value.int IntKind.i64 y, Value.int IntKind.i64 (s : Int)] 89)).heap.size = W.heap.size + 2 := by simp
  have hb1 : Below W.heap.size W ((W.alloc (Obj.cells #[Value.func (Fn.yield l) #[] #[]] 137)).alloc (Obj.cells #[Value.int IntKind.i64 x, Value.int IntKind.i64 y, Value.int IntKind.i64 (s : Int)] 89)) := ((Below.refl _ W).alloc (Nat.le_refl _) _).alloc (by simp) _
  have hyb : ((W.alloc (Obj.cells #[Value.func (Fn.yield l) #[] #[]] 137)).alloc (Obj.cells #[Value.int IntKind.i64 x, Value.int IntKind.i64 y, Value.int IntKind.i64 (s : Int)] 89)).heap[W.heap.size]? = some (.cells #[.func (.yield l) #[] #[]] 137 (0, 0)) := heap_keep (heap_new _ rfl _) _
  have hfb : ((W.alloc (Obj.cells #[Value.func (Fn.yield l) #[] #[]] 137)).alloc (Obj.cells #[Value.int IntKind.i64 x, Value.int IntKind.i64 y, Value.int IntKind.i64 (s : Int)] 89)).heap[W.heap.size + 1]? = some (.cells #[.int .i64 x, .int .i64 y, .int .i64 (s : Int)] 89 (0, 0)) := heap_new _ (by simp) _
  generalize ((W.alloc (Obj.cells #[Value.func (Fn.yield l) #[] #[]] 137)).alloc (Obj.cells #[Value.int IntKind.i64 x, Value.int IntKind.i64 y, Value.int IntKind.i64 (s : Int)] 89)) = w1 at *
  clear HR c0 c1 c2
  refine wpIn_range_M rfl (by omega) (gf := 89) (lb := #[.pointer (some ⟨W.heap.size + 1, 0, none⟩)]) rfl trivial (enters_of Try.func89 (by kernel_rfl) rfl)
    (mrows_M x y s hy0 hy hs (n - 1) (by omega) (W.heap.size + 1) (fun A B => A.heap.size ≤ B.heap.size ∧ ∀ k, (k = ba ∨ k = bq ∨ k = W.heap.size ∨ k = W.heap.size + 1) → B.heap[k]? = A.heap[k]?) (fun A B h => h.2 _ (by omega)) w1 ⟨_, hfb⟩)
    (fun _ h => h.elim) (fun p q => ⟨Nat.le_trans p.1 q.1, fun k hk => (q.2 k hk).trans (p.2 k hk)⟩) (fun W' o' h => ⟨by simp [World.putObj], fun k hk => World.putObj_heap_other (by omega)⟩) (Below.refl _ _) (by intro _; rfl) (fun _ _ _ _ h => h)
    (fun i Wx => J (s * i) Wx ∧ s * i ≤ N ∧ Wx.heap[W.heap.size]? = some (.cells #[.func (.yield l) #[] #[]] 137 (0, 0)) ∧ Wx.heap[ba]? = W.heap[ba]? ∧ Wx.heap[bq]? = W.heap[bq]?)
    (fun c' i Wx => c' = .exit 0 ∧ J N Wx)
    ?hI ?hIx ?h0 ?hround ?hdone ?hstop
  case hI =>
    rintro i A B ⟨h1, h2, h3, h4, h5⟩ hb
    have l1 := (Array.getElem?_eq_some_iff.1 h3).1
    refine ⟨HJ.out _ _ _ h1 (hb.wide fun k e => ?_), h2, (hb.block _ l1 (fun e => ?_)).trans h3, (hb.block _ (by omega) (fun e => ?_)).trans h4, (hb.block _ (by omega) (fun e => ?_)).trans h5⟩
    · rcases e with e | e
      · exact e.elim
      · omega
    all_goals
      rcases e with e | e
      · exact e
      · omega
  case hIx =>
    rintro c' i A B ⟨h1, h2⟩ hb
    refine ⟨h1, HJ.out _ _ _ h2 (hb.wide fun k e => ?_)⟩
    rcases e with e | e
    · exact e.elim
    · omega
  case h0 =>
    intro W' hb
    exact ⟨HJ.out _ _ _ (HJ.out _ _ _ h0 (bar_of_below hb1)) (hb.wide fun k e => e.elim), by omega, (hb.block _ (by omega) (fun e => e)).trans hyb, (hb.block _ (by omega) (fun e => e)).trans (hb1.block _ hab), (hb.block _ (by omega) (fun e => e)).trans (hb1.block _ hqb)⟩
  case hround =>
    rintro i Wx ⟨hj, hiN, hbx, hxa, hxq⟩ hcur hxz his
    gi_wp2
    refine ⟨Keep2.refl _ _, ⟨Nat.le_refl _, fun _ _ => trivial⟩, fun W2 hb2 hz2 hot => ?_⟩
    have hj2 : J (s * i) W2 := HJ.out _ _ _ hj (hb2.wide fun k e => .inr (by omega))
    have hx2 : W2.heap[W.heap.size]? = some (.cells #[.func (.yield l) #[] #[]] 137 (0, 0)) := (hot _ (by omega)).trans hbx
    have ha2 : W2.heap[ba]? = W.heap[ba]? := (hot _ (by omega)).trans hxa
    have hq2 : W2.heap[bq]? = W.heap[bq]? := (hot _ (by omega)).trans hxq
    have hD2 : w1.heap.size + 2 ≤ W2.heap.size := by omega
    have c2 : W2.cell? ⟨bq, 2, none⟩ = some (.int .i64 (s : Int)) := by simp [World.cell?, hq2.trans HQ.out]
    have HX2 := Lib.hid hx2
    have HA2 := Lib.hid ha2
    have HQ2 := Lib.hid hq2
    clear hb2 hz2 hot hj hbx hxa hxq hx2 ha2 hq2 hxz hyb hfb hb1
    gi_wp2
    gi_loopw [12] (fun p wr => ∃ k : Nat, k ≤ s ∧ p = .int .i64 (k : Int) ∧ J (s * i + k) wr ∧ s * i + k ≤ N ∧ KpM ba bq W.heap.size W2 wr) (fun p _ => s - (intOf p).toNat)
    case atStart => exact ⟨0, by omega, rfl, hj2, by omega, KpM.refl _ _ _ _⟩
    case round =>
      obtain ⟨k, hk, rfl, hJk, hkN, hkp⟩ := hrel
      have HJk := Lib.hid hJk
      have HKp := Lib.hid hkp
      have hzr := hkp.1
      clear hJk c2
      by_cases hk2 : k < s
      · have hk3 : (k : Int) < s := by omega
        have hsq : s * i + k < s * s := by
          have := Nat.mul_le_mul_left s (show i + 1 ≤ s by omega)
          rw [Nat.mul_add, Nat.mul_one] at this
          omega
        have hyr := (hkp.2 W.heap.size (by omega)).trans HX2.out
        have har := (hkp.2 ba (by omega)).trans (HA2.out.trans HA.out)
        have hqr := (hkp.2 bq (by omega)).trans (HQ2.out.trans HQ.out)
        have cx : wr.cell? ⟨bq, 0, none⟩ = some (.int .i64 x) := by simp [World.cell?, hqr]
        have ca0 : wr.cell? ⟨ba, 0, none⟩ = some (.int .i64 w) := by simp [World.cell?, har]
        have ca1 : wr.cell? ⟨ba, 1, none⟩ = some (.int .i64 h) := by simp [World.cell?, har]
        obtain ⟨r1, r2⟩ := row_col (i := i) hk2
        have hin : decide (0 ≤ x + (k : Int) ∧ x + (k : Int) < w ∧ 0 ≤ y + (i : Int) ∧ y + (i : Int) < h) = decide (s * i + k < N) := by
          have hM := HM.out
          have e : inP w h x y s (s * i + k) ↔ (0 ≤ x + (k : Int) ∧ x + (k : Int) < w ∧ 0 ≤ y + (i : Int) ∧ y + (i : Int) < h) := by unfold inP; rw [r1, r2]
          rw [← Bool.coe_iff_coe, decide_eq_true_iff, decide_eq_true_iff, ← e]
          constructor
          · intro hi2
            by_cases q : s * i + k = N
            · exact absurd hi2 (by rw [q]; exact hM.2.2 (by omega))
            · omega
          · exact hM.2.1 _
        have HYr := Lib.hid hyr
        have HAr := Lib.hid har
        have HHr := Lib.hid (HH.out (x + (k : Int)) (y + (i : Int)) wr)
        rw [hin] at HHr
        clear hyr har hqr hin hkp HH
        gi_wp2
        refine ⟨trivial, CallsIn.mono (F := Fence.wide.inRound _) (callsIn_wide.2 HHr.out) ?_⟩
        rintro e wv ⟨rfl, hbv⟩
        have hzv := hbv.size
        have hjv : J (s * i + k) wv := HJ.out _ _ _ HJk.out ((bar_of_below (S := fun _ => False) hbv).wide fun k e => e.elim)
        have hkv : KpM ba bq W.heap.size W2 wv := HKp.out.trans (KpM.below hbv (by omega) (by omega) (by omega))
        have hyv := (hbv.block W.heap.size (by omega)).trans HYr.out
        have cy : wv.cell? ⟨W.heap.size, 0, none⟩ = some (.func (.yield l) #[] #[]) := by simp [World.cell?, hyv]
        have HKv := Lib.hid hkv
        clear hyv hbv cx ca0 ca1 HHr
        by_cases hlt : s * i + k < N
        · rw [decide_eq_true hlt]
          obtain ⟨fn, tmps, assign, body, hy, hR⟩ := yield_depth (F := Fence.wide) rfl (n - 1 - 1 - 1) (HY.out _ wv hjv (by omega) hlt)
          unfold encQ at hy
          rw [r1, r2] at hy
          clear hjv hkv r1 r2
          gi_wp2
          refine hR.mono ?_
          rintro e W5 ⟨rfl, hJ5, hk5⟩
          have HJ5 := Lib.hid hJ5
          have HK5 := Lib.hid (HKv.out.trans hk5)
          clear hJ5 hk5 hR hy cy
          gi_wp2
          go_roundw
          case rel => exact ⟨k + 1, by omega, by go_num, HJ5.out, by omega, HK5.out⟩
          case measure => simp [intOf]; omega
        · rw [decide_eq_false hlt]
          have HJv := Lib.hid hjv
          have hNe : s * i + k = N := by omega
          clear hjv hkv r1 r2 cy
          gi_wp2
          refine ⟨(fun _ e => nomatch e), ?_⟩
          gi_wp2
          exact ⟨⟨HKv.out.1, HKv.out.2 _ (by omega), HKv.out.2 _ (by omega)⟩, rfl, by rw [← hNe]; exact HJv.out⟩
      · obtain rfl : k = s := by omega
        clear hkp
        gi_wp2
        exact ⟨⟨HKp.out.1, HKp.out.2 _ (by omega), HKp.out.2 _ (by omega)⟩, ⟨HKp.out.1, fun j hj => HKp.out.2 _ (by omega)⟩, trivial, HJk.out, hkN, (HKp.out.2 _ (by omega)).trans HX2.out, (HKp.out.2 _ (by omega)).trans HA2.out, (HKp.out.2 _ (by omega)).trans HQ2.out⟩
  case hdone =>
    rintro D i W' rfl hi ⟨hj, hiN, -⟩ hcur hD
    obtain rfl : i = s := by omega
    have hNe : i * i = N := by have := HM.out.1; omega
    rw [hNe] at hj
    gi_wp2
    exact leaves_one hD (fun W'' hb => ⟨_, results_none rfl _ _ _, ⟨_, rfl⟩, HJ.out _ _ _ hj (hb.wide fun k e => .inl (by omega))⟩)
  case hstop =>
    rintro D c' i W' rfl hi ⟨rfl, hj⟩ hD
    gi_wp2
    exact leaves_one hD (fun W'' hb => ⟨_, results_none rfl _ _ _, ⟨_, rfl⟩, HJ.out _ _ _ hj (hb.wide fun k e => .inl (by omega))⟩)

theorem mplaces_D {w h x y : Int} {s N : Nat} (H : MPl w h x y s N) (hx0 : -1000 ≤ x) (hx : x ≤ 1000) (hy0 : -1000 ≤ y) (hy : y ≤ 1000) (hs1 : 1 ≤ s) (hs : s ≤ 16) (n : Nat) (hn : 12 ≤ n) (ba bq m : Nat) (w0 : World)
    (hba : ∃ t, w0.heap[ba]? = some (.cells #[.int .i64 w, .int .i64 h] t (0, 0))) (hbq : ∃ t, w0.heap[bq]? = some (.cells #[.int .i64 x, .int .i64 y, .int .i64 (s : Int)] t (0, 0))) :
    SeqD Fence.wide n Try.prog 84 #[.pointer (some ⟨bq, 0, none⟩), .pointer (some ⟨ba, 0, none⟩)] (encQ x y s) (fun j => j = m + 2 ∨ j = m + 3) (KpM ba bq m) N m 4 w0 := fun l J W hW hm hJ hY h0 => by
  subst hm
  obtain ⟨ta, hba⟩ := hba
  obtain ⟨tq, hbq⟩ := hbq
  have l1 := (Array.getElem?_eq_some_iff.1 hba).1
  have l2 := (Array.getElem?_eq_some_iff.1 hbq).1
  have := hW.size
  exact mplaces1_in H hx0 hx hy0 hy hs1 hs n hn l ba bq J W (by omega) (by omega) hJ hY ⟨ta, (hW.block _ l1).trans hba⟩ ⟨tq, (hW.block _ l2).trans hbq⟩ h0

end Go.Proofs.Ytenplmmongphoaa
