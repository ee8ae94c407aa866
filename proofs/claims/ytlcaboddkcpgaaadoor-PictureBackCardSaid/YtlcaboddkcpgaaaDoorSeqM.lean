/- A range over a func whose iterator moves a cursor: the iterator is told that a round keeps what it reads (Kp); the rounds' invariant bears that the blocks of S move (Bar S) between rounds. -/
import Derived.Test.YtlcaboddkcpgaaaDoorSeq
import Derived.Test.YtlcaboddkcpgaaaDoorPen
namespace Go.Proofs.YtlcaboddkcpgaaaDoor
open Go.RowKit Go.Shelf
set_option linter.unusedVariables false

/-- an iterator hands over things while there are More; J: so many have come; Jx: at which one no more was wanted; Cur: how it stands when so many have come; Ok: a round may ask for more; S: the blocks that it moves -/
def SeqM (F : Fence) (n : Nat) (P : Program) (g : Nat) (lb : Array Value) (encs : Nat → Array Value) (S : Nat → Prop) (Kp : World → World → Prop) (Cur : Nat → World → Prop) (More Ok : Nat → Prop) (w : World) : Prop :=
  ∀ (l : Nat) (J Jx : Nat → World → Prop) (W : World), Below w.heap.size w W → (∀ s A B, J s A → Bar S A B → J s B) → (∀ s A B, Jx s A → Bar S A B → Jx s B) →
    (∀ x W1, J x W1 → Cur x W1 → More x → YieldAt F (n - 1) P l (encs x) W1 fun e W' =>
      (e = .returned (.bool true) ∧ Ok x ∧ J (x + 1) W' ∧ Kp W1 W') ∨ (e = .returned (.bool false) ∧ Jx x W')) →
    J 0 W →
    CallsIn F n P g (#[.func (.yield l) #[] #[]] ++ lb) W fun e W' => (∃ v, e = .returned v) ∧ ((∃ x, ¬ More x ∧ J x W' ∧ Cur x W') ∨ (∃ x, More x ∧ Jx x W'))

/-- a loop's two blocks lie as they lay -/
def Keep2 (D : Nat) (W W' : World) : Prop := W.heap.size ≤ W'.heap.size ∧ W'.heap[D]? = W.heap[D]? ∧ W'.heap[D + 1]? = W.heap[D + 1]?
theorem Keep2.refl (D : Nat) (W : World) : Keep2 D W W := ⟨Nat.le_refl _, rfl, rfl⟩
theorem Keep2.trans {D : Nat} {X Y Z : World} (h : Keep2 D X Y) (k : Keep2 D Y Z) : Keep2 D X Z := ⟨Nat.le_trans h.1 k.1, k.2.1.trans h.2.1, k.2.2.trans h.2.2⟩
theorem keep2_bar {D : Nat} {S : Nat → Prop} {X Y : World} (h : Bar S X Y) (hD : D + 2 ≤ X.heap.size) (h1 : ¬ S D) (h2 : ¬ S (D + 1)) : Keep2 D X Y := ⟨h.size, h.block _ (by omega) h1, h.block _ (by omega) h2⟩

/-- how the body of a round may be left -/
def postM (D : Nat) (Kp : World → World → Prop) (Ok : Nat → Prop) (I : Nat → World → Prop) (Ix : Code → Nat → World → Prop) (x : Nat) (W : World) : Exit → Act → World → Prop
  | .normal, _, W' => Keep2 D W W' ∧ Kp W W' ∧ Ok x ∧ I (x + 1) W'
  | .ret, _, W' => Keep2 D W W' ∧ Ix .ret x W'
  | .exit id, _, W' => Keep2 D W W' ∧ Ix (.exit id) x W'
  | .goto t, _, W' => Keep2 D W W' ∧ Ix (.goto t) x W'
  | .panic _, _, _ => False
  | .outgrown, _, _ => False

theorem bar_putObj {S : Nat → Prop} {X : World} {l : Nat} (hS : S l) (o : Obj) : Bar S X (X.putObj l o) :=
  ⟨rfl, rfl, rfl, by simp [World.putObj], fun k hk hn => World.putObj_heap_other (fun e => hn (e ▸ hS))⟩

section
variable {F : Fence} {n : Nat} {P : Program}
theorem wpIn_range_M {g : Operand} {ps : Array Tmp} {assign body : Code} {Q : Exit → Act → World → Prop} {a : Act} {w : World}
    (hro : F.round = none) (h1 : 1 ≤ n) {gf : Nat} {lb : Array Value} (hg : a.eval g = .func (.func gf) #[] lb) (hFg : F.fn gf) (eg : ∀ args w, (callFunc gf args).run P w = .ok (.enter gf args) w)
    {encs : Nat → Array Value} {S : Nat → Prop} {Kp : World → World → Prop} {Cur : Nat → World → Prop} {More Ok : Nat → Prop} {w0 : World} (hseq : SeqM F (n - 1) P gf lb encs S Kp Cur More Ok w0)
    (hS : ∀ k, S k → k < w.heap.size)
    (hKt : ∀ {A B C : World}, Kp A B → Kp B C → Kp A C) (hKb : ∀ (W : World) (o' : Obj), w.heap.size + 2 ≤ W.heap.size → Kp W (W.putObj (w.heap.size + 1) o')) (hb0 : Below w0.heap.size w0 w) (hps : ∀ x, (encs x).size = ps.size)
    (hCb : ∀ x (W : World) (o' : Obj), w.heap.size + 2 ≤ W.heap.size → Cur x W → Cur x (W.putObj (w.heap.size + 1) o'))
    (I : Nat → World → Prop) (Ix : Code → Nat → World → Prop) (hI : ∀ s A B, I s A → Bar (fun k => S k ∨ k = w.heap.size + 1) A B → I s B) (hIx : ∀ c s A B, Ix c s A → Bar (fun k => S k ∨ k = w.heap.size + 1) A B → Ix c s B) (h0 : ∀ W, Bar S w W → I 0 W)
    (hround : ∀ (x : Nat) (W : World), I x W → Cur x W → w.heap.size + 2 ≤ W.heap.size → More x →
      assign.wpIn (F.inRound (w.heap.size + 1)) (n - 1 - 1) P (Exit.then (fun a₁ W₁ => Keep2 w.heap.size W W₁ ∧ Kp W W₁ ∧ ∀ W₂, Bar (fun k => k = w.heap.size + 1) W₁ W₂ → W₂.heap.size = W₁.heap.size → (∀ k, k ≠ w.heap.size + 1 → W₂.heap[k]? = W₁.heap[k]?) →
          body.wpIn (F.inRound (w.heap.size + 1)) (n - 1 - 1) P (postM w.heap.size Kp Ok I Ix x W₂) a₁ W₂) (fun _ _ _ => False))
        { tmps := (ps.zip (encs x)).foldl (fun t (p, v) => t.setIfInBounds p v) a.tmps, defers := [] } W)
    (hdone : ∀ (D x : Nat) (W : World), D = w.heap.size → ¬ More x → I x W → Cur x W → W.heap[D]? = some (.deferred (some [])) → Q .normal { a with defers := { target := .collected D, args := #[] } :: a.defers } W)
    (hstop : ∀ (D : Nat) (c : Code) (x : Nat) (W : World), D = w.heap.size → More x → Ix c x W → W.heap[D]? = some (.deferred (some [])) → c.wpIn F n P Q { a with defers := { target := .collected D, args := #[] } :: a.defers } W) :
    (Code.rangeFunc g ps assign body).wpIn F n P Q a w := by
  refine wpIn_rangeFunc ?_
  intro fn hfn
  rw [hro]
  obtain ⟨rec, hrec⟩ : ∃ rec : LoopState → Option Code → Loop, rec = fun st pe => { state := st, pending := pe, fn, tmps := a.tmps, params := ps, assign, body, defers := w.heap.size } := ⟨_, rfl⟩
  obtain ⟨W1, hW1⟩ : ∃ W1, (w.alloc (.deferred (some []))).alloc (.loop (rec .ready none)) = W1 := ⟨_, rfl⟩
  have hz1 : W1.heap.size = w.heap.size + 2 := by rw [← hW1]; simp
  have hL1 : W1.heap[w.heap.size + 1]? = some (.loop (rec .ready none)) := by
    rw [← hW1]; have := World.alloc_heap_new (w.alloc (.deferred (some []))) (.loop (rec .ready none)); rwa [World.size_alloc] at this
  have hK1 : W1.heap[w.heap.size]? = some (.deferred (some [])) := by
    rw [← hW1]; exact (Below.heap_alloc _ _ _ (by simp)).trans (World.alloc_heap_new w _)
  have hbw : Below w.heap.size w W1 := by rw [← hW1]; exact ((Below.refl _ w).alloc (Nat.le_refl _) _).alloc (by simp) _
  have hI1 : I 0 W1 := h0 _ (bar_of_below hbw)
  have hb1 : Below w0.heap.size w0 W1 := hb0.trans (hbw.mono hb0.size)
  have hSa : ¬ S w.heap.size := fun h => Nat.lt_irrefl _ (hS _ h)
  have hSb : ¬ S (w.heap.size + 1) := fun h => by have := hS _ h; omega
  have hput : ∀ (W : World) (o : Obj), Bar (fun k => S k ∨ k = w.heap.size + 1) W (W.putObj (w.heap.size + 1) o) := fun W o => bar_putObj (.inr rfl) o
  have hup : ∀ {A B : World}, Bar S A B → Bar (fun k => S k ∨ k = w.heap.size + 1) A B := fun h => ⟨h.os, h.tape, h.output, h.size, fun k hk hn => h.block k hk (fun e => hn (.inl e))⟩
  refine ⟨w.heap.size + 1, [{ target := .collected w.heap.size, args := #[] }], W1, { target := .fn (.func gf) lb, args := #[.func (.yield (w.heap.size + 1)) #[] #[]] }, W1, gf,
    #[.func (.yield (w.heap.size + 1)) #[] #[]] ++ lb, W1, ?_, ?_, ?_, ?_, fun _ => h1, ?_⟩
  · rw [← hW1, hrec]; exact run_enterLoop_outer _ _ _ _ _
  · simp only [resolve, hg]
    simp [go_sem]
  · intro f' hf'; simp [Target.leads] at hf'; subst hf'; exact hFg
  · simp [invoke, go_sem, eg]
  · refine (hseq (w.heap.size + 1)
      (fun pre W => I pre W ∧ W.heap[w.heap.size + 1]? = some (.loop (rec .ready none)) ∧ W.heap[w.heap.size]? = some (.deferred (some [])))
      (fun pre W => ∃ c, Ix c pre W ∧ W.heap[w.heap.size + 1]? = some (.loop (rec .done (some c))) ∧ W.heap[w.heap.size]? = some (.deferred (some [])))
      W1 hb1
      (fun s A B hs hb => ⟨hI s A B hs.1 (hup hb), (hb.block _ (Array.getElem?_eq_some_iff.1 hs.2.1).1 hSb).trans hs.2.1, (hb.block _ (Array.getElem?_eq_some_iff.1 hs.2.2).1 hSa).trans hs.2.2⟩)
      (fun s A B hs hb => by
        obtain ⟨c, hc, hl, hk⟩ := hs
        exact ⟨c, hIx c s A B hc (hup hb), (hb.block _ (Array.getElem?_eq_some_iff.1 hl).1 hSb).trans hl, (hb.block _ (Array.getElem?_eq_some_iff.1 hk).1 hSa).trans hk⟩)
      ?_ ⟨hI1, hL1, hK1⟩).mono ?_
    · rintro x W ⟨hi, hl, hk⟩ hcur hmore
      have hlt0 : w.heap.size + 1 < W.heap.size := (Array.getElem?_eq_some_iff.1 hl).1
      have hy := run_yield (P := P) (args := encs x) hl (by rw [hrec]; exact hps x)
      rw [hrec] at hy
      refine ⟨fn, _, assign, body, hy, roundIn_of_wpIn hfn (wpIn_mono (hround x W hi hcur (by omega) hmore) ?_)⟩
      clear hy
      rintro e a1 Wa h
      cases e with
      | normal =>
        obtain ⟨hka, hkpa, hbody⟩ := h
        have hla := hka.2.2.trans hl
        have hda := hka.2.1.trans hk
        have hza := hka.1
        refine ⟨_, run_beginRound hla (by rw [hrec]), ?_⟩
        have hlt : w.heap.size + 1 < Wa.heap.size := by omega
        have hl2 : (Wa.putObj (w.heap.size + 1) (.loop { rec .ready none with state := .busy })).heap[w.heap.size + 1]? = some (.loop { rec .ready none with state := .busy }) := World.putObj_heap_same hlt
        have hk2 : (Wa.putObj (w.heap.size + 1) (.loop { rec .ready none with state := .busy })).heap[w.heap.size]? = some (.deferred (some [])) := (World.putObj_heap_other (by omega)).trans hda
        have hw2 : Kp Wa (Wa.putObj (w.heap.size + 1) (.loop { rec .ready none with state := .busy })) := hKb _ _ (by omega)
        have hz2 : (Wa.putObj (w.heap.size + 1) (.loop { rec .ready none with state := .busy })).heap.size = Wa.heap.size := by simp [World.putObj]
        refine wpIn_mono (hbody _ (bar_putObj (S := fun k => k = w.heap.size + 1) rfl _) hz2 (fun k hk => World.putObj_heap_other hk)) ?_
        generalize Wa.putObj (w.heap.size + 1) (.loop { rec .ready none with state := .busy }) = W2 at *
        have fin : ∀ (jump : Option Code) (W3 : World), Keep2 w.heap.size W2 W3 →
            (Instr.endRound (w.heap.size + 1) jump).run P W3 = .ok (.bool jump.isNone) (W3.putObj (w.heap.size + 1) (.loop (rec (if jump.isNone then .ready else .done) jump))) ∧
            (W3.putObj (w.heap.size + 1) (.loop (rec (if jump.isNone then .ready else .done) jump))).heap[w.heap.size + 1]? = some (.loop (rec (if jump.isNone then .ready else .done) jump)) ∧
            (W3.putObj (w.heap.size + 1) (.loop (rec (if jump.isNone then .ready else .done) jump))).heap[w.heap.size]? = some (.deferred (some [])) ∧ w.heap.size + 2 ≤ W3.heap.size := fun jump W3 hk3 => by
          have hl3 := hk3.2.2.trans hl2
          have hd3 := hk3.2.1.trans hk2
          have hz3 := hk3.1
          have := run_endRound (P := P) jump hl3
          rw [hrec] at this ⊢
          exact ⟨this, World.putObj_heap_same (Array.getElem?_eq_some_iff.1 hl3).1, (World.putObj_heap_other (by omega)).trans hd3, by omega⟩
        rintro e a3 W3 hp
        cases e with
        | normal =>
          obtain ⟨hk3, hkp3, hok3, hi3⟩ := hp
          obtain ⟨hr, hl4, hd4, hlt3⟩ := fin none W3 hk3
          exact ⟨_, _, hr, .inl ⟨rfl, hok3, ⟨hI _ _ _ hi3 (hput _ _), hl4, hd4⟩, hKt hkpa (hKt (hKt hw2 hkp3) (hKb _ _ hlt3))⟩⟩
        | ret =>
          obtain ⟨hk3, hi3⟩ := hp
          obtain ⟨hr, hl4, hd4, hlt3⟩ := fin (some .ret) W3 hk3
          exact ⟨_, _, hr, .inr ⟨rfl, .ret, hIx _ _ _ _ hi3 (hput _ _), hl4, hd4⟩⟩
        | exit id =>
          obtain ⟨hk3, hi3⟩ := hp
          obtain ⟨hr, hl4, hd4, hlt3⟩ := fin (some (.exit id)) W3 hk3
          exact ⟨_, _, hr, .inr ⟨rfl, .exit id, hIx _ _ _ _ hi3 (hput _ _), hl4, hd4⟩⟩
        | goto t =>
          obtain ⟨hk3, hi3⟩ := hp
          obtain ⟨hr, hl4, hd4, hlt3⟩ := fin (some (.goto t)) W3 hk3
          exact ⟨_, _, hr, .inr ⟨rfl, .goto t, hIx _ _ _ _ hi3 (hput _ _), hl4, hd4⟩⟩
        | panic ch => exact hp.elim
        | outgrown => exact hp.elim
      | ret => exact h.elim
      | exit id => exact h.elim
      | goto t => exact h.elim
      | panic ch => exact h.elim
      | outgrown => exact h.elim
    · rintro e W2 ⟨⟨v, rfl⟩, (⟨x, hx, ⟨hi, hl, hk⟩, hc⟩ | ⟨x, hx, c, hi, hl, hk⟩)⟩
      · have hlt := (Array.getElem?_eq_some_iff.1 hl).1
        exact ⟨none, _, by have := run_endLoop (P := P) hl (by rw [hrec]; simp); rw [hrec] at this; exact this, hdone _ x _ rfl hx (hI _ _ _ hi (hput _ _)) (hCb _ _ _ (by omega) hc) ((World.putObj_heap_other (by omega)).trans hk)⟩
      · exact ⟨some c, _, by have := run_endLoop (P := P) hl (by rw [hrec]; simp); rw [hrec] at this; exact this, hstop _ c x _ rfl hx (hIx _ _ _ _ hi (hput _ _)) ((World.putObj_heap_other (by omega)).trans hk)⟩
end

/-- the mark of a range over a func is taken off: nothing else moves -/
theorem leaves_one {F : Fence} {n : Nat} {P : Program} {fn : Func} {tmps : Array Value} {R : Ending → World → Prop} {D : Nat} {W : World} (h4 : W.heap[D]? = some (.deferred (some []))) (h : ∀ W', Bar (fun k => k = D) W W' → ∃ v, (results fn tmps).run P W' = .ok v W' ∧ R (.returned v) W') :
    LeavesInM F n P fn tmps R [{ target := .collected D, args := #[] }] .returning W :=
  ⟨by simp, .inl ⟨_, _, rfl, run_takeDeferred h4, h _ (bar_putObj (S := fun k => k = D) rfl _)⟩⟩
theorem leaves_none {F : Fence} {n : Nat} {P : Program} {fn : Func} {tmps : Array Value} {R : Ending → World → Prop} {W : World} (h : ∃ v, (results fn tmps).run P W = .ok v W ∧ R (.returned v) W) : LeavesInM F n P fn tmps R [] .returning W := h

end Go.Proofs.YtlcaboddkcpgaaaDoor
