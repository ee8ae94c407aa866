/- A range over a func whose iterator itself ranges over a func: the iterator is told, of each round, that what was laid since it began lies as it lay. -/
import Derived.Test.YtlcaboddkcpgaaaDoorFind
namespace Go.Proofs.YtlcaboddkcpgaaaDoor
open Go.RowKit Go.Shelf
set_option linter.unusedVariables false

theorem room_free {F : Fence} (hd : F.depth = none) (k : Nat) : F.room k := fun d h => by rw [hd] at h; cases h
/-- where no depth is asked a round's figure is free -/
theorem yield_depth {F : Fence} (hd : F.depth = none) {m : Nat} (m' : Nat) {P : Program} {l : Nat} {args : Array Value} {W : World} {R : Ending → World → Prop} (h : YieldAt F m P l args W R) : YieldAt F m' P l args W R := by
  obtain ⟨fn, tmps, assign, body, hy, hR⟩ := h
  exact ⟨fn, tmps, assign, body, hy, hR.1, fun c cs _ => hR.2 c cs (room_free hd _)⟩

/-- what lay from B on lies as it lay -/
def KeepsHi (B : Nat) (W W' : World) : Prop := W.heap.size ≤ W'.heap.size ∧ ∀ k, B ≤ k → k < W.heap.size → W'.heap[k]? = W.heap[k]?
theorem KeepsHi.alloc (B : Nat) (W : World) (o : Obj) : KeepsHi B W (W.alloc o) := ⟨by simp, fun k _ h => Below.heap_alloc _ _ _ h⟩
theorem KeepsHi.refl (B : Nat) (W : World) : KeepsHi B W W := ⟨Nat.le_refl _, fun _ _ _ => rfl⟩
theorem KeepsHi.trans {B : Nat} {X Y Z : World} (h : KeepsHi B X Y) (k : KeepsHi B Y Z) : KeepsHi B X Z := ⟨Nat.le_trans h.1 k.1, fun i hB hi => (k.2 i hB (Nat.lt_of_lt_of_le hi h.1)).trans (h.2 i hB hi)⟩
/-- what lay from B to m lies as it lay -/
def KeepsMid (B m : Nat) (W W' : World) : Prop := W.heap.size ≤ W'.heap.size ∧ ∀ k, B ≤ k → k < m → W'.heap[k]? = W.heap[k]?
theorem KeepsMid.refl (B m : Nat) (W : World) : KeepsMid B m W W := ⟨Nat.le_refl _, fun _ _ _ => rfl⟩
theorem KeepsMid.set {B m : Nat} {X Y : World} (h : KeepsMid B m X Y) (p : Addr) (v : Value) (hp : p.block < B ∨ m ≤ p.block) : KeepsMid B m X (Y.setCell p v) :=
  ⟨by simpa using h.1, fun k hk hm => (heap_setCell_other Y p k v (by omega)).trans (h.2 k hk hm)⟩

/-- an iterator hands over N things, one after another; J: so many have come; Jx: at which one no more was wanted -/
def SeqT (F : Fence) (n : Nat) (P : Program) (g : Nat) (lb : Array Value) (encs : Nat → Array Value) (Kp : World → World → Prop) (N : Nat) (w : World) : Prop :=
  ∀ (l : Nat) (J Jx : Nat → World → Prop) (W : World), Below w.heap.size w W → (∀ s A B, J s A → Below W.heap.size A B → J s B) → (∀ s A B, Jx s A → Below W.heap.size A B → Jx s B) →
    (∀ x W1, J x W1 → W.heap.size ≤ W1.heap.size → x < N → YieldAt F (n - 1) P l (encs x) W1 fun e W' =>
      KeepsHi W.heap.size W1 W' ∧ ((e = .returned (.bool true) ∧ J (x + 1) W' ∧ Kp W1 W') ∨ (e = .returned (.bool false) ∧ Jx x W'))) →
    J 0 W →
    CallsIn F n P g (#[.func (.yield l) #[] #[]] ++ lb) W fun e W' => (∃ v, e = .returned v) ∧ (J N W' ∨ (∃ x, x < N ∧ Jx x W'))

/-- how the body of a round may be left -/
def postT (B m : Nat) (Kp : World → World → Prop) (I : Nat → World → Prop) (Ix : Code → Nat → World → Prop) (x : Nat) (W : World) : Exit → Act → World → Prop
  | .normal, _, W' => KeepsMid B m W W' ∧ Kp W W' ∧ I (x + 1) W'
  | .ret, _, W' => KeepsMid B m W W' ∧ Ix .ret x W'
  | .exit id, _, W' => KeepsMid B m W W' ∧ Ix (.exit id) x W'
  | .goto t, _, W' => KeepsMid B m W W' ∧ Ix (.goto t) x W'
  | .panic _, _, _ => False
  | .outgrown, _, _ => False

section
variable {F : Fence} {n : Nat} {P : Program}
theorem wpIn_range_T {g : Operand} {ps : Array Tmp} {assign body : Code} {Q : Exit → Act → World → Prop} {a : Act} {w : World}
    (hro : F.round = none) (h1 : 1 ≤ n) {gf : Nat} {lb : Array Value} (hg : a.eval g = .func (.func gf) #[] lb) (hFg : F.fn gf) (eg : ∀ args w, (callFunc gf args).run P w = .ok (.enter gf args) w)
    {encs : Nat → Array Value} {Kp : World → World → Prop} {N : Nat} {w0 : World} (hseq : SeqT F (n - 1) P gf lb encs Kp N w0)
    (hKt : ∀ {A B C : World}, Kp A B → Kp B C → Kp A C) (hKb : ∀ (W : World) (r : Loop) (o' : Obj), W.heap[w.heap.size + 1]? = some (.loop r) → Kp W (W.putObj (w.heap.size + 1) o')) (hb0 : Below w0.heap.size w0 w) (hps : ∀ x, (encs x).size = ps.size)
    (I : Nat → World → Prop) (Ix : Code → Nat → World → Prop) (hI : ∀ s A B, I s A → Below w.heap.size A B → I s B) (hIx : ∀ c s A B, Ix c s A → Below w.heap.size A B → Ix c s B) (h0 : I 0 w)
    (hround : ∀ (x : Nat) (W : World), I x W → w.heap.size + 2 ≤ W.heap.size → x < N →
      assign.wpIn (F.inRound (w.heap.size + 1)) (n - 1 - 1) P (Exit.then (fun a₁ W₁ => KeepsHi 0 W W₁ ∧ Kp W W₁ ∧ ∀ W₂, Below w.heap.size W₁ W₂ → W₂.heap.size = W₁.heap.size → (∀ k, k ≠ w.heap.size + 1 → W₂.heap[k]? = W₁.heap[k]?) →
          body.wpIn (F.inRound (w.heap.size + 1)) (n - 1 - 1) P (postT w.heap.size W.heap.size Kp I Ix x W₂) a₁ W₂) (fun _ _ _ => False))
        { tmps := (ps.zip (encs x)).foldl (fun t (p, v) => t.setIfInBounds p v) a.tmps, defers := [] } W)
    (hdone : ∀ (D : Nat) (W : World), D = w.heap.size → I N W → W.heap[D]? = some (.deferred (some [])) → Q .normal { a with defers := { target := .collected D, args := #[] } :: a.defers } W)
    (hstop : ∀ (D : Nat) (c : Code) (x : Nat) (W : World), D = w.heap.size → x < N → Ix c x W → W.heap[D]? = some (.deferred (some [])) → c.wpIn F n P Q { a with defers := { target := .collected D, args := #[] } :: a.defers } W) :
    (Code.rangeFunc g ps assign body).wpIn F n P Q a w := by
  refine wpIn_rangeFunc ?_
  intro fn hfn
  rw [hro]
  obtain ⟨rec, hrec⟩ : ∃ rec : LoopState → Option Code → Loop, rec = fun st pe => { state := st, pending := pe, fn, tmps := a.tmps, params := ps, assign, body, defers := w.heap.size } := ⟨_, rfl⟩
  obtain ⟨W1, hW1⟩ : ∃ W1, (w.alloc (.deferred (some []))).alloc (.loop (rec .ready none)) = W1 := ⟨_, rfl⟩
  have hz1 : W1.heap.size = w.heap.size + 2 := by rw [← hW1]; simp
  have hL1 : W1.heap[w.heap.size + 1]? = some (.loop (rec .ready none)) := by
    rw [← hW1]; have := World.alloc_heap_new (w.alloc (.deferred (some []))) (.loop (rec .ready none)); rwa [World.size_alloc] at this
  have hK1 : W1.heap[w.heap.size]? = some (.deferred (some [])) := by
    rw [← hW1]; exact (Below.heap_alloc _ _ _ (by simp)).trans (World.alloc_heap_new w _)
  have hbw : Below w.heap.size w W1 := by rw [← hW1]; exact ((Below.refl _ w).alloc (Nat.le_refl _) _).alloc (by simp) _
  have hI1 : I 0 W1 := hI _ _ _ h0 hbw
  have hb1 : Below w0.heap.size w0 W1 := hb0.trans (hbw.mono hb0.size)
  have hput : ∀ (W : World) (o : Obj), w.heap.size + 1 < W.heap.size → Below w.heap.size W (W.putObj (w.heap.size + 1) o) := fun W o h =>
    (Below.refl _ W).grown (grownBy_putObj' W (w.heap.size + 1) o) (by omega) (fun k e => by cases e; omega)
  refine ⟨w.heap.size + 1, [{ target := .collected w.heap.size, args := #[] }], W1, { target := .fn (.func gf) lb, args := #[.func (.yield (w.heap.size + 1)) #[] #[]] }, W1, gf,
    #[.func (.yield (w.heap.size + 1)) #[] #[]] ++ lb, W1, ?_, ?_, ?_, ?_, fun _ => h1, ?_⟩
  · rw [← hW1, hrec]; exact run_enterLoop_outer _ _ _ _ _
  · simp only [resolve, hg]
    simp [go_sem]
  · intro f' hf'; simp [Target.leads] at hf'; subst hf'; exact hFg
  · simp [invoke, go_sem, eg]
  · refine (hseq (w.heap.size + 1)
      (fun pre W => I pre W ∧ W.heap[w.heap.size + 1]? = some (.loop (rec .ready none)) ∧ W.heap[w.heap.size]? = some (.deferred (some [])))
      (fun pre W => ∃ c, Ix c pre W ∧ W.heap[w.heap.size + 1]? = some (.loop (rec .done (some c))) ∧ W.heap[w.heap.size]? = some (.deferred (some [])))
      W1 hb1
      (fun s A B hs hb => ⟨hI s A B hs.1 (hb.mono (by omega)), (hb.block _ (by omega)).trans hs.2.1, (hb.block _ (by omega)).trans hs.2.2⟩)
      (fun s A B hs hb => by
        obtain ⟨c, hc, hl, hk⟩ := hs
        exact ⟨c, hIx c s A B hc (hb.mono (by omega)), (hb.block _ (by omega)).trans hl, (hb.block _ (by omega)).trans hk⟩)
      ?_ ⟨hI1, hL1, hK1⟩).mono ?_
    · rintro x W ⟨hi, hl, hk⟩ hsz hlen
      rw [hz1] at hsz
      have hy := run_yield (P := P) (args := encs x) hl (by rw [hrec]; exact hps x)
      rw [hrec] at hy
      refine ⟨fn, _, assign, body, hy, roundIn_of_wpIn hfn (wpIn_mono (hround x W hi hsz hlen) ?_)⟩
      clear hy
      rintro e a1 Wa h
      cases e with
      | normal =>
        obtain ⟨hka, hkpa, hbody⟩ := h
        have hla := (hka.2 _ (Nat.zero_le _) (by omega)).trans hl
        have hda := (hka.2 _ (Nat.zero_le _) (by omega)).trans hk
        have hza := hka.1
        refine ⟨_, run_beginRound hla (by rw [hrec]), ?_⟩
        have hlt : w.heap.size + 1 < Wa.heap.size := by omega
        have hl2 : (Wa.putObj (w.heap.size + 1) (.loop { rec .ready none with state := .busy })).heap[w.heap.size + 1]? = some (.loop { rec .ready none with state := .busy }) := World.putObj_heap_same hlt
        have hk2 : (Wa.putObj (w.heap.size + 1) (.loop { rec .ready none with state := .busy })).heap[w.heap.size]? = some (.deferred (some [])) := (World.putObj_heap_other (by omega)).trans hda
        have hw2 : Kp Wa (Wa.putObj (w.heap.size + 1) (.loop { rec .ready none with state := .busy })) := hKb _ _ _ hla
        have hz2 : (Wa.putObj (w.heap.size + 1) (.loop { rec .ready none with state := .busy })).heap.size = Wa.heap.size := by simp [World.putObj]
        refine wpIn_mono (hbody _ (hput _ _ hlt) hz2 (fun k hk => World.putObj_heap_other hk)) ?_
        have hot : ∀ k, k ≠ w.heap.size + 1 → (Wa.putObj (w.heap.size + 1) (.loop { rec .ready none with state := .busy })).heap[k]? = Wa.heap[k]? := fun k hk => World.putObj_heap_other hk
        generalize Wa.putObj (w.heap.size + 1) (.loop { rec .ready none with state := .busy }) = W2 at *
        have fin : ∀ (jump : Option Code) (W3 : World), KeepsMid w.heap.size W.heap.size W2 W3 →
            (Instr.endRound (w.heap.size + 1) jump).run P W3 = .ok (.bool jump.isNone) (W3.putObj (w.heap.size + 1) (.loop (rec (if jump.isNone then .ready else .done) jump))) ∧
            W3.heap[w.heap.size + 1]? = some (.loop { rec .ready none with state := .busy }) ∧
            (W3.putObj (w.heap.size + 1) (.loop (rec (if jump.isNone then .ready else .done) jump))).heap[w.heap.size + 1]? = some (.loop (rec (if jump.isNone then .ready else .done) jump)) ∧
            (W3.putObj (w.heap.size + 1) (.loop (rec (if jump.isNone then .ready else .done) jump))).heap[w.heap.size]? = some (.deferred (some [])) ∧
            KeepsHi W1.heap.size W (W3.putObj (w.heap.size + 1) (.loop (rec (if jump.isNone then .ready else .done) jump))) ∧ w.heap.size + 1 < W3.heap.size := fun jump W3 hk3 => by
          have hl3 := (hk3.2 (w.heap.size + 1) (by omega) (by omega)).trans hl2
          have hd3 := (hk3.2 w.heap.size (by omega) (by omega)).trans hk2
          have hz3 := hk3.1
          have := run_endRound (P := P) jump hl3
          rw [hrec] at this ⊢
          refine ⟨this, by rw [hrec] at hl3; exact hl3, World.putObj_heap_same (Array.getElem?_eq_some_iff.1 hl3).1, (World.putObj_heap_other (by omega)).trans hd3, ⟨?_, fun k hk hkl => ?_⟩, by omega⟩
          · simp [World.putObj]; omega
          · rw [World.putObj_heap_other (by omega), hk3.2 k (by omega) hkl, hot k (by omega), hka.2 k (Nat.zero_le _) hkl]
        rintro e a3 W3 hp
        cases e with
        | normal =>
          obtain ⟨hk3, hkp3, hi3⟩ := hp
          obtain ⟨hr, hl3, hl4, hd4, hh, hlt3⟩ := fin none W3 hk3
          exact ⟨_, _, hr, hh, .inl ⟨rfl, ⟨hI _ _ _ hi3 (hput _ _ hlt3), hl4, hd4⟩, hKt hkpa (hKt (hKt hw2 hkp3) (hKb _ _ _ hl3))⟩⟩
        | ret =>
          obtain ⟨hk3, hi3⟩ := hp
          obtain ⟨hr, hl3, hl4, hd4, hh, hlt3⟩ := fin (some .ret) W3 hk3
          exact ⟨_, _, hr, hh, .inr ⟨rfl, .ret, hIx _ _ _ _ hi3 (hput _ _ hlt3), hl4, hd4⟩⟩
        | exit id =>
          obtain ⟨hk3, hi3⟩ := hp
          obtain ⟨hr, hl3, hl4, hd4, hh, hlt3⟩ := fin (some (.exit id)) W3 hk3
          exact ⟨_, _, hr, hh, .inr ⟨rfl, .exit id, hIx _ _ _ _ hi3 (hput _ _ hlt3), hl4, hd4⟩⟩
        | goto t =>
          obtain ⟨hk3, hi3⟩ := hp
          obtain ⟨hr, hl3, hl4, hd4, hh, hlt3⟩ := fin (some (.goto t)) W3 hk3
          exact ⟨_, _, hr, hh, .inr ⟨rfl, .goto t, hIx _ _ _ _ hi3 (hput _ _ hlt3), hl4, hd4⟩⟩
        | panic ch => exact hp.elim
        | outgrown => exact hp.elim
      | ret => exact h.elim
      | exit id => exact h.elim
      | goto t => exact h.elim
      | panic ch => exact h.elim
      | outgrown => exact h.elim
    · rintro e W2 ⟨⟨v, rfl⟩, (⟨hi, hl, hk⟩ | ⟨x, hx, c, hi, hl, hk⟩)⟩
      · exact ⟨none, _, by have := run_endLoop (P := P) hl (by rw [hrec]; simp); rw [hrec] at this; exact this, hdone _ _ rfl (hI _ _ _ hi (hput _ _ (Array.getElem?_eq_some_iff.1 hl).1)) ((World.putObj_heap_other (by omega)).trans hk)⟩
      · exact ⟨some c, _, by have := run_endLoop (P := P) hl (by rw [hrec]; simp); rw [hrec] at this; exact this, hstop _ c x _ rfl hx (hIx _ _ _ _ hi (hput _ _ (Array.getElem?_eq_some_iff.1 hl).1)) ((World.putObj_heap_other (by omega)).trans hk)⟩
end

/-! ### the marks that ranges over funcs leave -/
def Marks (B : Nat) (W : World) : Nat → List Deferred → Prop
  | _, [] => True
  | hi, d :: ds => ∃ D, d = { target := .collected D, args := #[] } ∧ B ≤ D ∧ D < hi ∧ W.heap[D]? = some (.deferred (some [])) ∧ Marks B W D ds
theorem Marks.up {B : Nat} {W : World} : ∀ {hi hi' : Nat} {ds : List Deferred}, Marks B W hi ds → hi ≤ hi' → Marks B W hi' ds
  | _, _, [], _, _ => trivial
  | _, _, _ :: _, ⟨D, h1, h2, h3, h4, h5⟩, h => ⟨D, h1, h2, Nat.lt_of_lt_of_le h3 h, h4, h5⟩
theorem Marks.keep {B : Nat} {W W' : World} : ∀ {hi : Nat} {ds : List Deferred}, Marks B W hi ds → (∀ D, B ≤ D → D < hi → W.heap[D]? = some (.deferred (some [])) → W'.heap[D]? = some (.deferred (some []))) → Marks B W' hi ds
  | _, [], _, _ => trivial
  | _, _ :: _, ⟨D, h1, h2, h3, h4, h5⟩, h => ⟨D, h1, h2, h3, h D h2 h3 h4, h5.keep (fun D' a b c => h D' a (Nat.lt_trans b h3) c)⟩
theorem leaves_marks {F : Fence} {n : Nat} {P : Program} {fn : Func} {tmps : Array Value} {R : Ending → World → Prop} {B : Nat} :
    ∀ (ds : List Deferred) (hi : Nat) (W : World), Marks B W hi ds → (∀ W', Below B W W' → ∃ v, (results fn tmps).run P W' = .ok v W' ∧ R (.returned v) W') → LeavesInM F n P fn tmps R ds .returning W
  | [], _, W, _, h => h W (Below.refl _ _)
  | d :: ds, hi, W, ⟨D, h1, h2, h3, h4, h5⟩, h => by
    subst h1
    have hlt := (Array.getElem?_eq_some_iff.1 h4).1
    have hb : Below B W (W.putObj D (.deferred none)) := (Below.refl _ W).grown (grownBy_putObj' W D _) (by omega) (fun k e => by cases e; omega)
    refine ⟨by simp, .inl ⟨_, _, rfl, run_takeDeferred h4, ?_⟩⟩
    refine leaves_marks ds D _ (h5.keep (fun D' a b c => (World.putObj_heap_other (by omega)).trans c)) (fun W' hb' => h W' (hb.trans hb'))

end Go.Proofs.YtlcaboddkcpgaaaDoor
