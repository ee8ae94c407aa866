/- A region that draws its order, whose first operations only read (callees may lay memory) and whose last ones come in one forced order: walked once, in the order of the text. The first operations are taken as a region of their own, under the library's law; the whole region is held against it, step by step. -/
import Derived.Test.YtenplmmongphoaaZArr
import Derived.StillTail
import Derived.Lib.QuietBelow
namespace Go.Proofs.Ytenplmmongphoaa
open Go.RowKit Go.Shelf Go.Sort
set_option linter.unusedVariables false

section
variable {P : Program} {ops hd : Array Oper} {C : World → Prop} {n : Nat}
/-- the first operations, as a region of their own -/
structure HeadOf (ops hd : Array Oper) (n : Nat) : Prop where
  same : ∀ i, i < n → hd[i]? = ops[i]?
  size : hd.size = n
  bare : ∀ (i : Nat) (o : Oper), hd[i]? = some o → o.guard = none
  after : ∀ (i : Nat) (o : Oper), hd[i]? = some o → ∀ e ∈ o.after, Region.binds .any e = true → e.on < i
/-- of the first ones just the same have come up -/
def SameUp (n : Nat) (lh listed : Array Bool) : Prop := ∀ i, i < n → ∀ d, lh.getD i d = listed.getD i d
theorem getD_set_at {L : Array Bool} {i : Nat} (hi : i < L.size) (d : Bool) : (L.setIfInBounds i true).getD i d = true := by simp [Array.getD, hi]
theorem SameUp.up {lh listed : Array Bool} (h : SameUp n lh listed) {i : Nat} (h1 : i < lh.size) (h2 : i < listed.size) : SameUp n (lh.setIfInBounds i true) (listed.setIfInBounds i true) := by
  intro j hj d
  by_cases e : j = i
  · subst e
    rw [getD_set_at h1, getD_set_at h2]
  · rw [getD_set_ne d (fun x => e x.symm), getD_set_ne d (fun x => e x.symm)]
    exact h j hj d
theorem ready_head {lh listed : Array Bool} (h : HeadOf ops hd n) (hu : SameUp n lh listed) {i : Nat} (hi : i < n) : i ∈ Region.ready .any hd lh ↔ i ∈ Region.ready .any ops listed := by
  rw [mem_ready, mem_ready, hu i hi, h.same i hi]
  have key : ∀ o, ops[i]? = some o → ∀ e ∈ o.after, Region.binds .any e = true → lh.getD e.on false = listed.getD e.on false := fun o ho e he hb =>
    hu e.on (Nat.lt_trans (h.after i o ((h.same i hi).trans ho) e he hb) hi) false
  constructor <;> rintro ⟨h1, o, ho, ha⟩
  · exact ⟨h1, o, ho, fun e he hb => (key o ho e he hb).symm.trans (ha e he hb)⟩
  · exact ⟨h1, o, ho, fun e he hb => (key o ho e he hb).trans (ha e he hb)⟩
theorem offs_all {L : Array Bool} (h : ∀ i, i < L.size → upB L i = true) : offs L = 0 := by
  unfold offs
  rw [List.length_eq_zero_iff, List.filter_eq_nil_iff]
  intro b hb
  obtain ⟨i, hi, rfl⟩ := List.mem_iff_getElem.1 hb
  have hs : i < L.size := by simpa using hi
  have := h i hs
  simp [upB, Array.getD, hs] at this
  simp [this]
theorem qOp_head (h : HeadOf ops hd n) {i : Nat} (hi : i < n) {K : Act → Prop} {a : Act} (hq : qOp P hd C i K a) : qOp P ops C i K a := by
  unfold qOp at hq ⊢
  rw [← h.same i hi]
  cases ho : hd[i]? with
  | none => rw [ho] at hq; exact hq
  | some o =>
    rw [ho] at hq
    have hg : ∀ y, Region.wanted o y = true := fun y => by simp [Region.wanted, h.bare i o ho]
    simpa only [hg, if_true] using hq

/-- step by step: as long as one of the first ones is to come, the whole region goes as they do -/
theorem whole_of_head {g : Nat} {Q : Act → Prop} {Q' : Exit → Act → World → Prop} (h : HeadOf ops hd n) (hs : Region.sinkB .any ops n = true) (hc : Region.chainB .any ops n = true) (hn : n < ops.size)
    (hT : ∀ (listed : Array Bool) (a : Act) (w : World), HeadInv .any ops n listed → (∀ i, i < n → listed.getD i true = true) → C w → Q a → wpAny P .any ops Q' g listed a w) :
    ∀ (f : Nat) (lh listed : Array Bool) (a : Act) (w : World), lh.size = n → SameUp n lh listed → HeadInv .any ops n listed → offs lh = f → C w → wpAnyQ P .any hd C Q f lh a → wpAny P .any ops Q' (f + g) listed a w := by
  intro f
  induction f with
  | zero =>
    intro lh listed a w hl hu inv ho hw hq
    rw [Nat.zero_add]
    exact hT listed a w inv (fun i hi => (hu i hi true).symm.trans (offs_zero ho i (by omega))) hw hq.2
  | succ f ih =>
    intro lh listed a w hl hu inv ho hw hq
    have hne : Region.ready .any hd lh ≠ [] := fun e => by
      have := offs_all (L := lh) (fun i hi => all_up (by rw [hl, h.size]) h.after e i (by rw [h.size]; omega))
      omega
    obtain ⟨i0, hi0⟩ := List.exists_mem_of_ne_nil _ hne
    obtain ⟨u0, o0, e0, _⟩ := mem_ready.1 hi0
    have hlt0 : i0 < n := by have := (Array.getElem?_eq_some_iff.1 e0).1; rw [h.size] at this; exact this
    have hr0 := (ready_head h hu hlt0).1 hi0
    rw [show f + 1 + g = (f + g) + 1 by omega]
    refine ⟨fun e => absurd (e ▸ hr0) (List.not_mem_nil), fun i hi => ?_⟩
    have hin : i < n := by
      false_or_by_contra
      rename_i hge
      exact tail_waits hs hc hn inv _ i0 rfl hlt0 (mem_ready.1 hr0).1 i (by omega) hi
    have hih := (ready_head h hu hin).2 hi
    refine wpOp_of_qOp hw (fun a' w' hw' hq' => ?_) (qOp_head h hin (hq.2 i hih))
    exact ih _ _ a' w' (by simpa using hl) (hu.up (by omega) (by have := inv.size; omega)) (inv.set hi hin) (by have := offs_set (mem_ready.1 hih).1; omega) hw' hq'

/-- what is asked of the text of the region -/
def headB (l : List Oper) (n : Nat) : Bool :=
  Region.lexB .any (l.take n).toArray && decide (n < l.length) && Region.sinkB .any l.toArray n && Region.chainB .any l.toArray n && (l.take n).all (fun o => o.guard.isNone) &&
    (List.range n).all (fun i => ((l.take n).toArray[i]?.map fun o => o.after.all fun e => !(Region.binds .any e) || decide (e.on < i)).getD true) &&
    Region.seqB .any l.toArray (l.length - n) n (Array.replicate n true ++ Array.replicate (l.length - n) false)
theorem headOf_text {l : List Oper} (hn : n < l.length) (hg : (l.take n).all (fun o => o.guard.isNone) = true)
    (ha : (List.range n).all (fun i => ((l.take n).toArray[i]?.map fun o => o.after.all fun e => !(Region.binds .any e) || decide (e.on < i)).getD true) = true) : HeadOf l.toArray (l.take n).toArray n := by
  refine ⟨fun i hi => by simp [hi], by simp; omega, fun i o ho => ?_, fun i o ho e he hb => ?_⟩
  · have hm : o ∈ l.take n := List.mem_of_getElem? (by simpa using ho)
    simpa using List.all_eq_true.1 hg o hm
  · have hi : i < n := by have := (Array.getElem?_eq_some_iff.1 ho).1; simp at this; omega
    have := List.all_eq_true.1 ha i (List.mem_range.2 hi)
    rw [ho] at this
    simp only [Option.map_some, Option.getD_some] at this
    have := Array.all_eq_true_iff_forall_mem.1 this e he
    simpa [hb] using this
theorem up_text {l : List Oper} {listed : Array Bool} (hn : n < l.length) (inv : HeadInv .any l.toArray n listed) (hh : ∀ i, i < n → listed.getD i true = true) : listed = Array.replicate n true ++ Array.replicate (l.length - n) false := by
  have hs : listed.size = l.length := by simpa using inv.size
  apply Array.ext
  · simp; omega
  · intro i h1 h2
    by_cases hi : i < n
    · have := hh i hi
      simp only [Array.getD, h1, dite_true] at this
      rw [Array.getElem_append_left (by simpa using hi)]
      simpa using this
    · have := inv.tail i (by omega) (by simpa using (show i < l.length by omega))
      simp only [Array.getD, h1, dite_true] at this
      rw [Array.getElem_append_right (by simp; omega)]
      simpa using this

theorem wp_region_quiet_tail {id : Nat} {Q : Exit → Act → World → Prop} {a : Act} {w : World} {l : List Oper} (n : Nat) (hm : P.follows .mixedOrders = true) (hB : headB l n = true) (hC : C { w with drawn := w.drawn + 1 })
    (h : wpQuiet P (l.take n).toArray C (fun a' => ∀ w', C w' → wpList P l.toArray Q (l.drop n) a' w') (l.take n) a) : (Code.region id l.toArray true).wp P Q a w := by
  simp only [headB, Bool.and_eq_true, decide_eq_true_eq] at hB
  obtain ⟨⟨⟨⟨⟨⟨hlex, hn⟩, hs⟩, hc⟩, hg⟩, ha⟩, hq⟩ := hB
  simp only [Region.lexB, Bool.and_eq_true] at hlex
  have htl : (l.take n).length = n := by simp; omega
  have hH := wpAnyQ_lex (C := C) (md := .any) hlex.1 (l.take n) 0 (Array.replicate n false) a (by simp) (by rw [htl]; have := hlex.2; rwa [show (l.take n).toArray.size = n by simp; omega] at this) h
  rw [htl] at hH
  refine wp_region_any hm ?_
  have hlz : l.toArray.size = n + (l.length - n) := by simp; omega
  rw [hlz]
  refine whole_of_head (headOf_text hn hg ha) hs hc (by simpa using hn) ?_ n (Array.replicate n false) _ a _ (by simp) ?_ ?_ ?_ hC hH
  · intro listed a' w' inv hh hw' hq'
    obtain rfl := up_text hn inv hh
    have := wpAny_of_seq (md := .any) (Q' := Q) (l.drop n) n _ a' w' (fun j => by simp [List.getElem?_drop]) (by rw [List.length_drop]; exact hq) (hq' w' hw')
    rwa [List.length_drop] at this
  · intro i hi d
    have h1 : i < n + (l.length - n) := by omega
    simp [Array.getD, hi, h1]
  · exact ⟨by simp; omega, fun j oj _ hl => (by rw [getD_replicate_false] at hl; cases hl), fun t _ ht => getD_in (by simp at ht ⊢; omega) (getD_replicate_false _ _)⟩
  · unfold offs
    simp

/-- callees that lay memory -/
theorem wp_region_below_tail {id : Nat} {Q : Exit → Act → World → Prop} {a : Act} {w : World} {l : List Oper} (n : Nat) (hm : P.follows .mixedOrders = true) (hB : headB l n = true)
    (h : wpQuiet P (l.take n).toArray (fun w' => ∃ p : Regrown, w' = grow (redrawn w p.d) p.os) (fun a' => ∀ w', (∃ p : Regrown, w' = grow (redrawn w p.d) p.os) → wpList P l.toArray Q (l.drop n) a' w') (l.take n) a) : (Code.region id l.toArray true).wp P Q a w :=
  wp_region_quiet_tail (C := fun w' => ∃ p : Regrown, w' = grow (redrawn w p.d) p.os) n hm hB ⟨⟨w.drawn + 1, #[]⟩, by rw [grow_empty]; rfl⟩ h
end

end Go.Proofs.Ytenplmmongphoaa
