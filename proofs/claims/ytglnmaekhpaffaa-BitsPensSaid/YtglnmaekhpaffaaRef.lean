/- The reference's pen (praxinoscoperef01.Pen): what it holds; the contracts of its Put and Code. -/
import Derived.Test.YtglnmaekhpaffaaBytes
import Derived.Deep.RegionLaw
namespace Go.Proofs.Ytglnmaekhpaffaa
open Go.RowKit Go.Shelf
set_option linter.unusedVariables false

theorem Try.info3 : (Try.prog.info? 3).map (fun i => (i.zero, i.size, i.bytes)) = some (some (.int .i64 0), 1, 8) := by kernel_rfl

/-- append to an owned row, as one step of a region that draws its order -/
theorem step_append_where {P : Program} (w : World) {ops : Array Oper} {o : Oper} {a : Act} {K : Act → World → Prop} {Q : Exit → Act → World → Prop} {E : Prop} (hgd : o.guard = none) (s x : Operand) (t : TypeId)
    (ho : o.op = .call { callee := .builtin .append, args := #[s, x], argTypes := #[t, t] })
    (base : Nat) (e : TypeId) (i : TypeInfo) (z : Value) (size bytes : Nat) (ht : P.underlying t = some (.slice e)) (hi : P.info? e = some i) (hz : i.zero = some z)
    (hsize : i.size = size) (hby : i.bytes = bytes) (hzs : z.cells.size = size) (hsz : 0 < size) (v : Value) (n : Nat) (xs : List Value) (hs : a.eval s = v) (hown : w.ownsRow base e size v n xs)
    (ad : Addr) (m c : Nat) (news : List Value) (hx : a.eval x = .slice (some ad) m c) (hl : news.length = m * size) (hnews : ∀ j u, news[j]? = some u → w.cell? (ad.add j) = some u) (h1 : ∀ u ∈ news, u.oneCell' = true)
    (h63 : n + m ≤ maxLen) (hbytes : (n + m) * bytes ≤ 140737488355328) (hbase : base ≤ w.heap.size)
    (h : ∀ v' w', w'.ownsRow base e size v' (n + m) (xs ++ news) → w.grownBy w' v.ownBlock → (∀ k, v'.ownBlock = some k → v.ownBlock = some k ∨ w.heap.size ≤ k) → K (a.put o.dst v') w') :
    if Region.wanted o (yielded ops a.tmps) = true then Oper.wp P o a w K Q else E := by
  have hw : Region.wanted o (yielded ops a.tmps) = true := by simp [Region.wanted, hgd]
  rw [if_pos hw]
  obtain ⟨v', w', hr, h2, h3, _⟩ := run_append_own (P := P) w base t o.type e i z size bytes ht hi hz hsize hby hzs hsz v n xs hown ad m c news hl hnews h1 h63 hbytes hbase
  have h4 := append_where w t o.type e i z size bytes ht hi hz hsize hby hzs hsz base v n xs hown ad m c news hl hnews h1 h63 hbytes hr
  unfold Oper.wp execOp
  simp only [ho, resolve, invoke, builtin, Sem.run_bind, Sem.run_pure, Result.andThen_ok, List.map_toArray, List.map_cons, List.map_nil, hs, hx, hr]
  exact h v' w' h2 h3 h4

abbrev i64s (L : List Bool) : List Value := L.map fun x => Value.int .i64 x.toNat
abbrev refCells (v : Value) : Obj := .cells #[v] 30 (0, 0)
/-- the reference's pen in block b wrote the bits L; its list lies in block g -/
def IsRef (w : World) (b : Nat) (g : Option Nat) (L : List Bool) : Prop :=
  ∃ v, v.ownBlock = g ∧ w.heap[b]? = some (refCells v) ∧ w.ownsRow 0 3 1 v L.length (i64s L) ∧ L.length ≤ 16777216
theorem IsRef.apart {w : World} {b : Nat} {g : Option Nat} {L : List Bool} (h : IsRef w b g L) : g ≠ some b := by
  obtain ⟨v, rfl, hb, hr, _⟩ := h
  intro e
  rcases hr.2 with ⟨rfl, _⟩ | ⟨g', cap, cur, rfl, _, hg, _⟩
  · simp [Value.ownBlock] at e
  · simp [Value.ownBlock] at e
    subst e
    rw [hb] at hg
    simp [refCells] at hg
theorem IsRef.lt {w : World} {b : Nat} {g : Option Nat} {L : List Bool} (h : IsRef w b g L) : b < w.heap.size ∧ ∀ k, g = some k → k < w.heap.size := by
  obtain ⟨v, rfl, hb, hr, _⟩ := h
  exact ⟨(Array.getElem?_eq_some_iff.1 hb).1, fun k e => (hr.lt k e).2⟩
theorem IsRef.bar {S : Nat → Prop} {w w' : World} {b : Nat} {g : Option Nat} {L : List Bool} (h : IsRef w b g L) (hb : Bar S w w') (h1 : ¬ S b) (h2 : ∀ k, g = some k → ¬ S k) : IsRef w' b g L := by
  have hlt := h.lt
  obtain ⟨v, rfl, hc, hr, hl⟩ := h
  refine ⟨v, rfl, (hb.block b hlt.1 h1).trans hc, ⟨hr.1, ?_⟩, hl⟩
  rcases hr.2 with hn | ⟨g', cap, cur, rfl, hbb, hg, rest⟩
  · exact .inl hn
  · exact .inr ⟨g', cap, cur, rfl, hbb, (hb.block g' (hlt.2 g' rfl) (h2 g' rfl)).trans hg, rest⟩
def RefWrote (w w' : World) (b : Nat) (g : Option Nat) (L : List Bool) : Prop :=
  ∃ g', IsRef w' b g' L ∧ Bar (fun k => k = b ∨ g = some k) w w' ∧ ∀ k, g' = some k → g = some k ∨ w.heap.size ≤ k
theorem RefWrote.refl {w : World} {b : Nat} {g : Option Nat} {L : List Bool} (h : IsRef w b g L) : RefWrote w w b g L := ⟨g, h, Bar.refl _ _, fun k e => .inl e⟩
theorem RefWrote.trans {w w1 w2 : World} {b : Nat} {g g' : Option Nat} {L' : List Bool} (hb : Bar (fun k => k = b ∨ g = some k) w w1) (hg : ∀ k, g' = some k → g = some k ∨ w.heap.size ≤ k) (k : RefWrote w1 w2 b g' L') : RefWrote w w2 b g L' := by
  obtain ⟨g2, hp, hb2, hg2⟩ := k
  refine ⟨g2, hp, hb.trans hb2 (fun j hj e => ?_), fun j e => ?_⟩
  · rcases e with rfl | e
    · exact .inl rfl
    · rcases hg j e with h | h
      · exact .inr h
      · omega
  · rcases hg2 j e with h | h
    · exact hg j h
    · exact .inr (Nat.le_trans hb.size h)
theorem ref_cell {w : World} {b : Nat} {v : Value} (h : w.heap[b]? = some (refCells v)) : w.cell? ⟨b, 0, none⟩ = some v ∧ w.frozen? ⟨b, 0, none⟩ = false := by
  simp [World.cell?, World.frozen?, h, refCells]

/-- one bit more, behind an append and a store -/
theorem ref_append {w w1 : World} {b : Nat} {v v' : Value} {L : List Bool} {x : Bool} {o : Obj} (hb : w.heap[b]? = some (refCells v)) (hr : w.ownsRow 0 3 1 v L.length (i64s L)) (hl : L.length < 16777216)
    (hown : w1.ownsRow 0 3 1 v' (L.length + 1) (i64s L ++ [Value.int .i64 x.toNat])) (hgrow : (w.alloc o).grownBy w1 v.ownBlock) (hwh : ∀ k, v'.ownBlock = some k → v.ownBlock = some k ∨ (w.alloc o).heap.size ≤ k) :
    (w1.cell? ⟨b, 0, none⟩ = some v ∧ w1.frozen? ⟨b, 0, none⟩ = false) ∧ RefWrote w (w1.setCell ⟨b, 0, none⟩ v') b v.ownBlock (L ++ [x]) := by
  have href : IsRef w b v.ownBlock L := ⟨v, rfl, hb, hr, by omega⟩
  have hap := href.apart
  have hlt := href.lt
  have hb1 : w1.heap[b]? = some (refCells v) := (hgrow.block b (by simp; omega) (fun e => hap e.symm)).trans ((Below.heap_alloc _ _ _ hlt.1).trans hb)
  have hne : ∀ k, v'.ownBlock = some k → k ≠ b := by
    intro k hk e
    subst e
    rcases hwh k hk with h | h
    · exact hap h
    · simp at h; omega
  refine ⟨ref_cell hb1, v'.ownBlock, ⟨v', rfl, ?_, ?_, by simp; omega⟩, ?_, fun k e => (hwh k e).imp id (fun h => by simp at h; omega)⟩
  · rw [heap_setCell_same _ _ _ _ _ _ hb1]; simp [refCells]
  · have h3 := hown.kept (w' := w1.setCell ⟨b, 0, none⟩ v') (row := some b) ⟨rfl, rfl, rfl, by simp [World.setCell], fun k _ hk => heap_setCell_other _ _ _ _ (fun e => hk (by rw [e]))⟩ (by
      cases hv : v'.ownBlock with
      | none => exact .inl rfl
      | some k => exact .inr (by simp; exact hne k hv))
    simpa [i64s] using h3
  · exact (((Bar.refl _ w).alloc o).trans (bar_of_grown (S := fun k => v.ownBlock = some k) hgrow (fun k e => e)) (fun j _ e => .inr e)).setCell (fun _ => .inl rfl) _

end Go.Proofs.Ytglnmaekhpaffaa
