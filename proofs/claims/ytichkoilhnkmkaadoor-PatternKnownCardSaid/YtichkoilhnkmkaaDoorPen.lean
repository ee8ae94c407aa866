/- Append to a row that the call owns: the law of the library, and besides: the row that comes out lies in the old block, or in a new one. Bits packed into bytes; what a pen holds; the contract of (*bits.Pen).push. -/
import Derived.WalkKit
import Derived.Test.YtichkoilhnkmkaaDoorRows
import Derived.Test.YtichkoilhnkmkaaDoorFind
import Derived.Laws.BitsAllLaws
import Derived.BigRegion
import Derived.Deep.QuietTactic
import Derived.BigQuiet
import Derived.StillTailTactics
/- Append to a row that the call owns: the law of the library, and besides: the row that comes out lies in the old block, or in a new one. -/
namespace Go.Proofs.YtichkoilhnkmkaaDoor
open Go.RowKit

theorem append_where {P : Program} (w : World) (t ty e : TypeId) (i : TypeInfo) (z : Value) (size bytes : Nat) (ht : P.underlying t = some (.slice e)) (hi : P.info? e = some i) (hz : i.zero = some z)
    (hsize : i.size = size) (hby : i.bytes = bytes) (hzs : z.cells.size = size) (hsz : 0 < size) (base : Nat) (v : Value) (n : Nat) (xs : List Value) (hown : w.ownsRow base e size v n xs)
    (a : Addr) (m c : Nat) (news : List Value) (hl : news.length = m * size) (hnews : ∀ j u, news[j]? = some u → w.cell? (a.add j) = some u) (h1 : ∀ u ∈ news, u.oneCell' = true)
    (h63 : n + m ≤ maxLen) (hbytes : (n + m) * bytes ≤ 140737488355328) {v' : Value} {w' : World} (hrun : (Builtin.append_ #[t, t] ty #[v, .slice (some a) m c]).run P w = .ok v' w') :
    ∀ k, v'.ownBlock = some k → v.ownBlock = some k ∨ w.heap.size ≤ k := by
  intro k hk
  rcases hown.2 with ⟨rfl, rfl⟩ | ⟨g, cap, cur, rfl, _, hg, hnc, _, hcs, _⟩
  · obtain ⟨v2, w2, h2, ho, _⟩ := run_append_own (P := P) w w.heap.size t ty e i z size bytes ht hi hz hsize hby hzs hsz _ 0 [] (World.ownsRow_nil _ _ _ _) a m c news hl hnews h1 h63 hbytes (Nat.le_refl _)
    have e2 : v2 = v' := by have := h2.symm.trans hrun; simp at this; exact this.1
    subst e2
    exact .inr (ho.lt k hk).1
  · subst hsize hby
    by_cases hroom : n + m ≤ cap
    · have hr := run_append_room (P := P) w t ty e i ht hi g n cap cur hg a m c news hl hnews h1 hroom (by rw [hl, hcs, ← Nat.add_mul]; exact Nat.mul_le_mul_right _ hroom)
      have e2 := hr.symm.trans hrun
      simp only [Result.ok.injEq] at e2
      rw [← e2.1] at hk
      exact .inl (by simpa [Value.ownBlock] using hk)
    · have hr := run_append_grow (P := P) w t ty e i z ht hi hz ⟨g, 0, none⟩ n cap xs hown.1 (hown.cells (g := g) rfl) a m c news hl hnews (by omega) (by simp only [maxLen] at h63; omega) (growslice_fits (by omega) hbytes)
      have e2 := hr.symm.trans hrun
      simp only [Result.ok.injEq] at e2
      rw [← e2.1] at hk
      simp [Value.ownBlock] at hk
      exact .inr (by omega)

theorem wpList_append_where {P : Program} (w : World) {ops : Array Oper} {rest : List Oper} {o : Oper} {a : Act} {Q : Exit → Act → World → Prop} (hgd : o.guard = none) (s x : Operand) (t : TypeId)
    (ho : o.op = .call { callee := .builtin .append, args := #[s, x], argTypes := #[t, t] })
    (base : Nat) (e : TypeId) (i : TypeInfo) (z : Value) (size bytes : Nat) (ht : P.underlying t = some (.slice e)) (hi : P.info? e = some i) (hz : i.zero = some z)
    (hsize : i.size = size) (hby : i.bytes = bytes) (hzs : z.cells.size = size) (hsz : 0 < size) (v : Value) (n : Nat) (xs : List Value) (hs : a.eval s = v) (hown : w.ownsRow base e size v n xs)
    (ad : Addr) (m c : Nat) (news : List Value) (hx : a.eval x = .slice (some ad) m c) (hl : news.length = m * size) (hnews : ∀ j u, news[j]? = some u → w.cell? (ad.add j) = some u) (h1 : ∀ u ∈ news, u.oneCell' = true)
    (h63 : n + m ≤ maxLen) (hbytes : (n + m) * bytes ≤ 140737488355328) (hbase : base ≤ w.heap.size)
    (h : ∀ v' w', w'.ownsRow base e size v' (n + m) (xs ++ news) → w.grownBy w' v.ownBlock → (∀ k, v'.ownBlock = some k → v.ownBlock = some k ∨ w.heap.size ≤ k) → wpList P ops Q rest (a.put o.dst v') w') : wpList P ops Q (o :: rest) a w := by
  obtain ⟨v', w', hr, h2, h3, _⟩ := run_append_own (P := P) w base t o.type e i z size bytes ht hi hz hsize hby hzs hsz v n xs hown ad m c news hl hnews h1 h63 hbytes hbase
  have h4 := append_where w t o.type e i z size bytes ht hi hz hsize hby hzs hsz base v n xs hown ad m c news hl hnews h1 h63 hbytes hr
  refine wpList_plain hgd fun K hK => ?_
  unfold Oper.wp execOp
  simp only [ho, resolve, invoke, builtin, Sem.run_bind, Sem.run_pure, Result.andThen_ok, List.map_toArray, List.map_cons, List.map_nil, hs, hx, hr]
  exact hK _ _ (h v' w' h2 h3 h4)

end Go.Proofs.YtichkoilhnkmkaaDoor

/- Bits packed into bytes; what a pen holds; the contract of (*bits.Pen).push. -/
namespace Go.Proofs.YtichkoilhnkmkaaDoor
open Go.RowKit Go.Shelf
set_option linter.unusedVariables false

/-! ### bits in bytes -/
theorem bt_testBit (zs : List UInt8) (i : Nat) : bt zs i = ((zs.getD (i / 8) 0).toNat.testBit (7 - i % 8)).toNat := by
  unfold bt
  rw [Nat.testBit_eq_decide_div_mod_eq]
  have : (zs.getD (i / 8) 0).toNat / 2 ^ (7 - i % 8) % 2 < 2 := Nat.mod_lt _ (by omega)
  generalize (zs.getD (i / 8) 0).toNat / 2 ^ (7 - i % 8) % 2 = q at *
  obtain rfl | rfl : q = 0 ∨ q = 1 := by omega
  · rfl
  · rfl

/-- the bytes zs hold the bits L, and noughts behind them -/
def Packed (zs : List UInt8) (L : List Bool) : Prop := zs.length = (L.length + 7) / 8 ∧ ∀ i, i < zs.length * 8 → bt zs i = (L.getD i false).toNat
theorem packed_nil : Packed [] [] := ⟨rfl, fun i h => by simp at h⟩
theorem bytes_ext {xs ys : List UInt8} (hl : xs.length = ys.length) (h : ∀ i, i < xs.length * 8 → bt xs i = bt ys i) : xs = ys := by
  apply List.ext_getElem hl
  intro j h1 h2
  apply UInt8.toNat_inj.1
  apply Nat.eq_of_testBit_eq
  intro t
  by_cases ht : t < 8
  · have e := h (8 * j + (7 - t)) (by omega)
    rw [bt_testBit, bt_testBit, show (8 * j + (7 - t)) / 8 = j by omega, show 7 - (8 * j + (7 - t)) % 8 = t by omega] at e
    simp only [List.getD_eq_getElem?_getD, List.getElem?_eq_getElem h1, List.getElem?_eq_getElem h2, Option.getD_some] at e
    cases hx : xs[j].toNat.testBit t <;> cases hy : ys[j].toNat.testBit t <;> simp_all
  · have b1 : xs[j].toNat < 2 ^ t := Nat.lt_of_lt_of_le (UInt8.toNat_lt _) (Nat.pow_le_pow_right (by omega) (by omega))
    have b2 : ys[j].toNat < 2 ^ t := Nat.lt_of_lt_of_le (UInt8.toNat_lt _) (Nat.pow_le_pow_right (by omega) (by omega))
    rw [Nat.testBit_lt_two_pow b1, Nat.testBit_lt_two_pow b2]
theorem Packed.unique {xs ys : List UInt8} {L : List Bool} (h : Packed xs L) (k : Packed ys L) : xs = ys :=
  bytes_ext (h.1.trans k.1.symm) fun i hi => (h.2 i hi).trans (k.2 i (by have := h.1; have := k.1; omega)).symm

/-- a bit laid into the last byte -/
def lay (z : UInt8) (b : Bool) (c : Nat) : UInt8 := z ||| UInt8.ofNat (b.toNat * 2 ^ (7 - c % 8))
theorem lay_bits (z : UInt8) (b : Bool) (c t : Nat) (ht : t < 8) : (lay z b c).toNat.testBit t = (z.toNat.testBit t || (b && decide (t = 7 - c % 8))) := by
  have hp : b.toNat * 2 ^ (7 - c % 8) < 256 := by
    have : 2 ^ (7 - c % 8) ≤ 2 ^ 7 := Nat.pow_le_pow_right (by omega) (by omega)
    cases b <;> simp <;> omega
  unfold lay
  rw [UInt8.toNat_or, UInt8.toNat_ofNat', Nat.mod_eq_of_lt (by simpa using hp), Nat.testBit_or]
  congr 1
  cases b
  · simp
  · simp [Nat.testBit_two_pow]
    exact eq_comm
theorem packed_push {zs : List UInt8} {L : List Bool} (h : Packed zs L) (b : Bool) :
    Packed ((if L.length % 8 = 0 then zs ++ [0] else zs).set (L.length / 8) (lay ((if L.length % 8 = 0 then zs ++ [0] else zs).getD (L.length / 8) 0) b L.length)) (L ++ [b]) := by
  obtain ⟨hl, hb⟩ := h
  have key : ∀ ys : List UInt8, ys.length = L.length / 8 + 1 → (∀ i, i < ys.length * 8 → bt ys i = (L.getD i false).toNat) → Packed (ys.set (L.length / 8) (lay (ys.getD (L.length / 8) 0) b L.length)) (L ++ [b]) := by
    intro ys hy hys
    refine ⟨by simp; omega, fun i hi => ?_⟩
    simp only [List.length_set] at hi
    have h0 := hys i hi
    rw [bt_testBit] at h0 ⊢
    by_cases hj : i / 8 = L.length / 8
    · rw [hj] at h0 ⊢
      rw [show (ys.set (L.length / 8) (lay (ys.getD (L.length / 8) 0) b L.length)).getD (L.length / 8) 0 = lay (ys.getD (L.length / 8) 0) b L.length by
        rw [List.getD_eq_getElem?_getD, List.getElem?_set_self (by omega)]; rfl, lay_bits _ _ _ _ (by omega)]
      by_cases hi2 : i = L.length
      · subst hi2
        rw [show (L ++ [b]).getD L.length false = b by simp [List.getD_eq_getElem?_getD]]
        have : (L.getD L.length false) = false := by simp [List.getD_eq_getElem?_getD]
        rw [this] at h0
        cases hq : (ys.getD (L.length / 8) 0).toNat.testBit (7 - L.length % 8)
        · simp
        · rw [hq] at h0; simp at h0
      · have : decide (7 - i % 8 = 7 - L.length % 8) = false := by simp; omega
        rw [this, Bool.and_false, Bool.or_false, h0]
        congr 1
        by_cases hlt : i < L.length
        · simp [List.getD_eq_getElem?_getD, List.getElem?_append_left hlt]
        · simp only [List.getD_eq_getElem?_getD]
          rw [List.getElem?_eq_none (by omega), List.getElem?_eq_none (by simp; omega)]
    · rw [show (ys.set (L.length / 8) (lay (ys.getD (L.length / 8) 0) b L.length)).getD (i / 8) 0 = ys.getD (i / 8) 0 by
        rw [List.getD_eq_getElem?_getD, List.getElem?_set_ne (by omega), List.getD_eq_getElem?_getD], h0]
      congr 1
      by_cases hlt : i < L.length
      · simp [List.getD_eq_getElem?_getD, List.getElem?_append_left hlt]
      · omega
  by_cases h8 : L.length % 8 = 0
  · rw [if_pos h8]
    refine key _ (by simp; omega) fun i hi => ?_
    by_cases hz : i < zs.length * 8
    · rw [← hb i hz]; unfold bt
      simp only [List.getD_eq_getElem?_getD]
      rw [List.getElem?_append_left (by omega)]
    · simp at hi
      unfold bt
      simp only [List.getD_eq_getElem?_getD]
      rw [show i / 8 = zs.length by omega, List.getElem?_append_right (by omega), List.getElem?_eq_none (l := L) (by omega)]
      simp
  · rw [if_neg h8]
    exact key _ (by omega) hb

/-! ### the world: what is kept but for some blocks -/
structure Bar (S : Nat → Prop) (w w' : World) : Prop where
  os : w'.os = w.os
  tape : w'.tape = w.tape
  output : w'.output = w.output
  size : w.heap.size ≤ w'.heap.size
  block : ∀ k, k < w.heap.size → ¬ S k → w'.heap[k]? = w.heap[k]?
theorem Bar.refl (S : Nat → Prop) (w : World) : Bar S w w := ⟨rfl, rfl, rfl, Nat.le_refl _, fun _ _ _ => rfl⟩
theorem Bar.trans {S T : Nat → Prop} {a b c : World} (h : Bar S a b) (k : Bar T b c) (hst : ∀ j, j < a.heap.size → T j → S j) : Bar S a c :=
  ⟨k.os.trans h.os, k.tape.trans h.tape, k.output.trans h.output, Nat.le_trans h.size k.size, fun j hj hn => (k.block j (Nat.lt_of_lt_of_le hj h.size) (fun t => hn (hst j hj t))).trans (h.block j hj hn)⟩
theorem Bar.below {S : Nat → Prop} {w w' : World} {B : Nat} (h : Bar S w w') (hB : B ≤ w.heap.size) (hS : ∀ k, k < B → ¬ S k) : Below B w w' :=
  ⟨h.os, h.tape, h.output, h.size, fun k hk => h.block k (by omega) (hS k hk)⟩
theorem bar_of_below {S : Nat → Prop} {w w' : World} (h : Below w.heap.size w w') : Bar S w w' := ⟨h.os, h.tape, h.output, h.size, fun k hk _ => h.block k hk⟩
theorem bar_of_grown {S : Nat → Prop} {w w' : World} {row : Option Nat} (h : w.grownBy w' row) (hr : ∀ k, row = some k → S k) : Bar S w w' :=
  ⟨h.os, h.tape, h.output, h.size, fun k hk hn => h.block k hk (fun e => hn (hr k e.symm))⟩
theorem Bar.setCell {S : Nat → Prop} {a w : World} (h : Bar S a w) {p : Addr} (hp : p.block < a.heap.size → S p.block) (u : Value) : Bar S a (w.setCell p u) :=
  h.trans (T := fun k => k = p.block) ⟨rfl, rfl, rfl, by simp [World.setCell], fun k hk hn => Below.heap_setCell _ _ _ _ hn⟩ (fun j hj e => by subst e; exact hp hj)
theorem Bar.drew {S : Nat → Prop} {a w : World} (h : Bar S a w) : Bar S a w.drew := ⟨h.os, h.tape, h.output, h.size, h.block⟩
theorem Bar.alloc {S : Nat → Prop} {a w : World} (h : Bar S a w) (o : Obj) : Bar S a (w.alloc o) :=
  h.trans (T := fun _ => False) ⟨rfl, rfl, rfl, by simp, fun k hk _ => Below.heap_alloc _ _ _ hk⟩ (fun _ _ e => e.elim)

/-- the cells of a pen, of its bytes -/
abbrev u8s (zs : List UInt8) : List Value := zs.map fun z => Value.int .u8 z.toNat
abbrev penCells (b : Nat) (v : Value) (c : Nat) : Obj := .cells #[.pointer (some ⟨b, 0, none⟩), v, .int .i64 c] 55 (0, 0)
/-- the pen in block b wrote the bits L; its bytes lie in block g -/
def IsPen (w : World) (b : Nat) (g : Option Nat) (L : List Bool) : Prop :=
  ∃ v zs, v.ownBlock = g ∧ w.heap[b]? = some (penCells b v L.length) ∧ w.ownsRow 0 5 1 v zs.length (u8s zs) ∧ Packed zs L ∧ L.length ≤ 16777216
theorem IsPen.apart {w : World} {b : Nat} {g : Option Nat} {L : List Bool} (h : IsPen w b g L) : g ≠ some b := by
  obtain ⟨v, zs, rfl, hb, hr, _⟩ := h
  intro e
  rcases hr.2 with ⟨rfl, _⟩ | ⟨g', cap, cur, rfl, _, hg, _⟩
  · simp [Value.ownBlock] at e
  · simp [Value.ownBlock] at e
    subst e
    rw [hb] at hg
    simp [penCells] at hg
theorem IsPen.lt {w : World} {b : Nat} {g : Option Nat} {L : List Bool} (h : IsPen w b g L) : b < w.heap.size ∧ ∀ k, g = some k → k < w.heap.size := by
  obtain ⟨v, zs, rfl, hb, hr, _⟩ := h
  exact ⟨(Array.getElem?_eq_some_iff.1 hb).1, fun k e => (hr.lt k e).2⟩
/-- it stays what it is where its blocks are kept -/
theorem IsPen.bar {S : Nat → Prop} {w w' : World} {b : Nat} {g : Option Nat} {L : List Bool} (h : IsPen w b g L) (hb : Bar S w w') (h1 : ¬ S b) (h2 : ∀ k, g = some k → ¬ S k) : IsPen w' b g L := by
  have hlt := h.lt
  obtain ⟨v, zs, rfl, hc, hr, hp, hl⟩ := h
  refine ⟨v, zs, rfl, (hb.block b hlt.1 h1).trans hc, ⟨hr.1, ?_⟩, hp, hl⟩
  rcases hr.2 with hn | ⟨g', cap, cur, rfl, hbb, hg, rest⟩
  · exact .inl hn
  · exact .inr ⟨g', cap, cur, rfl, hbb, (hb.block g' (hlt.2 g' rfl) (h2 g' rfl)).trans hg, rest⟩


theorem Tryd.info5 : (Tryd.prog.info? 5).map (fun i => (i.zero, i.size, i.bytes)) = some (some (.int .u8 0), 1, 1) := by kernel_rfl
theorem pen_cells {w : World} {b c : Nat} {v : Value} (h : w.heap[b]? = some (penCells b v c)) :
    w.cell? ⟨b, 0, none⟩ = some (.pointer (some ⟨b, 0, none⟩)) ∧ w.cell? ⟨b, 1, none⟩ = some v ∧ w.cell? ⟨b, 2, none⟩ = some (.int .i64 c) ∧ w.frozen? ⟨b, 0, none⟩ = false ∧ w.frozen? ⟨b, 1, none⟩ = false ∧ w.frozen? ⟨b, 2, none⟩ = false := by
  simp [World.cell?, World.frozen?, h, penCells]

/-- a call has written bits: the pen holds them; but for its own blocks all is as it was -/
def Wrote (w w' : World) (b : Nat) (g : Option Nat) (L : List Bool) : Prop :=
  ∃ g', IsPen w' b g' L ∧ Bar (fun k => k = b ∨ g = some k) w w' ∧ ∀ k, g' = some k → g = some k ∨ w.heap.size ≤ k

theorem Wrote.drew {w w' : World} {b : Nat} {g : Option Nat} {L : List Bool} (h : Wrote w w' b g L) : Wrote w w'.drew b g L := by
  obtain ⟨g', hp, hb, hk⟩ := h
  exact ⟨g', hp, hb.drew, hk⟩
theorem lay_eq (z : UInt8) (x : Bool) (c : Nat) : bits .or .u8 (z.toNat : Int) (wrap64 ((x.toNat : Int) * 2 ^ (7 - c % 8)) % 256) = ((lay z x c).toNat : Int) := by
  have hz := UInt8.toNat_lt z
  have hp : x.toNat * 2 ^ (7 - c % 8) < 256 := by
    have : 2 ^ (7 - c % 8) ≤ 2 ^ 7 := Nat.pow_le_pow_right (by omega) (by omega)
    cases x <;> simp <;> omega
  have e : ((x.toNat : Int) * 2 ^ (7 - c % 8)) = ((x.toNat * 2 ^ (7 - c % 8) : Nat) : Int) := by simp
  rw [e]
  unfold lay
  generalize x.toNat * 2 ^ (7 - c % 8) = q at *
  rw [IntWalk.wrap64_in _ ⟨by omega, by omega⟩, show (q : Int) % 256 = (q : Int) by omega, u8_or_nat _ _ hz hp, UInt8.toNat_or, UInt8.toNat_ofNat', Nat.mod_eq_of_lt (by simpa using hp)]

/-- the end of push, over the row that is there by then -/
theorem push_end {w W : World} {b gr cap c : Nat} {g : Option Nat} {zs : List UInt8} {L : List Bool} (x : Bool) (hb : W.heap[b]? = some (penCells b (.slice (some ⟨gr, 0, none⟩) zs.length cap) L.length))
    (hr : W.ownsRow 0 5 1 (.slice (some ⟨gr, 0, none⟩) zs.length cap) zs.length (u8s zs)) (hne : gr ≠ b) (hl : L.length < 16777216) (hbar : Bar (fun k => k = b ∨ g = some k) w W) (hgr : g = some gr ∨ w.heap.size ≤ gr)
    (hp : Packed (zs.set (L.length / 8) (lay (zs.getD (L.length / 8) 0) x L.length)) (L ++ [x])) :
    Wrote w ((W.setCell ⟨gr, L.length / 8, none⟩ (.int .u8 ((lay (zs.getD (L.length / 8) 0) x L.length).toNat))).setCell ⟨b, 2, none⟩ (.int .i64 ((L.length : Int) + 1))) b g (L ++ [x]) := by
  refine ⟨some gr, ⟨.slice (some ⟨gr, 0, none⟩) zs.length cap, _, rfl, ?_, ?_, hp, by simp; omega⟩, (hbar.setCell (fun hlt => ?_) _).setCell (fun _ => .inl rfl) _, fun k e => by cases e; exact hgr⟩
  · have h1 : (W.setCell ⟨gr, L.length / 8, none⟩ (.int .u8 ((lay (zs.getD (L.length / 8) 0) x L.length).toNat))).heap[b]? = some (penCells b (.slice (some ⟨gr, 0, none⟩) zs.length cap) L.length) :=
      (heap_setCell_other _ _ _ _ (fun e => hne e.symm)).trans hb
    rw [heap_setCell_same _ _ _ _ _ _ h1]
    simp [penCells]
  · have h2 := hr.stored (L.length / 8) (.int .u8 ((lay (zs.getD (L.length / 8) 0) x L.length).toNat))
    simp only [List.length_set]
    have h3 := h2.1.kept (w' := (W.setCell ⟨gr, L.length / 8, none⟩ (.int .u8 ((lay (zs.getD (L.length / 8) 0) x L.length).toNat))).setCell ⟨b, 2, none⟩ (.int .i64 ((L.length : Int) + 1))) (row := some b) ⟨rfl, rfl, rfl, by simp [World.setCell], fun k _ hk => heap_setCell_other _ _ _ _ (fun e => hk (by rw [e]))⟩ (.inr (by simp [Value.ownBlock]; exact hne))
    simpa [u8s, List.map_set] using h3
  · rcases hgr with h | h
    · exact .inr h
    · exact absurd hlt (by simp; omega)

theorem row_cell {W : World} {gr cap n : Nat} {zs : List UInt8} {t : TypeId} (hr : W.ownsRow 0 t 1 (.slice (some ⟨gr, 0, none⟩) zs.length cap) zs.length (u8s zs)) (hn : n < zs.length) :
    W.cell? ⟨gr, n, none⟩ = some (.int .u8 ((zs.getD n 0).toNat)) ∧ W.frozen? ⟨gr, n, none⟩ = false := by
  refine ⟨?_, hr.frozenAt n⟩
  rw [hr.cellAt n (by omega)]
  simp [hn]

set_option maxRecDepth 100000 in
set_option maxHeartbeats 1000000 in
theorem push_old {w : World} {b : Nat} {g : Option Nat} {L : List Bool} (h : IsPen w b g L) (x : Bool) (hl : L.length < 16777216) (h8 : L.length % 8 ≠ 0) :
    Calls Tryd.prog 39 #[.pointer (some ⟨b, 0, none⟩), .int .i64 x.toNat] w fun e w' => e = .returned (.tuple #[]) ∧ Wrote w w' b g (L ++ [x]) := by
  have hap := h.apart
  obtain ⟨v, zs, rfl, hb, hr, hp, _⟩ := h
  have hp' := packed_push hp x
  rw [if_neg h8] at hp'
  have hzl := hp.1
  obtain ⟨gr, cap, rfl⟩ : ∃ gr cap, v = .slice (some ⟨gr, 0, none⟩) zs.length cap := by
    rcases hr.2 with ⟨_, hn⟩ | ⟨g', cap, cur, e, _⟩
    · omega
    · exact ⟨g', cap, e⟩
  have hne : gr ≠ b := by simpa [Value.ownBlock] using hap
  have HE := Lib.hid (push_end (g := some gr) (c := 0) x hb hr hne hl (Bar.refl _ w) (.inl rfl) hp')
  have hv := lay_eq (zs.getD (L.length / 8) 0) x L.length
  obtain ⟨c0, c1, c2, f0, f1, f2⟩ := pen_cells hb
  obtain ⟨hgc, hgf⟩ := row_cell hr (n := L.length / 8) (by omega)
  clear hb hr hp hp' hap
  generalize (zs.getD (L.length / 8) 0) = z at *
  generalize zs.length = n at *
  generalize L.length = c at *
  generalize L ++ [x] = L' at *
  have HV := Lib.hid hv
  have HZ := Lib.hid hzl
  have hc8 : c / 8 < n := by omega
  have hn8 : n ≤ 2097153 := by omega
  clear hv hzl
  have h8' : (((c : Int) % 8) == 0) = false := by simp; omega
  go_enter Tryd.func39, Tryd.ntmps39
  go_wp2
  go_region
  go_wp2
  go_end0
  rw [HV.out]
  exact ⟨rfl, HE.out.drew⟩

set_option maxRecDepth 100000 in
set_option maxHeartbeats 2000000 in
theorem push_new {w : World} {b : Nat} {g : Option Nat} {L : List Bool} (h : IsPen w b g L) (x : Bool) (hl : L.length < 16777216) (h8 : L.length % 8 = 0) :
    Calls Tryd.prog 39 #[.pointer (some ⟨b, 0, none⟩), .int .i64 x.toNat] w fun e w' => e = .returned (.tuple #[]) ∧ Wrote w w' b g (L ++ [x]) := by
  have hap := h.apart
  have hlt := h.lt
  obtain ⟨v, zs, rfl, hb, hr, hp, _⟩ := h
  have hp' := packed_push hp x
  rw [if_pos h8] at hp'
  have hzl := hp.1
  obtain ⟨i0, hi, hz0, hz1, hz2⟩ := info_parts Tryd.info5
  obtain ⟨c0, c1, c2, f0, f1, f2⟩ := pen_cells hb
  have h8' : (((L.length : Int) % 8) == 0) = true := by simp; omega
  have HR := Lib.hid hr
  have HZ := Lib.hid hzl
  have hn8 : zs.length ≤ 2097152 := by omega
  clear hr hzl hp
  go_enter Tryd.func39, Tryd.ntmps39
  go_wp2_with (at_builtin; refine wpList_append_where _ rfl _ _ 22 rfl 0 5 i0 (.int .u8 0) 1 1 Tryd.underlying22 hi hz0 hz1 hz2 rfl (by decide) v zs.length _ rfl (HR.out.alloc _) ⟨w.heap.size, 0, none⟩ 1 1 [.int .u8 0] rfl rfl ?c1 ?c2 ?c3 ?c4 ?c5 ?_)
  case c1 => exact cell_one_new _ _ _
  case c2 => simp [Value.oneCell']
  case c3 => unfold maxLen; omega
  case c4 => omega
  case c5 => omega
  intro v' w1 hown' hgrow hwh
  obtain ⟨gr, cap, rfl⟩ := ownsRow_succ hown'
  have hb1 : w1.heap[b]? = some (penCells b v L.length) := (hgrow.block b (by simp; omega) (fun e => hap e.symm)).trans ((Below.heap_alloc _ _ _ hlt.1).trans hb)
  have hne : gr ≠ b := by
    rcases hwh gr rfl with h | h
    · intro e; subst e; exact hap h
    · omega
  have hbar : Bar (fun k => k = b ∨ v.ownBlock = some k) w w1 := ((Bar.refl _ w).alloc _).trans (bar_of_grown (S := fun k => v.ownBlock = some k) hgrow (fun k e => e)) (fun j _ e => .inr e)
  have hz1' : (zs ++ [0]).length = zs.length + 1 := by simp
  have hu : u8s zs ++ [Value.int IntKind.u8 0] = u8s (zs ++ [0]) := by simp [u8s]
  rw [hu, ← hz1'] at hown'
  have hgr : v.ownBlock = some gr ∨ w.heap.size ≤ gr := (hwh gr rfl).imp id (fun h => by omega)
  have hb2 : (w1.setCell ⟨b, 1, none⟩ (.slice (some ⟨gr, 0, none⟩) (zs ++ [0]).length cap)).heap[b]? = some (penCells b (.slice (some ⟨gr, 0, none⟩) (zs ++ [0]).length cap) L.length) := by
    rw [heap_setCell_same _ _ _ _ _ _ hb1]; simp [penCells]
  have hr2 := hown'.kept (w' := w1.setCell ⟨b, 1, none⟩ (.slice (some ⟨gr, 0, none⟩) (zs ++ [0]).length cap)) (row := some b) ⟨rfl, rfl, rfl, by simp [World.setCell], fun k _ hk => heap_setCell_other _ _ _ _ (fun e => hk (by rw [e]))⟩ (.inr (by simp [Value.ownBlock]; exact hne))
  have HE := Lib.hid (push_end (c := 0) x hb2 hr2 hne hl (hbar.setCell (p := ⟨b, 1, none⟩) (fun _ => .inl rfl) _) hgr hp')
  have hv := lay_eq ((zs ++ [0]).getD (L.length / 8) 0) x L.length
  simp only [h8, Nat.sub_zero, Int.reducePow] at hv
  have HV := Lib.hid hv
  clear hv
  obtain ⟨d0, d1, d2, g0, g1, g2⟩ := pen_cells hb1
  obtain ⟨hgc, hgf⟩ := row_cell hr2 (n := L.length / 8) (by have := HZ.out; simp; omega)
  have hgc1 : w1.cell? ⟨gr, L.length / 8, none⟩ = some (.int .u8 (((zs ++ [0]).getD (L.length / 8) 0).toNat)) := by
    rw [← hgc]; exact (World.cell?_setCell_other _ _ _ _ (by simp [*])).symm
  have hgf1 : w1.frozen? ⟨gr, L.length / 8, none⟩ = false := hown'.frozenAt _
  have hc8 : L.length / 8 < (zs ++ [0]).length := by have := HZ.out; simp; omega
  have hn9 : (zs ++ [0]).length ≤ 2097153 := by simp; omega
  clear hb hb1 hb2 hr2 hown' hgrow hwh hbar hgr hap hlt hp' c0 c1 c2 f0 f1 f2 hgc hgf hu
  rw [← hz1'] 
  clear hz1'
  generalize ((zs ++ [0]).getD (L.length / 8) 0) = z at *
  generalize (zs ++ [0]).length = n at *
  go_wp2
  go_region
  go_wp2
  go_end0
  rw [HV.out]
  exact ⟨rfl, HE.out.drew⟩

theorem push_any {w : World} {b : Nat} {g : Option Nat} {L : List Bool} (h : IsPen w b g L) (x : Bool) (hl : L.length < 16777216) :
    Calls Tryd.prog 39 #[.pointer (some ⟨b, 0, none⟩), .int .i64 x.toNat] w fun e w' => e = .returned (.tuple #[]) ∧ Wrote w w' b g (L ++ [x]) := by
  by_cases h8 : L.length % 8 = 0
  · exact push_new h x hl h8
  · exact push_old h x hl h8

end Go.Proofs.YtichkoilhnkmkaaDoor
