/- Append to a row that the call owns: the law of the library, and besides: the row that comes out lies in the old block, or in a new one. Bits packed into bytes; what a pen holds; the contract of (*bits.Pen).push. Contracts of bits.NewPen and of a pen's methods made, room, Len, Put. Texts of bits: strings.ContainsFunc at bits.isNoBit; the contract of (*bits.Pen).Code. Contracts of slices.Clone at bytes, of (*bits.Pen).Bytes, of the kit's SameBytes and OverBytes. -/
import Derived.WalkKit
import Derived.Test.YtlcaboddkcpgaaaDoorRows
import Derived.Test.YtlcaboddkcpgaaaDoorFind
import Derived.Laws.BitsAllLaws
import Derived.BigRegion
import Derived.Deep.QuietTactic
import Derived.BigQuiet
import Derived.StillTailTactics
import Derived.LaidEqlPtr
import Derived.Lib.OthersKept
import Derived.Laws.RangeAny
import Derived.Deep.LoopGhost
import Derived.Laws.BytesArg
import Derived.Lib.LazyBuf
/- Append to a row that the call owns: the law of the library, and besides: the row that comes out lies in the old block, or in a new one. Bits packed into bytes; what a pen holds; the contract of (*bits.Pen).push. -/
/- Append to a row that the call owns: the law of the library, and besides: the row that comes out lies in the old block, or in a new one. -/
namespace Go.Proofs.YtlcaboddkcpgaaaDoor
open Go.RowKit

theorem append_where {P : Program} (w : World) (t ty e : TypeId) (i : TypeInfo) (z : Value) (size bytes : Nat) (ht : P.underlying t = some (.slice e)) (hi : P.info? e = some i) (hz : i.zero = some z)
    (hsize : i.size = size) (hby : i.bytes = bytes) (hzs : z.cells.size = size) (hsz : 0 < size) (base : Nat) (v : Value) (n : Nat) (xs : List Value) (hown : w.ownsRow base e size v n xs)
    (a : Addr) (m c : Nat) (news : List Value) (hl : news.length = m * size) (hnews : ∀ j u, news[j]? = some u → w.cell? (a.add j) = some u) (h1 : ∀ u ∈ news, u.oneCell' = true)
    (h63 : n + m ≤ maxLen) (hbytes : (n + m) * bytes ≤ 140737488355328) {v' : Value} {w' : World} (hrun : (Builtin.append_ #[t, t] ty #[v, .slice (some a) m c]).run P w = .ok v' w') :
    ∀ k, v'.ownBlock = some k → v.ownBlock = some k ∨ w.heap.size ≤ k := by
  intro k hk
  rcases hown.2 with ⟨rfl, rfl⟩ | ⟨g, cap, cur, rfl, _, hg, hnc, _, hcs, _⟩
  · obtain ⟨v2, w2, h2, ho, _⟩ := run_append_own (P := P) w w.heap.size t ty e i z size bytes ht hi hz hsize hby hzs hsz _ 0 [] (World.ownsRow_nil _ _ _ _) a m c news hl hnews h1 h63 hbytes (Nat.le_refl _)
    have e2 : v2 = v' := by have := h2.symm.trans hrun; simp at this; exact this.1
    subst e2
    exact .inr (ho.lt k hk).1
  · subst hsize hby
    by_cases hroom : n + m ≤ cap
    · have hr := run_append_room (P := P) w t ty e i ht hi g n cap cur hg a m c news hl hnews h1 hroom (by rw [hl, hcs, ← Nat.add_mul]; exact Nat.mul_le_mul_right _ hroom)
      have e2 := hr.symm.trans hrun
      simp only [Result.ok.injEq] at e2
      rw [← e2.1] at hk
      exact .inl (by simpa [Value.ownBlock] using hk)
    · have hr := run_append_grow (P := P) w t ty e i z ht hi hz ⟨g, 0, none⟩ n cap xs hown.1 (hown.cells (g := g) rfl) a m c news hl hnews (by omega) (by simp only [maxLen] at h63; omega) (growslice_fits (by omega) hbytes)
      have e2 := hr.symm.trans hrun
      simp only [Result.ok.injEq] at e2
      rw [← e2.1] at hk
      simp [Value.ownBlock] at hk
      exact .inr (by omega)

theorem wpList_append_where {P : Program} (w : World) {ops : Array Oper} {rest : List Oper} {o : Oper} {a : Act} {Q : Exit → Act → World → Prop} (hgd : o.guard = none) (s x : Operand) (t : TypeId)
    (ho : o.op = .call { callee := .builtin .append, args := #[s, x], argTypes := #[t, t] })
    (base : Nat) (e : TypeId) (i : TypeInfo) (z : Value) (size bytes : Nat) (ht : P.underlying t = some (.slice e)) (hi : P.info? e = some i) (hz : i.zero = some z)
    (hsize : i.size = size) (hby : i.bytes = bytes) (hzs : z.cells.size = size) (hsz : 0 < size) (v : Value) (n : Nat) (xs : List Value) (hs : a.eval s = v) (hown : w.ownsRow base e size v n xs)
    (ad : Addr) (m c : Nat) (news : List Value) (hx : a.eval x = .slice (some ad) m c) (hl : news.length = m * size) (hnews : ∀ j u, news[j]? = some u → w.cell? (ad.add j) = some u) (h1 : ∀ u ∈ news, u.oneCell' = true)
    (h63 : n + m ≤ maxLen) (hbytes : (n + m) * bytes ≤ 140737488355328) (hbase : base ≤ w.heap.size)
    (h : ∀ v' w', w'.ownsRow base e size v' (n + m) (xs ++ news) → w.grownBy w' v.ownBlock → (∀ k, v'.ownBlock = some k → v.ownBlock = some k ∨ w.heap.size ≤ k) → wpList P ops Q rest (a.put o.dst v') w') : wpList P ops Q (o :: rest) a w := by
  obtain ⟨v', w', hr, h2, h3, _⟩ := run_append_own (P := P) w base t o.type e i z size bytes ht hi hz hsize hby hzs hsz v n xs hown ad m c news hl hnews h1 h63 hbytes hbase
  have h4 := append_where w t o.type e i z size bytes ht hi hz hsize hby hzs hsz base v n xs hown ad m c news hl hnews h1 h63 hbytes hr
  refine wpList_plain hgd fun K hK => ?_
  unfold Oper.wp execOp
  simp only [ho, resolve, invoke, builtin, Sem.run_bind, Sem.run_pure, Result.andThen_ok, List.map_toArray, List.map_cons, List.map_nil, hs, hx, hr]
  exact hK _ _ (h v' w' h2 h3 h4)

end Go.Proofs.YtlcaboddkcpgaaaDoor

/- Bits packed into bytes; what a pen holds; the contract of (*bits.Pen).push. -/
namespace Go.Proofs.YtlcaboddkcpgaaaDoor
open Go.RowKit Go.Shelf
set_option linter.unusedVariables false

/-! ### bits in bytes -/
theorem bt_testBit (zs : List UInt8) (i : Nat) : bt zs i = ((zs.getD (i / 8) 0).toNat.testBit (7 - i % 8)).toNat := by
  unfold bt
  rw [Nat.testBit_eq_decide_div_mod_eq]
  have : (zs.getD (i / 8) 0).toNat / 2 ^ (7 - i % 8) % 2 < 2 := Nat.mod_lt _ (by omega)
  generalize (zs.getD (i / 8) 0).toNat / 2 ^ (7 - i % 8) % 2 = q at *
  obtain rfl | rfl : q = 0 ∨ q = 1 := by omega
  · rfl
  · rfl

/-- the bytes zs hold the bits L, and noughts behind them -/
def Packed (zs : List UInt8) (L : List Bool) : Prop := zs.length = (L.length + 7) / 8 ∧ ∀ i, i < zs.length * 8 → bt zs i = (L.getD i false).toNat
theorem packed_nil : Packed [] [] := ⟨rfl, fun i h => by simp at h⟩
theorem bytes_ext {xs ys : List UInt8} (hl : xs.length = ys.length) (h : ∀ i, i < xs.length * 8 → bt xs i = bt ys i) : xs = ys := by
  apply List.ext_getElem hl
  intro j h1 h2
  apply UInt8.toNat_inj.1
  apply Nat.eq_of_testBit_eq
  intro t
  by_cases ht : t < 8
  · have e := h (8 * j + (7 - t)) (by omega)
    rw [bt_testBit, bt_testBit, show (8 * j + (7 - t)) / 8 = j by omega, show 7 - (8 * j + (7 - t)) % 8 = t by omega] at e
    simp only [List.getD_eq_getElem?_getD, List.getElem?_eq_getElem h1, List.getElem?_eq_getElem h2, Option.getD_some] at e
    cases hx : xs[j].toNat.testBit t <;> cases hy : ys[j].toNat.testBit t <;> simp_all
  · have b1 : xs[j].toNat < 2 ^ t := Nat.lt_of_lt_of_le (UInt8.toNat_lt _) (Nat.pow_le_pow_right (by omega) (by omega))
    have b2 : ys[j].toNat < 2 ^ t := Nat.lt_of_lt_of_le (UInt8.toNat_lt _) (Nat.pow_le_pow_right (by omega) (by omega))
    rw [Nat.testBit_lt_two_pow b1, Nat.testBit_lt_two_pow b2]
theorem Packed.unique {xs ys : List UInt8} {L : List Bool} (h : Packed xs L) (k : Packed ys L) : xs = ys :=
  bytes_ext (h.1.trans k.1.symm) fun i hi => (h.2 i hi).trans (k.2 i (by have := h.1; have := k.1; omega)).symm

/-- a bit laid into the last byte -/
def lay (z : UInt8) (b : Bool) (c : Nat) : UInt8 := z ||| UInt8.ofNat (b.toNat * 2 ^ (7 - c % 8))
theorem lay_bits (z : UInt8) (b : Bool) (c t : Nat) (ht : t < 8) : (lay z b c).toNat.testBit t = (z.toNat.testBit t || (b && decide (t = 7 - c % 8))) := by
  have hp : b.toNat * 2 ^ (7 - c % 8) < 256 := by
    have : 2 ^ (7 - c % 8) ≤ 2 ^ 7 := Nat.pow_le_pow_right (by omega) (by omega)
    cases b <;> simp <;> omega
  unfold lay
  rw [UInt8.toNat_or, UInt8.toNat_ofNat', Nat.mod_eq_of_lt (by simpa using hp), Nat.testBit_or]
  congr 1
  cases b
  · simp
  · simp [Nat.testBit_two_pow]
    exact eq_comm
theorem packed_push {zs : List UInt8} {L : List Bool} (h : Packed zs L) (b : Bool) :
    Packed ((if L.length % 8 = 0 then zs ++ [0] else zs).set (L.length / 8) (lay ((if L.length % 8 = 0 then zs ++ [0] else zs).getD (L.length / 8) 0) b L.length)) (L ++ [b]) := by
  obtain ⟨hl, hb⟩ := h
  have key : ∀ ys : List UInt8, ys.length = L.length / 8 + 1 → (∀ i, i < ys.length * 8 → bt ys i = (L.getD i false).toNat) → Packed (ys.set (L.length / 8) (lay (ys.getD (L.length / 8) 0) b L.length)) (L ++ [b]) := by
    intro ys hy hys
    refine ⟨by simp; omega, fun i hi => ?_⟩
    simp only [List.length_set] at hi
    have h0 := hys i hi
    rw [bt_testBit] at h0 ⊢
    by_cases hj : i / 8 = L.length / 8
    · rw [hj] at h0 ⊢
      rw [show (ys.set (L.length / 8) (lay (ys.getD (L.length / 8) 0) b L.length)).getD (L.length / 8) 0 = lay (ys.getD (L.length / 8) 0) b L.length by
        rw [List.getD_eq_getElem?_getD, List.getElem?_set_self (by omega)]; rfl, lay_bits _ _ _ _ (by omega)]
      by_cases hi2 : i = L.length
      · subst hi2
        rw [show (L ++ [b]).getD L.length false = b by simp [List.getD_eq_getElem?_getD]]
        have : (L.getD L.length false) = false := by simp [List.getD_eq_getElem?_getD]
        rw [this] at h0
        cases hq : (ys.getD (L.length / 8) 0).toNat.testBit (7 - L.length % 8)
        · simp
        · rw [hq] at h0; simp at h0
      · have : decide (7 - i % 8 = 7 - L.length % 8) = false := by simp; omega
        rw [this, Bool.and_false, Bool.or_false, h0]
        congr 1
        by_cases hlt : i < L.length
        · simp [List.getD_eq_getElem?_getD, List.getElem?_append_left hlt]
        · simp only [List.getD_eq_getElem?_getD]
          rw [List.getElem?_eq_none (by omega), List.getElem?_eq_none (by simp; omega)]
    · rw [show (ys.set (L.length / 8) (lay (ys.getD (L.length / 8) 0) b L.length)).getD (i / 8) 0 = ys.getD (i / 8) 0 by
        rw [List.getD_eq_getElem?_getD, List.getElem?_set_ne (by omega), List.getD_eq_getElem?_getD], h0]
      congr 1
      by_cases hlt : i < L.length
      · simp [List.getD_eq_getElem?_getD, List.getElem?_append_left hlt]
      · omega
  by_cases h8 : L.length % 8 = 0
  · rw [if_pos h8]
    refine key _ (by simp; omega) fun i hi => ?_
    by_cases hz : i < zs.length * 8
    · rw [← hb i hz]; unfold bt
      simp only [List.getD_eq_getElem?_getD]
      rw [List.getElem?_append_left (by omega)]
    · simp at hi
      unfold bt
      simp only [List.getD_eq_getElem?_getD]
      rw [show i / 8 = zs.length by omega, List.getElem?_append_right (by omega), List.getElem?_eq_none (l := L) (by omega)]
      simp
  · rw [if_neg h8]
    exact key _ (by omega) hb

/-! ### the world: what is kept but for some blocks -/
structure Bar (S : Nat → Prop) (w w' : World) : Prop where
  os : w'.os = w.os
  tape : w'.tape = w.tape
  output : w'.output = w.output
  size : w.heap.size ≤ w'.heap.size
  block : ∀ k, k < w.heap.size → ¬ S k → w'.heap[k]? = w.heap[k]?
theorem Bar.refl (S : Nat → Prop) (w : World) : Bar S w w := ⟨rfl, rfl, rfl, Nat.le_refl _, fun _ _ _ => rfl⟩
theorem Bar.trans {S T : Nat → Prop} {a b c : World} (h : Bar S a b) (k : Bar T b c) (hst : ∀ j, j < a.heap.size → T j → S j) : Bar S a c :=
  ⟨k.os.trans h.os, k.tape.trans h.tape, k.output.trans h.output, Nat.le_trans h.size k.size, fun j hj hn => (k.block j (Nat.lt_of_lt_of_le hj h.size) (fun t => hn (hst j hj t))).trans (h.block j hj hn)⟩
theorem Bar.wide {S T : Nat → Prop} {W W' : World} (h : Bar S W W') (hs : ∀ j, S j → T j) : Bar T W W' := ⟨h.os, h.tape, h.output, h.size, fun k hk hn => h.block k hk (fun e => hn (hs k e))⟩
theorem Bar.below {S : Nat → Prop} {w w' : World} {B : Nat} (h : Bar S w w') (hB : B ≤ w.heap.size) (hS : ∀ k, k < B → ¬ S k) : Below B w w' :=
  ⟨h.os, h.tape, h.output, h.size, fun k hk => h.block k (by omega) (hS k hk)⟩
theorem bar_of_below {S : Nat → Prop} {w w' : World} (h : Below w.heap.size w w') : Bar S w w' := ⟨h.os, h.tape, h.output, h.size, fun k hk _ => h.block k hk⟩
theorem bar_of_grown {S : Nat → Prop} {w w' : World} {row : Option Nat} (h : w.grownBy w' row) (hr : ∀ k, row = some k → S k) : Bar S w w' :=
  ⟨h.os, h.tape, h.output, h.size, fun k hk hn => h.block k hk (fun e => hn (hr k e.symm))⟩
theorem Bar.setCell {S : Nat → Prop} {a w : World} (h : Bar S a w) {p : Addr} (hp : p.block < a.heap.size → S p.block) (u : Value) : Bar S a (w.setCell p u) :=
  h.trans (T := fun k => k = p.block) ⟨rfl, rfl, rfl, by simp [World.setCell], fun k hk hn => Below.heap_setCell _ _ _ _ hn⟩ (fun j hj e => by subst e; exact hp hj)
theorem Bar.drew {S : Nat → Prop} {a w : World} (h : Bar S a w) : Bar S a w.drew := ⟨h.os, h.tape, h.output, h.size, h.block⟩
theorem Bar.alloc {S : Nat → Prop} {a w : World} (h : Bar S a w) (o : Obj) : Bar S a (w.alloc o) :=
  h.trans (T := fun _ => False) ⟨rfl, rfl, rfl, by simp, fun k hk _ => Below.heap_alloc _ _ _ hk⟩ (fun _ _ e => e.elim)

/-- the cells of a pen, of its bytes -/
abbrev u8s (zs : List UInt8) : List Value := zs.map fun z => Value.int .u8 z.toNat
abbrev penCells (b : Nat) (v : Value) (c : Nat) : Obj := .cells #[.pointer (some ⟨b, 0, none⟩), v, .int .i64 c] 64 (0, 0)
/-- the pen in block b wrote the bits L; its bytes lie in block g -/
def IsPen (w : World) (b : Nat) (g : Option Nat) (L : List Bool) : Prop :=
  ∃ v zs, v.ownBlock = g ∧ w.heap[b]? = some (penCells b v L.length) ∧ w.ownsRow 0 5 1 v zs.length (u8s zs) ∧ Packed zs L ∧ L.length ≤ 16777216
theorem IsPen.apart {w : World} {b : Nat} {g : Option Nat} {L : List Bool} (h : IsPen w b g L) : g ≠ some b := by
  obtain ⟨v, zs, rfl, hb, hr, _⟩ := h
  intro e
  rcases hr.2 with ⟨rfl, _⟩ | ⟨g', cap, cur, rfl, _, hg, _⟩
  · simp [Value.ownBlock] at e
  · simp [Value.ownBlock] at e
    subst e
    rw [hb] at hg
    simp [penCells] at hg
theorem IsPen.lt {w : World} {b : Nat} {g : Option Nat} {L : List Bool} (h : IsPen w b g L) : b < w.heap.size ∧ ∀ k, g = some k → k < w.heap.size := by
  obtain ⟨v, zs, rfl, hb, hr, _⟩ := h
  exact ⟨(Array.getElem?_eq_some_iff.1 hb).1, fun k e => (hr.lt k e).2⟩
/-- it stays what it is where its blocks are kept -/
theorem IsPen.bar {S : Nat → Prop} {w w' : World} {b : Nat} {g : Option Nat} {L : List Bool} (h : IsPen w b g L) (hb : Bar S w w') (h1 : ¬ S b) (h2 : ∀ k, g = some k → ¬ S k) : IsPen w' b g L := by
  have hlt := h.lt
  obtain ⟨v, zs, rfl, hc, hr, hp, hl⟩ := h
  refine ⟨v, zs, rfl, (hb.block b hlt.1 h1).trans hc, ⟨hr.1, ?_⟩, hp, hl⟩
  rcases hr.2 with hn | ⟨g', cap, cur, rfl, hbb, hg, rest⟩
  · exact .inl hn
  · exact .inr ⟨g', cap, cur, rfl, hbb, (hb.block g' (hlt.2 g' rfl) (h2 g' rfl)).trans hg, rest⟩


theorem Tryd.info5 : (Tryd.prog.info? 5).map (fun i => (i.zero, i.size, i.bytes)) = some (some (.int .u8 0), 1, 1) := by kernel_rfl
theorem pen_cells {w : World} {b c : Nat} {v : Value} (h : w.heap[b]? = some (penCells b v c)) :
    w.cell? ⟨b, 0, none⟩ = some (.pointer (some ⟨b, 0, none⟩)) ∧ w.cell? ⟨b, 1, none⟩ = some v ∧ w.cell? ⟨b, 2, none⟩ = some (.int .i64 c) ∧ w.frozen? ⟨b, 0, none⟩ = false ∧ w.frozen? ⟨b, 1, none⟩ = false ∧ w.frozen? ⟨b, 2, none⟩ = false := by
  simp [World.cell?, World.frozen?, h, penCells]

/-- a call has written bits: the pen holds them; but for its own blocks all is as it was -/
def Wrote (w w' : World) (b : Nat) (g : Option Nat) (L : List Bool) : Prop :=
  ∃ g', IsPen w' b g' L ∧ Bar (fun k => k = b ∨ g = some k) w w' ∧ ∀ k, g' = some k → g = some k ∨ w.heap.size ≤ k

theorem Wrote.drew {w w' : World} {b : Nat} {g : Option Nat} {L : List Bool} (h : Wrote w w' b g L) : Wrote w w'.drew b g L := by
  obtain ⟨g', hp, hb, hk⟩ := h
  exact ⟨g', hp, hb.drew, hk⟩
theorem lay_eq (z : UInt8) (x : Bool) (c : Nat) : bits .or .u8 (z.toNat : Int) (wrap64 ((x.toNat : Int) * 2 ^ (7 - c % 8)) % 256) = ((lay z x c).toNat : Int) := by
  have hz := UInt8.toNat_lt z
  have hp : x.toNat * 2 ^ (7 - c % 8) < 256 := by
    have : 2 ^ (7 - c % 8) ≤ 2 ^ 7 := Nat.pow_le_pow_right (by omega) (by omega)
    cases x <;> simp <;> omega
  have e : ((x.toNat : Int) * 2 ^ (7 - c % 8)) = ((x.toNat * 2 ^ (7 - c % 8) : Nat) : Int) := by simp
  rw [e]
  unfold lay
  generalize x.toNat * 2 ^ (7 - c % 8) = q at *
  rw [IntWalk.wrap64_in _ ⟨by omega, by omega⟩, show (q : Int) % 256 = (q : Int) by omega, u8_or_nat _ _ hz hp, UInt8.toNat_or, UInt8.toNat_ofNat', Nat.mod_eq_of_lt (by simpa using hp)]

/-- the end of push, over the row that is there by then -/
theorem push_end {w W : World} {b gr cap c : Nat} {g : Option Nat} {zs : List UInt8} {L : List Bool} (x : Bool) (hb : W.heap[b]? = some (penCells b (.slice (some ⟨gr, 0, none⟩) zs.length cap) L.length))
    (hr : W.ownsRow 0 5 1 (.slice (some ⟨gr, 0, none⟩) zs.length cap) zs.length (u8s zs)) (hne : gr ≠ b) (hl : L.length < 16777216) (hbar : Bar (fun k => k = b ∨ g = some k) w W) (hgr : g = some gr ∨ w.heap.size ≤ gr)
    (hp : Packed (zs.set (L.length / 8) (lay (zs.getD (L.length / 8) 0) x L.length)) (L ++ [x])) :
    Wrote w ((W.setCell ⟨gr, L.length / 8, none⟩ (.int .u8 ((lay (zs.getD (L.length / 8) 0) x L.length).toNat))).setCell ⟨b, 2, none⟩ (.int .i64 ((L.length : Int) + 1))) b g (L ++ [x]) := by
  refine ⟨some gr, ⟨.slice (some ⟨gr, 0, none⟩) zs.length cap, _, rfl, ?_, ?_, hp, by simp; omega⟩, (hbar.setCell (fun hlt => ?_) _).setCell (fun _ => .inl rfl) _, fun k e => by cases e; exact hgr⟩
  · have h1 : (W.setCell ⟨gr, L.length / 8, none⟩ (.int .u8 ((lay (zs.getD (L.length / 8) 0) x L.length).toNat))).heap[b]? = some (penCells b (.slice (some ⟨gr, 0, none⟩) zs.length cap) L.length) :=
      (heap_setCell_other _ _ _ _ (fun e => hne e.symm)).trans hb
    rw [heap_setCell_same _ _ _ _ _ _ h1]
    simp [penCells]
  · have h2 := hr.stored (L.length / 8) (.int .u8 ((lay (zs.getD (L.length / 8) 0) x L.length).toNat))
    simp only [List.length_set]
    have h3 := h2.1.kept (w' := (W.setCell ⟨gr, L.length / 8, none⟩ (.int .u8 ((lay (zs.getD (L.length / 8) 0) x L.length).toNat))).setCell ⟨b, 2, none⟩ (.int .i64 ((L.length : Int) + 1))) (row := some b) ⟨rfl, rfl, rfl, by simp [World.setCell], fun k _ hk => heap_setCell_other _ _ _ _ (fun e => hk (by rw [e]))⟩ (.inr (by simp [Value.ownBlock]; exact hne))
    simpa [u8s, List.map_set] using h3
  · rcases hgr with h | h
    · exact .inr h
    · exact absurd hlt (by simp; omega)

theorem row_cell {W : World} {gr cap n : Nat} {zs : List UInt8} {t : TypeId} (hr : W.ownsRow 0 t 1 (.slice (some ⟨gr, 0, none⟩) zs.length cap) zs.length (u8s zs)) (hn : n < zs.length) :
    W.cell? ⟨gr, n, none⟩ = some (.int .u8 ((zs.getD n 0).toNat)) ∧ W.frozen? ⟨gr, n, none⟩ = false := by
  refine ⟨?_, hr.frozenAt n⟩
  rw [hr.cellAt n (by omega)]
  simp [hn]

set_option maxRecDepth 100000 in
set_option maxHeartbeats 1000000 in
theorem push_old {w : World} {b : Nat} {g : Option Nat} {L : List Bool} (h : IsPen w b g L) (x : Bool) (hl : L.length < 16777216) (h8 : L.length % 8 ≠ 0) :
    Calls Tryd.prog 42 #[.pointer (some ⟨b, 0, none⟩), .int .i64 x.toNat] w fun e w' => e = .returned (.tuple #[]) ∧ Wrote w w' b g (L ++ [x]) := by
  have hap := h.apart
  obtain ⟨v, zs, rfl, hb, hr, hp, _⟩ := h
  have hp' := packed_push hp x
  rw [if_neg h8] at hp'
  have hzl := hp.1
  obtain ⟨gr, cap, rfl⟩ : ∃ gr cap, v = .slice (some ⟨gr, 0, none⟩) zs.length cap := by
    rcases hr.2 with ⟨_, hn⟩ | ⟨g', cap, cur, e, _⟩
    · omega
    · exact ⟨g', cap, e⟩
  have hne : gr ≠ b := by simpa [Value.ownBlock] using hap
  have HE := Lib.hid (push_end (g := some gr) (c := 0) x hb hr hne hl (Bar.refl _ w) (.inl rfl) hp')
  have hv := lay_eq (zs.getD (L.length / 8) 0) x L.length
  obtain ⟨c0, c1, c2, f0, f1, f2⟩ := pen_cells hb
  obtain ⟨hgc, hgf⟩ := row_cell hr (n := L.length / 8) (by omega)
  clear hb hr hp hp' hap
  generalize (zs.getD (L.length / 8) 0) = z at *
  generalize zs.length = n at *
  generalize L.length = c at *
  generalize L ++ [x] = L' at *
  have HV := Lib.hid hv
  have HZ := Lib.hid hzl
  have hc8 : c / 8 < n := by omega
  have hn8 : n ≤ 2097153 := by omega
  clear hv hzl
  have h8' : (((c : Int) % 8) == 0) = false := by simp; omega
  go_enter Tryd.func42, Tryd.ntmps42
  go_wp2
  go_region
  go_wp2
  go_end0
  rw [HV.out]
  exact ⟨rfl, HE.out.drew⟩

set_option maxRecDepth 100000 in
set_option maxHeartbeats 2000000 in
theorem push_new {w : World} {b : Nat} {g : Option Nat} {L : List Bool} (h : IsPen w b g L) (x : Bool) (hl : L.length < 16777216) (h8 : L.length % 8 = 0) :
    Calls Tryd.prog 42 #[.pointer (some ⟨b, 0, none⟩), .int .i64 x.toNat] w fun e w' => e = .returned (.tuple #[]) ∧ Wrote w w' b g (L ++ [x]) := by
  have hap := h.apart
  have hlt := h.lt
  obtain ⟨v, zs, rfl, hb, hr, hp, _⟩ := h
  have hp' := packed_push hp x
  rw [if_pos h8] at hp'
  have hzl := hp.1
  obtain ⟨i0, hi, hz0, hz1, hz2⟩ := info_parts Tryd.info5
  obtain ⟨c0, c1, c2, f0, f1, f2⟩ := pen_cells hb
  have h8' : (((L.length : Int) % 8) == 0) = true := by simp; omega
  have HR := Lib.hid hr
  have HZ := Lib.hid hzl
  have hn8 : zs.length ≤ 2097152 := by omega
  clear hr hzl hp
  go_enter Tryd.func42, Tryd.ntmps42
  go_wp2_with (at_builtin; refine wpList_append_where _ rfl _ _ 22 rfl 0 5 i0 (.int .u8 0) 1 1 Tryd.underlying22 hi hz0 hz1 hz2 rfl (by decide) v zs.length _ rfl (HR.out.alloc _) ⟨w.heap.size, 0, none⟩ 1 1 [.int .u8 0] rfl rfl ?c1 ?c2 ?c3 ?c4 ?c5 ?_)
  case c1 => exact cell_one_new _ _ _
  case c2 => simp [Value.oneCell']
  case c3 => unfold maxLen; omega
  case c4 => omega
  case c5 => omega
  intro v' w1 hown' hgrow hwh
  obtain ⟨gr, cap, rfl⟩ := ownsRow_succ hown'
  have hb1 : w1.heap[b]? = some (penCells b v L.length) := (hgrow.block b (by simp; omega) (fun e => hap e.symm)).trans ((Below.heap_alloc _ _ _ hlt.1).trans hb)
  have hne : gr ≠ b := by
    rcases hwh gr rfl with h | h
    · intro e; subst e; exact hap h
    · omega
  have hbar : Bar (fun k => k = b ∨ v.ownBlock = some k) w w1 := ((Bar.refl _ w).alloc _).trans (bar_of_grown (S := fun k => v.ownBlock = some k) hgrow (fun k e => e)) (fun j _ e => .inr e)
  have hz1' : (zs ++ [0]).length = zs.length + 1 := by simp
  have hu : u8s zs ++ [Value.int IntKind.u8 0] = u8s (zs ++ [0]) := by simp [u8s]
  rw [hu, ← hz1'] at hown'
  have hgr : v.ownBlock = some gr ∨ w.heap.size ≤ gr := (hwh gr rfl).imp id (fun h => by omega)
  have hb2 : (w1.setCell ⟨b, 1, none⟩ (.slice (some ⟨gr, 0, none⟩) (zs ++ [0]).length cap)).heap[b]? = some (penCells b (.slice (some ⟨gr, 0, none⟩) (zs ++ [0]).length cap) L.length) := by
    rw [heap_setCell_same _ _ _ _ _ _ hb1]; simp [penCells]
  have hr2 := hown'.kept (w' := w1.setCell ⟨b, 1, none⟩ (.slice (some ⟨gr, 0, none⟩) (zs ++ [0]).length cap)) (row := some b) ⟨rfl, rfl, rfl, by simp [World.setCell], fun k _ hk => heap_setCell_other _ _ _ _ (fun e => hk (by rw [e]))⟩ (.inr (by simp [Value.ownBlock]; exact hne))
  have HE := Lib.hid (push_end (c := 0) x hb2 hr2 hne hl (hbar.setCell (p := ⟨b, 1, none⟩) (fun _ => .inl rfl) _) hgr hp')
  have hv := lay_eq ((zs ++ [0]).getD (L.length / 8) 0) x L.length
  simp only [h8, Nat.sub_zero, Int.reducePow] at hv
  have HV := Lib.hid hv
  clear hv
  obtain ⟨d0, d1, d2, g0, g1, g2⟩ := pen_cells hb1
  obtain ⟨hgc, hgf⟩ := row_cell hr2 (n := L.length / 8) (by have := HZ.out; simp; omega)
  have hgc1 : w1.cell? ⟨gr, L.length / 8, none⟩ = some (.int .u8 (((zs ++ [0]).getD (L.length / 8) 0).toNat)) := by
    rw [← hgc]; exact (World.cell?_setCell_other _ _ _ _ (by simp [*])).symm
  have hgf1 : w1.frozen? ⟨gr, L.length / 8, none⟩ = false := hown'.frozenAt _
  have hc8 : L.length / 8 < (zs ++ [0]).length := by have := HZ.out; simp; omega
  have hn9 : (zs ++ [0]).length ≤ 2097153 := by simp; omega
  clear hb hb1 hb2 hr2 hown' hgrow hwh hbar hgr hap hlt hp' c0 c1 c2 f0 f1 f2 hgc hgf hu
  rw [← hz1'] 
  clear hz1'
  generalize ((zs ++ [0]).getD (L.length / 8) 0) = z at *
  generalize (zs ++ [0]).length = n at *
  go_wp2
  go_region
  go_wp2
  go_end0
  rw [HV.out]
  exact ⟨rfl, HE.out.drew⟩

theorem push_any {w : World} {b : Nat} {g : Option Nat} {L : List Bool} (h : IsPen w b g L) (x : Bool) (hl : L.length < 16777216) :
    Calls Tryd.prog 42 #[.pointer (some ⟨b, 0, none⟩), .int .i64 x.toNat] w fun e w' => e = .returned (.tuple #[]) ∧ Wrote w w' b g (L ++ [x]) := by
  by_cases h8 : L.length % 8 = 0
  · exact push_new h x hl h8
  · exact push_old h x hl h8

end Go.Proofs.YtlcaboddkcpgaaaDoor

/- Contracts of bits.NewPen and of a pen's methods made, room, Len, Put. Texts of bits: strings.ContainsFunc at bits.isNoBit; the contract of (*bits.Pen).Code. Contracts of slices.Clone at bytes, of (*bits.Pen).Bytes, of the kit's SameBytes and OverBytes. -/
/- Contracts of bits.NewPen and of a pen's methods made, room, Len, Put. -/
namespace Go.Proofs.YtlcaboddkcpgaaaDoor
open Go.RowKit Go.Shelf
set_option linter.unusedVariables false

theorem push_at {w : World} {b : Nat} {g : Option Nat} {L : List Bool} (y : Int) (x : Bool) (hy : y = x.toNat) (h : IsPen w b g L) (hl : L.length < 16777216) :
    Calls Tryd.prog 42 #[.pointer (some ⟨b, 0, none⟩), .int .i64 y] w fun e w' => e = .returned (.tuple #[]) ∧ Wrote w w' b g (L ++ [x]) := by
  subst hy; exact push_any h x hl
theorem Wrote.refl {w : World} {b : Nat} {g : Option Nat} {L : List Bool} (h : IsPen w b g L) : Wrote w w b g L := ⟨g, h, Bar.refl _ _, fun k e => .inl e⟩
theorem Wrote.trans {w w1 w2 : World} {b : Nat} {g g' : Option Nat} {L' : List Bool} (hb : Bar (fun k => k = b ∨ g = some k) w w1) (hg : ∀ k, g' = some k → g = some k ∨ w.heap.size ≤ k) (k : Wrote w1 w2 b g' L') : Wrote w w2 b g L' := by
  obtain ⟨g2, hp, hb2, hg2⟩ := k
  refine ⟨g2, hp, hb.trans hb2 (fun j hj e => ?_), fun j e => ?_⟩
  · rcases e with rfl | e
    · exact .inl rfl
    · rcases hg j e with h | h
      · exact .inr h
      · omega
  · rcases hg2 j e with h | h
    · exact hg j h
    · exact .inr (Nat.le_trans hb.size h)

theorem newPen_any (w : World) : Calls Tryd.prog 23 #[] w fun e w' => e = .returned (.pointer (some ⟨w.heap.size, 0, none⟩)) ∧ IsPen w' w.heap.size none [] ∧ Below w.heap.size w w' := by
  go_enter Tryd.func23, Tryd.ntmps23
  go_wp2
  go_ret
  refine ⟨rfl, ⟨.slice none 0 0, [], rfl, World.alloc_heap_new w _, World.ownsRow_nil _ _ _ _, packed_nil, by simp⟩, (Below.refl _ _).alloc (Nat.le_refl _) _⟩

theorem ptr_eq (a : Addr) (w : World) : (binOp .eql 41 (.pointer (some a)) (.pointer (some a))).run Tryd.prog w = .ok (.bool true) w := by
  obtain ⟨j, hj⟩ : ∃ j, Tryd.prog.info? 64 = some j := Option.isSome_iff_exists.1 (by kernel_rfl)
  exact run_eql_ptr_same w a Tryd.underlying41 hj
theorem made_any {w : World} {b : Nat} {g : Option Nat} {L : List Bool} (h : IsPen w b g L) :
    Calls Tryd.prog 40 #[.pointer (some ⟨b, 0, none⟩)] w fun e w' => e = .returned (.bool true) ∧ w = w' := by
  obtain ⟨v, zs, rfl, hb, _⟩ := h
  obtain ⟨c0, c1, c2, f0, f1, f2⟩ := pen_cells hb
  clear hb
  have he := ptr_eq ⟨b, 0, none⟩ w
  go_enter Tryd.func40, Tryd.ntmps40
  go_wp2
  go_ret
  exact ⟨rfl, rfl⟩

theorem room_any {w : World} {b : Nat} {g : Option Nat} {L : List Bool} (h : IsPen w b g L) :
    Calls Tryd.prog 41 #[.pointer (some ⟨b, 0, none⟩)] w fun e w' => e = .returned (.int .i64 (16777216 - L.length)) ∧ w = w' := by
  obtain ⟨v, zs, rfl, hb, _, _, hl⟩ := h
  obtain ⟨c0, c1, c2, f0, f1, f2⟩ := pen_cells hb
  clear hb
  go_enter Tryd.func41, Tryd.ntmps41
  go_wp2
  go_ret
  exact ⟨rfl, rfl⟩

theorem len_any {w : World} {b : Nat} {g : Option Nat} {L : List Bool} (h : IsPen w b g L) :
    Calls Tryd.prog 27 #[.pointer (some ⟨b, 0, none⟩)] w fun e w' => e = .returned (.int .i64 L.length) ∧ w = w' := by
  have HM := Lib.hid (made_any h)
  obtain ⟨v, zs, rfl, hb, _⟩ := h
  obtain ⟨c0, c1, c2, f0, f1, f2⟩ := pen_cells hb
  clear hb
  go_enter Tryd.func27, Tryd.ntmps27
  go_wp2_with (go_at_call 40; refine HM.out.mono ?_; rintro e w' ⟨rfl, rfl⟩)
  go_ret
  exact ⟨rfl, rfl⟩

/-- the bits of a number -/
def numBits (n k : Nat) : List Bool := (List.range k).map fun i => decide (n / 2 ^ (k - 1 - i) % 2 = 1)
def putE (L : List Bool) (n k : Int) : Int :=
  if k < 0 ∨ 32 < k ∨ n < 0 ∨ n / 2 ^ k.toNat ≠ 0 then 3 else if 16777216 - (L.length : Int) < k then 4 else 0
def putL (L : List Bool) (n k : Int) : List Bool := if putE L n k = 0 then L ++ numBits n.toNat k.toNat else L

set_option maxHeartbeats 400000 in
theorem put_range {w : World} {b : Nat} {g : Option Nat} {L : List Bool} (h : IsPen w b g L) (n k : Int) (hr : k < 0 ∨ 32 < k ∨ n < 0) :
    Calls Tryd.prog 25 #[.pointer (some ⟨b, 0, none⟩), .int .i64 n, .int .i64 k] w fun e w' => e = .returned (.int .i64 3) ∧ w = w' := by
  have HM := Lib.hid (made_any h)
  clear h
  by_cases h1 : k < 0
  · go_enter Tryd.func25, Tryd.ntmps25
    go_wp2_with (go_at_call 40; refine HM.out.mono ?_; rintro e w' ⟨rfl, rfl⟩)
    go_ret
    exact ⟨rfl, rfl⟩
  · by_cases h2 : 32 < k
    · go_enter Tryd.func25, Tryd.ntmps25
      go_wp2_with (go_at_call 40; refine HM.out.mono ?_; rintro e w' ⟨rfl, rfl⟩)
      go_ret
      exact ⟨rfl, rfl⟩
    · have h3 : n < 0 := by omega
      go_enter Tryd.func25, Tryd.ntmps25
      go_wp2_with (go_at_call 40; refine HM.out.mono ?_; rintro e w' ⟨rfl, rfl⟩)
      go_ret
      exact ⟨rfl, rfl⟩

set_option maxHeartbeats 400000 in
theorem put_big {w : World} {b : Nat} {g : Option Nat} {L : List Bool} (h : IsPen w b g L) (n : Int) (k : Nat) (h2 : k ≤ 32) (h3 : 0 ≤ n) (hr : n / 2 ^ k ≠ 0) (hn : n ≤ 9223372036854775807) :
    Calls Tryd.prog 25 #[.pointer (some ⟨b, 0, none⟩), .int .i64 n, .int .i64 k] w fun e w' => e = .returned (.int .i64 3) ∧ w = w' := by
  have HM := Lib.hid (made_any h)
  have hr' : (n / 2 ^ k != 0) = true := by simpa using hr
  clear h hr
  go_enter Tryd.func25, Tryd.ntmps25
  go_wp2_with (go_at_call 40; refine HM.out.mono ?_; rintro e w' ⟨rfl, rfl⟩)
  go_ret
  exact ⟨rfl, rfl⟩

set_option maxHeartbeats 400000 in
theorem put_long {w : World} {b : Nat} {g : Option Nat} {L : List Bool} (h : IsPen w b g L) (n : Int) (k : Nat) (h2 : k ≤ 32) (h3 : 0 ≤ n) (hr : n / 2 ^ k = 0) (hn : n ≤ 9223372036854775807) (hl : 16777216 - (L.length : Int) < k) :
    Calls Tryd.prog 25 #[.pointer (some ⟨b, 0, none⟩), .int .i64 n, .int .i64 k] w fun e w' => e = .returned (.int .i64 4) ∧ w = w' := by
  have HM := Lib.hid (made_any h)
  have HR := Lib.hid (room_any h)
  have hr' : (n / 2 ^ k != 0) = false := by simpa using hr
  clear h hr
  go_enter Tryd.func25, Tryd.ntmps25
  go_wp2_with (first | (go_at_call 40; refine HM.out.mono ?_; rintro e w' ⟨rfl, rfl⟩) | (go_at_call 41; refine HR.out.mono ?_; rintro e w' ⟨rfl, rfl⟩))
  go_ret
  exact ⟨rfl, rfl⟩

theorem numBits_take (n k j : Nat) (hj : j < k) : (numBits n k).take (j + 1) = (numBits n k).take j ++ [decide (n / 2 ^ (k - 1 - j) % 2 = 1)] := by
  rw [List.take_add_one]
  simp [numBits, hj]
theorem toNat_decide (m : Nat) : ((m : Int) % 2) = ((decide (m % 2 = 1)).toNat : Int) := by
  by_cases h : m % 2 = 1
  · simp [h]; omega
  · simp [h]; omega

set_option maxRecDepth 100000 in
set_option maxHeartbeats 1000000 in
theorem put_ok {w : World} {b : Nat} {g : Option Nat} {L : List Bool} (h : IsPen w b g L) (n k : Nat) (h2 : k ≤ 32) (hr : n / 2 ^ k = 0) (hn : n ≤ 9223372036854775807) (hl : L.length + k ≤ 16777216) :
    Calls Tryd.prog 25 #[.pointer (some ⟨b, 0, none⟩), .int .i64 n, .int .i64 k] w fun e w' => e = .returned (.int .i64 0) ∧ Wrote w w' b g (L ++ numBits n k) := by
  have HM := Lib.hid (made_any h)
  have HR := Lib.hid (room_any h)
  have H := Lib.hid h
  have hr' : ((n : Int) / 2 ^ k != 0) = false := by
    have : ((n : Int) / 2 ^ k) = ((n / 2 ^ k : Nat) : Int) := by simp
    rw [this, hr]; rfl
  have t1 : decide ((k : Int) < 0) = false := by simp
  have t2 : decide ((32 : Int) < k) = false := by simp; omega
  have t3 : decide ((n : Int) < 0) = false := by simp
  have t4 : decide (16777216 - (L.length : Int) < k) = false := by simp; omega
  clear h hr
  go_enter Tryd.func25, Tryd.ntmps25
  go_wp2_with (first | (go_at_call 40; refine HM.out.mono ?_; rintro e w' ⟨rfl, rfl⟩) | (go_at_call 41; refine HR.out.mono ?_; rintro e w' ⟨rfl, rfl⟩))
  go_loopw [32] (fun i wr => ∃ j : Nat, j ≤ k ∧ i = .int .i64 j ∧ Wrote w wr b g (L ++ (numBits n k).take j)) (fun i _ => k - (intOf i).toNat)
  case atStart => exact ⟨0, Nat.zero_le _, rfl, by simpa using Wrote.refl H.out⟩
  case round =>
    obtain ⟨j, hj, rfl, g', hp, hbar, hg'⟩ := hrel
    by_cases hlt : j < k
    · have hle : ((numBits n k).take j).length ≤ j := List.length_take_le _ _
      have HP := Lib.hid hp
      have HB := Lib.hid hbar
      have HG := Lib.hid hg'
      clear hp hbar hg'
      have hy : bits .and .i64 ((n : Int) / 2 ^ (k - 1 - j)) 1 = ((decide (n / 2 ^ (k - 1 - j) % 2 = 1)).toNat : Int) := by
        rw [i64_and1, show ((n : Int) / 2 ^ (k - 1 - j)) = ((n / 2 ^ (k - 1 - j) : Nat) : Int) by simp, toNat_decide]
      have HY := Lib.hid hy
      clear hy
      go_wp2_with fail
      refine (push_at _ _ HY.out HP.out (by simp at hle ⊢; omega)).mono ?_
      rintro e w' ⟨rfl, hw⟩
      have HW := Lib.hid hw
      clear hw
      go_wp2
      go_roundw
      case rel => exact ⟨j + 1, by omega, by go_num, by rw [numBits_take n k j hlt, ← List.append_assoc]; exact Wrote.trans HB.out HG.out HW.out⟩
      case measure => simp [intOf]; omega
    · obtain rfl : j = k := by omega
      have HW : Hid (Wrote w wr b g (L ++ numBits n j)) := ⟨g', by rw [List.take_of_length_le (by simp [numBits])] at hp; exact hp, hbar, hg'⟩
      clear hp hbar hg'
      go_wp2
      go_ret
      exact ⟨rfl, HW.out⟩

theorem put_any {w : World} {b : Nat} {g : Option Nat} {L : List Bool} (h : IsPen w b g L) (n k : Int) (hn : n ≤ 9223372036854775807) :
    Calls Tryd.prog 25 #[.pointer (some ⟨b, 0, none⟩), .int .i64 n, .int .i64 k] w fun e w' => e = .returned (.int .i64 (putE L n k)) ∧ Wrote w w' b g (putL L n k) := by
  have hL : L.length ≤ 16777216 := by obtain ⟨_, _, _, _, _, _, hl⟩ := h; exact hl
  by_cases hr : k < 0 ∨ 32 < k ∨ n < 0
  · have e : putE L n k = 3 := by unfold putE; rw [if_pos (by omega)]
    refine (put_range h n k hr).mono ?_
    rintro _ w' ⟨rfl, rfl⟩
    refine ⟨by rw [e], ?_⟩
    unfold putL; rw [e, if_neg (by omega)]; exact Wrote.refl h
  · obtain ⟨k, rfl⟩ := Int.eq_ofNat_of_zero_le (a := k) (by omega)
    by_cases hb : n / 2 ^ k = 0
    · by_cases hl : 16777216 - (L.length : Int) < k
      · have e : putE L n k = 4 := by unfold putE; rw [if_neg (by rw [Int.toNat_natCast]; omega), if_pos hl]
        refine (put_long h n k (by omega) (by omega) hb hn hl).mono ?_
        rintro _ w' ⟨rfl, rfl⟩
        refine ⟨by rw [e], ?_⟩
        unfold putL; rw [e, if_neg (by omega)]; exact Wrote.refl h
      · have e : putE L n k = 0 := by unfold putE; rw [if_neg (by rw [Int.toNat_natCast]; omega), if_neg hl]
        obtain ⟨n, rfl⟩ := Int.eq_ofNat_of_zero_le (a := n) (by omega)
        refine (put_ok h n k (by omega) (by have : ((n : Int) / 2 ^ k) = ((n / 2 ^ k : Nat) : Int) := by simp
                                            omega) (by omega) (by omega)).mono ?_
        rintro _ w' ⟨rfl, hw⟩
        refine ⟨by rw [e], ?_⟩
        unfold putL; rw [e, if_pos rfl]; exact hw
    · have e : putE L n k = 3 := by unfold putE; rw [if_pos (by rw [Int.toNat_natCast]; omega)]
      refine (put_big h n k (by omega) (by omega) hb hn).mono ?_
      rintro _ w' ⟨rfl, rfl⟩
      refine ⟨by rw [e], ?_⟩
      unfold putL; rw [e, if_neg (by omega)]; exact Wrote.refl h

end Go.Proofs.YtlcaboddkcpgaaaDoor

/- Texts of bits: strings.ContainsFunc at bits.isNoBit; the contract of (*bits.Pen).Code. -/
namespace Go.Proofs.YtlcaboddkcpgaaaDoor
open Go.RowKit Go.Shelf
set_option linter.unusedVariables false

def noBit (r : Int) : Bool := !(r == 48) && !(r == 49)
set_option maxHeartbeats 400000 in
theorem isNoBit_any (r : Int) (w : World) : Calls Tryd.prog 44 #[.int .i32 r] w fun e w' => e = .returned (.bool (noBit r)) ∧ w = w' := by
  unfold noBit
  by_cases h1 : r = 48
  · subst h1
    go_enter Tryd.func44, Tryd.ntmps44
    go_wp2
    go_ret
    exact ⟨rfl, rfl⟩
  · have h1' : (r == 48) = false := by simpa using h1
    have h1'' : (r != 48) = true := by simpa using h1
    go_enter Tryd.func44, Tryd.ntmps44
    go_wp2
    go_ret
    exact ⟨by simp [h1, bne], rfl⟩

/-- nothing but noughts and ones -/
def AllBits (s : ByteArray) : Prop := ∀ i (h : i < s.size), s[i] = 48 ∨ s[i] = 49
/-- the rune at a place -/
theorem rune_at (s : ByteArray) (i : Nat) (h : i < s.size) : noBit ((Utf8.decode s i).1 : Nat) = !(s[i] == 48 || s[i] == 49) ∧ ((s[i] = 48 ∨ s[i] = 49) → Utf8.decode s i = (s[i].toNat, 1)) := by
  by_cases ha : s[i].toNat < 128
  · rw [decode_ascii s i h ha]
    refine ⟨?_, fun _ => rfl⟩
    have e1 : ((s[i].toNat : Int) == 48) = (s[i] == 48) := by
      rw [Bool.eq_iff_iff]; simp only [beq_iff_eq]; rw [← UInt8.toNat_inj]
      show _ ↔ s[i].toNat = 48; omega
    have e2 : ((s[i].toNat : Int) == 49) = (s[i] == 49) := by
      rw [Bool.eq_iff_iff]; simp only [beq_iff_eq]; rw [← UInt8.toNat_inj]
      show _ ↔ s[i].toNat = 49; omega
    simp [noBit, e1, e2]
  · have hd := (decode_high s i h (by omega)).1
    have n1 : s[i] ≠ 48 := fun e => by rw [e] at ha; exact ha (by decide)
    have n2 : s[i] ≠ 49 := fun e => by rw [e] at ha; exact ha (by decide)
    refine ⟨?_, fun h => by rcases h with h | h <;> contradiction⟩
    have e1 : (((Utf8.decode s i).1 : Int) == 48) = false := by simp; omega
    have e2 : (((Utf8.decode s i).1 : Int) == 49) = false := by simp; omega
    have e3 : (s[i] == 48) = false := by simpa using n1
    have e4 : (s[i] == 49) = false := by simpa using n2
    unfold noBit
    rw [e1, e2, e3, e4]
    rfl

set_option maxRecDepth 100000 in
set_option maxHeartbeats 1000000 in
theorem indexFunc_none (s : ByteArray) (w : World) (hs : AllBits s) :
    Calls Tryd.prog 62 #[.string s, .func (.func 44) #[] #[], .bool true] w fun e w' => e = .returned (.int .i64 (-1)) ∧ Below w.heap.size w w' := by
  have HS := Lib.hid hs
  clear hs
  go_enter Tryd.func62, Tryd.ntmps62
  go_wp2
  go_loopg [] s.size (fun gf wx => ∃ pos : Nat, wx.heap[w.heap.size]? = some (.stringIter s pos) ∧ Below w.heap.size w wx ∧ pos + gf = s.size)
  case atStart => exact ⟨0, World.iter_heap w s 0, (Below.refl _ w).alloc (Nat.le_refl _) _, by omega⟩
  case round =>
    obtain ⟨pos, hit, hbw, hfu⟩ := hrel
    by_cases hps : pos < s.size
    · obtain ⟨g', rfl⟩ : ∃ g', gk = g' + 1 := ⟨gk - 1, by omega⟩
      have hnx : ∀ ty, (Instr.next (.pointer (some ⟨w.heap.size, 0, none⟩)) true ty).run Tryd.prog wr = _ := fun ty => Lib.run_next_any_at wr w.heap.size s pos ty hit hps
      have hr := rune_at s pos hps
      have hd := hr.2 (HS.out pos hps)
      have hb : noBit ((s[pos].toNat : Nat) : Int) = false := by
        have := hr.1; rw [hd] at this; rw [this]; rcases HS.out pos hps with h | h <;> simp [h]
      rw [hd] at hnx
      have hit2 := Lib.iterAt_heap wr w.heap.size s pos (pos + 1) hit
      have hbw2 := Lib.below_iterAt hbw (k := w.heap.size) (Nat.le_refl _) s (pos + 1)
      obtain ⟨W, hWd⟩ : ∃ W, wr.iterAt w.heap.size s (pos + 1) = W := ⟨_, rfl⟩
      simp only at hnx
      rw [hWd] at hnx hit2 hbw2
      have cS := isNoBit_any ((s[pos].toNat : Nat) : Int) W
      rw [hb] at cS
      have HCS := Lib.hid cS
      have HFU := Lib.hid hfu
      clear cS hr hd hb hfu hWd
      generalize s[pos].toNat = R at *
      go_wp2_with (go_at_call 44; refine HCS.out.mono ?_; rintro e W' ⟨rfl, rfl⟩)
      go_roundg g'
      case measure => omega
      case rel => exact ⟨pos + 1, hit2, hbw2, by have := HFU.out; omega⟩
    · have hnx := fun ty => Lib.run_next_end_at (P := Tryd.prog) wr w.heap.size s pos ty hit hps
      go_wp2
      go_ret
      exact ⟨rfl, hbw⟩

set_option maxRecDepth 100000 in
set_option maxHeartbeats 1000000 in
theorem indexFunc_some (s : ByteArray) (w : World) (k : Nat) (hk : k < s.size) (hs : ∀ i (h : i < s.size), i < k → s[i] = 48 ∨ s[i] = 49) (hb : ¬ (s[k] = 48 ∨ s[k] = 49)) :
    Calls Tryd.prog 62 #[.string s, .func (.func 44) #[] #[], .bool true] w fun e w' => e = .returned (.int .i64 k) ∧ Below w.heap.size w w' := by
  have HS := Lib.hid hs
  have HB := Lib.hid hb
  clear hs hb
  go_enter Tryd.func62, Tryd.ntmps62
  go_wp2
  go_loopg [] k (fun gf wx => ∃ pos : Nat, wx.heap[w.heap.size]? = some (.stringIter s pos) ∧ Below w.heap.size w wx ∧ pos + gf = k)
  case atStart => exact ⟨0, World.iter_heap w s 0, (Below.refl _ w).alloc (Nat.le_refl _) _, by omega⟩
  case round =>
    obtain ⟨pos, hit, hbw, hfu⟩ := hrel
    by_cases hps : pos < k
    · have hpk : pos < s.size := Nat.lt_trans hps hk
      obtain ⟨g', rfl⟩ : ∃ g', gk = g' + 1 := ⟨gk - 1, by omega⟩
      have hnx : ∀ ty, (Instr.next (.pointer (some ⟨w.heap.size, 0, none⟩)) true ty).run Tryd.prog wr = _ := fun ty => Lib.run_next_any_at wr w.heap.size s pos ty hit hpk
      have hr := rune_at s pos hpk
      have hd := hr.2 (HS.out pos hpk hps)
      have hb : noBit ((s[pos].toNat : Nat) : Int) = false := by
        have := hr.1; rw [hd] at this; rw [this]; rcases HS.out pos hpk hps with h | h <;> simp [h]
      rw [hd] at hnx
      have hit2 := Lib.iterAt_heap wr w.heap.size s pos (pos + 1) hit
      have hbw2 := Lib.below_iterAt hbw (k := w.heap.size) (Nat.le_refl _) s (pos + 1)
      obtain ⟨W, hWd⟩ : ∃ W, wr.iterAt w.heap.size s (pos + 1) = W := ⟨_, rfl⟩
      simp only at hnx
      rw [hWd] at hnx hit2 hbw2
      have cS := isNoBit_any ((s[pos].toNat : Nat) : Int) W
      rw [hb] at cS
      have HCS := Lib.hid cS
      have HFU := Lib.hid hfu
      clear cS hr hd hb hfu hWd
      generalize s[pos].toNat = R at *
      go_wp2_with (go_at_call 44; refine HCS.out.mono ?_; rintro e W' ⟨rfl, rfl⟩)
      go_roundg g'
      case measure => omega
      case rel => exact ⟨pos + 1, hit2, hbw2, by have := HFU.out; omega⟩
    · obtain rfl : pos = k := by omega
      have hnx : ∀ ty, (Instr.next (.pointer (some ⟨w.heap.size, 0, none⟩)) true ty).run Tryd.prog wr = _ := fun ty => Lib.run_next_any_at wr w.heap.size s pos ty hit hk
      have hr := (rune_at s pos hk).1
      have hb : noBit ((Utf8.decode s pos).1 : Nat) = true := by
        rw [hr]; have := HB.out; simp at this ⊢; exact this
      have hbw2 := Lib.below_iterAt hbw (k := w.heap.size) (Nat.le_refl _) s (pos + (Utf8.decode s pos).2)
      obtain ⟨W, hWd⟩ : ∃ W, wr.iterAt w.heap.size s (pos + (Utf8.decode s pos).2) = W := ⟨_, rfl⟩
      rw [hWd] at hnx hbw2
      have cS := isNoBit_any ((Utf8.decode s pos).1 : Nat) W
      rw [hb] at cS
      have HCS := Lib.hid cS
      clear cS hr hb hfu hWd HB
      generalize (Utf8.decode s pos).1 = R at *
      go_wp2_with (go_at_call 44; refine HCS.out.mono ?_; rintro e W' ⟨rfl, rfl⟩)
      go_ret
      exact ⟨rfl, hbw2⟩

theorem first_bad (s : ByteArray) (h : ¬ AllBits s) : ∃ k, ∃ hk : k < s.size, (∀ i (h : i < s.size), i < k → s[i] = 48 ∨ s[i] = 49) ∧ ¬ (s[k] = 48 ∨ s[k] = 49) := by
  have key : ∀ n, n ≤ s.size → (∀ i (h : i < s.size), i < n → s[i] = 48 ∨ s[i] = 49) ∨ ∃ k, ∃ hk : k < s.size, (∀ i (h : i < s.size), i < k → s[i] = 48 ∨ s[i] = 49) ∧ ¬ (s[k] = 48 ∨ s[k] = 49) := by
    intro n
    induction n with
    | zero => intro _; exact .inl fun i _ h => by omega
    | succ n ih =>
      intro hn
      rcases ih (by omega) with h1 | h1
      · by_cases hb : s[n] = 48 ∨ s[n] = 49
        · refine .inl fun i hi hlt => ?_
          by_cases e : i = n
          · subst e; exact hb
          · exact h1 i hi (by omega)
        · exact .inr ⟨n, by omega, h1, hb⟩
      · exact .inr h1
  rcases key s.size (Nat.le_refl _) with h1 | h1
  · exact absurd (fun i hi => h1 i hi hi) h
  · exact h1

theorem contains_none (s : ByteArray) (w : World) (hs : AllBits s) :
    Calls Tryd.prog 43 #[.string s, .func (.func 44) #[] #[]] w fun e w' => e = .returned (.bool false) ∧ Below w.heap.size w w' := by
  have HS := Lib.hid (indexFunc_none s w hs)
  clear hs
  go_enter Tryd.func43, Tryd.ntmps43
  go_wp2_with (first | (go_at_call 62; refine HS.out.mono ?_; rintro e W' ⟨rfl, hb⟩) | go_in)
  go_ret
  exact ⟨rfl, hb⟩
theorem contains_some (s : ByteArray) (w : World) (hs : ¬ AllBits s) :
    Calls Tryd.prog 43 #[.string s, .func (.func 44) #[] #[]] w fun e w' => e = .returned (.bool true) ∧ Below w.heap.size w w' := by
  obtain ⟨k, hk, h1, h2⟩ := first_bad s hs
  have HS := Lib.hid (indexFunc_some s w k hk h1 h2)
  have h0 : (0 : Int) ≤ (k : Int) := by omega
  clear hs h1 h2
  go_enter Tryd.func43, Tryd.ntmps43
  go_wp2_with (first | (go_at_call 62; refine HS.out.mono ?_; rintro e W' ⟨rfl, hb⟩) | go_in)
  go_ret
  exact ⟨rfl, hb⟩

/-- the bits that a text spells -/
def textBits (s : ByteArray) : List Bool := s.data.toList.map (· == 49)
theorem textBits_len (s : ByteArray) : (textBits s).length = s.size := by simp [textBits]
theorem textBits_take (s : ByteArray) (i : Nat) (h : i < s.size) : (textBits s).take (i + 1) = (textBits s).take i ++ [s[i] == 49] := by
  rw [List.take_add_one, List.getElem?_eq_getElem (by rw [textBits_len]; exact h)]
  simp [textBits]
  rfl
def allB (s : ByteArray) : Bool := s.data.toList.all fun z => z == 48 || z == 49
theorem allB_iff (s : ByteArray) : allB s = true ↔ AllBits s := by
  unfold allB AllBits
  rw [List.all_eq_true]
  constructor
  · intro h i hi
    have := h s[i] (by rw [Array.mem_toList_iff]; exact Array.getElem_mem _)
    simpa using this
  · intro h z hz
    rw [Array.mem_toList_iff] at hz
    obtain ⟨i, hi, rfl⟩ := Array.mem_iff_getElem.1 hz
    have hb : s.data[i] = 48 ∨ s.data[i] = 49 := h i hi
    simpa using hb
def codeE (L : List Bool) (s : ByteArray) : Int := if allB s then (if 16777216 - (L.length : Int) < s.size then 4 else 0) else 14
def codeL (L : List Bool) (s : ByteArray) : List Bool := if codeE L s = 0 then L ++ textBits s else L

theorem IsPen.iter {w : World} {b k pos : Nat} {g : Option Nat} {L : List Bool} {s : ByteArray} (h : IsPen w b g L) (hk : w.heap[k]? = some (.stringIter s pos)) : k ≠ b ∧ g ≠ some k := by
  obtain ⟨v, zs, rfl, hb, hr, _⟩ := h
  refine ⟨fun e => by subst e; rw [hb] at hk; simp [penCells] at hk, fun e => ?_⟩
  rcases hr.2 with ⟨rfl, _⟩ | ⟨g', cap, cur, rfl, _, hg, _⟩
  · simp [Value.ownBlock] at e
  · simp [Value.ownBlock] at e
    subst e
    rw [hg] at hk
    simp at hk
theorem bar_iterAt (w : World) (k : Nat) (s : ByteArray) (pos : Nat) : Bar (fun j => j = k) w (w.iterAt k s pos) :=
  ⟨rfl, rfl, rfl, by rw [Lib.iterAt_size]; exact Nat.le_refl _, fun j _ hn => Lib.iterAt_other w k j s pos hn⟩

set_option maxRecDepth 100000 in
set_option maxHeartbeats 1000000 in
theorem code_form {w : World} {b : Nat} {g : Option Nat} {L : List Bool} (h : IsPen w b g L) (s : ByteArray) (hs : ¬ AllBits s) :
    Calls Tryd.prog 26 #[.pointer (some ⟨b, 0, none⟩), .string s] w fun e w' => e = .returned (.int .i64 14) ∧ Below w.heap.size w w' := by
  have HM := Lib.hid (made_any h)
  have HC := Lib.hid (contains_some s w hs)
  clear h hs
  go_enter Tryd.func26, Tryd.ntmps26
  go_wp2_with (first | (go_at_call 40; refine HM.out.mono ?_; rintro e w' ⟨rfl, rfl⟩) | (go_at_call 43; refine HC.out.mono ?_; rintro e W' ⟨rfl, hb⟩))
  go_ret
  exact ⟨rfl, hb⟩

set_option maxRecDepth 100000 in
set_option maxHeartbeats 1000000 in
theorem code_long {w : World} {b : Nat} {g : Option Nat} {L : List Bool} (h : IsPen w b g L) (s : ByteArray) (hs : AllBits s) (hl : 16777216 - (L.length : Int) < s.size) (hs2 : s.size ≤ 9223372036854775807) :
    Calls Tryd.prog 26 #[.pointer (some ⟨b, 0, none⟩), .string s] w fun e w' => e = .returned (.int .i64 4) ∧ Below w.heap.size w w' := by
  have HM := Lib.hid (made_any h)
  have HC := Lib.hid (contains_none s w hs)
  have HR := Lib.hid (fun W (hb : Below w.heap.size w W) => room_any (h.bar (bar_of_below (S := fun _ => False) hb) (fun e => e) (fun _ _ e => e)))
  clear h hs
  go_enter Tryd.func26, Tryd.ntmps26
  go_wp2_with (first | (go_at_call 40; refine HM.out.mono ?_; rintro e w' ⟨rfl, rfl⟩) | (go_at_call 43; refine HC.out.mono ?_; rintro e W' ⟨rfl, hb⟩) | (go_at_call 41; refine (HR.out _ (by assumption)).mono ?_; rintro e w' ⟨rfl, rfl⟩))
  go_ret
  exact ⟨rfl, by assumption⟩

set_option maxRecDepth 100000 in
set_option maxHeartbeats 1000000 in
theorem code_ok {w : World} {b : Nat} {g : Option Nat} {L : List Bool} (h : IsPen w b g L) (s : ByteArray) (hs : AllBits s) (hl : L.length + s.size ≤ 16777216) :
    Calls Tryd.prog 26 #[.pointer (some ⟨b, 0, none⟩), .string s] w fun e w' => e = .returned (.int .i64 0) ∧ Wrote w w' b g (L ++ textBits s) := by
  have HM := Lib.hid (made_any h)
  have HC := Lib.hid (contains_none s w hs)
  have HP := Lib.hid (fun W (hb : Below w.heap.size w W) => (h.bar (bar_of_below (S := fun _ => False) hb) (fun e => e) (fun _ _ e => e)))
  have HS := Lib.hid hs
  have t4 : decide (16777216 - (L.length : Int) < s.size) = false := by simp; omega
  clear h hs
  go_enter Tryd.func26, Tryd.ntmps26
  go_wp2_with (first | (go_at_call 40; refine HM.out.mono ?_; rintro e w' ⟨rfl, rfl⟩) | (go_at_call 43; refine HC.out.mono ?_; rintro e W' ⟨rfl, hb⟩) | (go_at_call 41; refine (room_any (HP.out _ (by assumption))).mono ?_; rintro e w' ⟨rfl, rfl⟩))
  have hp0 := HP.out W' hb
  have hw := hb.size
  have hpi := hp0.bar (bar_of_below (S := fun _ => False) ((Below.refl _ W').alloc (Nat.le_refl _) (.stringIter s 0))) (fun e => e) (fun _ _ e => e)
  have HI := Lib.hid hpi
  have HW := Lib.hid (bar_of_below (S := fun k => k = b ∨ g = some k) ((hb.trans (((Below.refl _ W').alloc (Nat.le_refl _) (.stringIter s 0)).mono hw))))
  clear hp0 hpi HP HM HC t4
  go_loopg [] s.size (fun gf wx => ∃ (pos : Nat) (g' : Option Nat), wx.heap[W'.heap.size]? = some (.stringIter s pos) ∧ IsPen wx b g' (L ++ (textBits s).take pos) ∧ Bar (fun k => k = b ∨ g = some k) w wx ∧ (∀ k, g' = some k → g = some k ∨ w.heap.size ≤ k) ∧ pos + gf = s.size)
  case atStart => exact ⟨0, g, World.iter_heap W' s 0, by simpa [World.iter] using HI.out, HW.out, fun k e => .inl e, by omega⟩
  case round =>
    obtain ⟨pos, g', hit, hp, hbar, hg', hfu⟩ := hrel
    by_cases hps : pos < s.size
    · obtain ⟨gj, rfl⟩ : ∃ gj, gk = gj + 1 := ⟨gk - 1, by omega⟩
      have hnx : ∀ ty, (Instr.next (.pointer (some ⟨W'.heap.size, 0, none⟩)) true ty).run Tryd.prog wr = _ := fun ty => Lib.run_next_any_at wr W'.heap.size s pos ty hit hps
      have hd := (rune_at s pos hps).2 (HS.out pos hps)
      rw [hd] at hnx
      simp only at hnx
      have hit2 := Lib.iterAt_heap wr W'.heap.size s pos (pos + 1) hit
      have hne := hp.iter hit
      have hp2 := hp.bar (bar_iterAt wr W'.heap.size s (pos + 1)) (fun e => hne.1 e.symm) (fun k e e2 => hne.2 (by rw [e, e2]))
      have hbar2 := hbar.trans (bar_iterAt wr W'.heap.size s (pos + 1)) (fun j hj e => by omega)
      obtain ⟨W, hWd⟩ : ∃ W, wr.iterAt W'.heap.size s (pos + 1) = W := ⟨_, rfl⟩
      rw [hWd] at hnx hit2 hp2 hbar2
      have hr48 : 48 ≤ s[pos].toNat ∧ s[pos].toNat ≤ 49 := by rcases HS.out pos hps with e | e <;> rw [e] <;> decide
      have hy : ((s[pos].toNat : Int) - 48) = ((s[pos] == 49).toNat : Int) := by rcases HS.out pos hps with e | e <;> rw [e] <;> rfl
      have ht := textBits_take s pos hps
      generalize s[pos] = z at *
      generalize hR : z.toNat = R at *
      have hle : ((textBits s).take pos).length ≤ pos := List.length_take_le _ _
      have HY := Lib.hid hy
      have HT := Lib.hid ht
      have HPp := Lib.hid hp2
      have HBb := Lib.hid hbar2
      have HG := Lib.hid hg'
      have HFU := Lib.hid hfu
      have HIT := Lib.hid hit2
      have HNE := Lib.hid hne
      clear hy ht hp hp2 hbar hbar2 hg' hfu hit hit2 hd hWd hR HI HW hne
      go_wp2_with fail
      refine (push_at _ _ HY.out HPp.out (by simp at hle ⊢; omega)).mono ?_
      rintro e w2 ⟨rfl, hw2⟩
      have HW2 := Lib.hid hw2
      clear hw2
      go_wp2
      go_roundg gj
      case measure => omega
      case rel =>
        obtain ⟨g2, hq, hqb, hqg⟩ := Wrote.trans HBb.out HG.out HW2.out
        obtain ⟨g3, hq', hqb', _⟩ := HW2.out
        have hlt : W'.heap.size < W.heap.size := (Array.getElem?_eq_some_iff.1 HIT.out).1
        exact ⟨pos + 1, g2, (hqb'.block _ hlt (fun e => e.elim HNE.out.1 HNE.out.2)).trans HIT.out, by rw [HT.out, ← List.append_assoc]; exact hq, hqb, hqg, by have := HFU.out; omega⟩
    · have hnx := fun ty => Lib.run_next_end_at (P := Tryd.prog) wr W'.heap.size s pos ty hit hps
      rw [List.take_of_length_le (by rw [textBits_len]; omega)] at hp
      have HWr : Hid (Wrote w wr b g (L ++ textBits s)) := ⟨g', hp, hbar, hg'⟩
      clear hp hbar hg' hfu HI HW
      go_wp2
      go_ret
      exact ⟨rfl, HWr.out⟩

theorem wrote_below {w w' : World} {b : Nat} {g : Option Nat} {L : List Bool} (h : IsPen w b g L) (hb : Below w.heap.size w w') : Wrote w w' b g L :=
  ⟨g, h.bar (bar_of_below (S := fun _ => False) hb) (fun e => e) (fun _ _ e => e), bar_of_below hb, fun k e => .inl e⟩

theorem penCode_any {w : World} {b : Nat} {g : Option Nat} {L : List Bool} (h : IsPen w b g L) (s : ByteArray) (hs2 : s.size ≤ 9223372036854775807) :
    Calls Tryd.prog 26 #[.pointer (some ⟨b, 0, none⟩), .string s] w fun e w' => e = .returned (.int .i64 (codeE L s)) ∧ Wrote w w' b g (codeL L s) := by
  by_cases hs : AllBits s
  · by_cases hl : 16777216 - (L.length : Int) < s.size
    · have e : codeE L s = 4 := by unfold codeE; rw [if_pos ((allB_iff s).2 hs), if_pos hl]
      refine (code_long h s hs hl hs2).mono ?_
      rintro _ w' ⟨rfl, hb⟩
      refine ⟨by rw [e], ?_⟩
      unfold codeL; rw [e, if_neg (by omega)]; exact wrote_below h hb
    · have e : codeE L s = 0 := by unfold codeE; rw [if_pos ((allB_iff s).2 hs), if_neg hl]
      refine (code_ok h s hs (by omega)).mono ?_
      rintro _ w' ⟨rfl, hw⟩
      refine ⟨by rw [e], ?_⟩
      unfold codeL; rw [e, if_pos rfl]; exact hw
  · have e : codeE L s = 14 := by unfold codeE; rw [if_neg (fun e => hs ((allB_iff s).1 e))]
    refine (code_form h s hs).mono ?_
    rintro _ w' ⟨rfl, hb⟩
    refine ⟨by rw [e], ?_⟩
    unfold codeL; rw [e, if_neg (by omega)]; exact wrote_below h hb

end Go.Proofs.YtlcaboddkcpgaaaDoor

/- Contracts of slices.Clone at bytes, of (*bits.Pen).Bytes, of the kit's SameBytes and OverBytes. -/
namespace Go.Proofs.YtlcaboddkcpgaaaDoor
open Go.RowKit Go.Shelf
set_option linter.unusedVariables false

theorem byt_own {w : World} {base n₀ : Nat} {v : Value} {zs : List UInt8} (h : w.ownsRow base 5 1 v zs.length (u8s zs)) (hl : zs.length ≤ 1152921504606846975) (hn : w.heap.size ≤ n₀) : Byt n₀ w v zs := by
  rcases id h.2 with ⟨rfl, hz⟩ | ⟨g, cap, cur, rfl, _, hg, _⟩
  · have : zs = [] := List.eq_nil_of_length_eq_zero hz
    subst this
    exact ⟨none, 0, rfl, hl, .inl rfl⟩
  · refine ⟨_, cap, rfl, hl, .inr ⟨g, 0, rfl, Nat.lt_of_lt_of_le (Array.getElem?_eq_some_iff.1 hg).1 hn, fun j hj => ?_⟩⟩
    have := h.cellAt j (by omega)
    simp only [Nat.zero_add]
    rw [this]
    simp [hj]

theorem conv_byt {n₀ : Nat} {w : World} {sv : Value} {zs : List UInt8} (hB : Byt n₀ w sv zs) : (convert 22 9 sv).run Tryd.prog w = .ok (.string ⟨zs.toArray⟩) w := by
  obtain ⟨a, cap, rfl, hl, hz⟩ := hB
  rcases hz with rfl | ⟨b, off, rfl, _, hc⟩
  · cases a with
    | none => exact run_convert_bytes_nil w 22 5 Tryd.underlying22 Tryd.underlying5 0 cap 9 Tryd.underlying9
    | some x =>
      rw [run_convert_bytes_string w 22 9 5 _ _ _ Tryd.underlying22 Tryd.underlying5 Tryd.underlying9]
      have := run_bytesToString (P := Tryd.prog) w x 0 cap [] (by simp [loadCells, loadCellsFrom])
      simp only [List.foldl_nil] at this
      exact this
  · have h := run_convert_bytes_arg (P := Tryd.prog) w 22 5 Tryd.underlying22 Tryd.underlying5 b off zs.length cap (zs.map fun z => (z.toNat : Int)) (by simp)
      (fun i hi => by rw [hc i hi]; simp [hi]) 9 Tryd.underlying9
    rw [h]
    simp [strOfNums, Function.comp_def]

set_option maxHeartbeats 400000 in
theorem same_any {n₀ n₁ : Nat} {w : World} {u v : Value} {xs ys : List UInt8} (h1 : Byt n₀ w u xs) (h2 : Byt n₁ w v ys) :
    Calls Tryd.prog 39 #[u, v] w fun e w' => e = .returned (.bool (decide (xs = ys))) ∧ w = w' := by
  have c1 := conv_byt h1
  have c2 := conv_byt h2
  clear h1 h2
  go_enter Tryd.func39, Tryd.ntmps39
  go_wp2
  go_ret
  exact ⟨ret_bool (by by_cases h : xs = ys <;> simp [h]), rfl⟩

theorem clone_nil (w : World) : Calls Tryd.prog 45 #[.slice none 0 0] w fun e w' => e = .returned (.slice none 0 0) ∧ w = w' := by
  have he := fun (w : World) => Lib.run_eql_slice_nil (P := Tryd.prog) w 22 5 none 0 0 0 0 Tryd.underlying22
  go_enter Tryd.func45, Tryd.ntmps45
  go_wp2
  go_ret
  exact ⟨rfl, rfl⟩

def Cloned (w w' : World) (e : Ending) (zs : List UInt8) : Prop := ∃ v, e = .returned v ∧ w'.ownsRow w.heap.size 5 1 v zs.length (u8s zs) ∧ Below w.heap.size w w'

set_option maxHeartbeats 1000000 in
theorem clone_some {w : World} {b : Nat} {cap : Nat} {zs : List UInt8} (hr : w.ownsRow b 5 1 (.slice (some ⟨b, 0, none⟩) zs.length cap) zs.length (u8s zs)) (hl : zs.length ≤ 2097152) :
    Calls Tryd.prog 45 #[.slice (some ⟨b, 0, none⟩) zs.length cap] w fun e w' => Cloned w w' e zs := by
  have he := fun (w : World) => Lib.run_eql_slice_nil (P := Tryd.prog) w 22 5 (some ⟨b, 0, none⟩) zs.length cap 0 0 Tryd.underlying22
  obtain ⟨i0, hi, hz0, hz1, hz2⟩ := info_parts Tryd.info5
  go_enter Tryd.func45, Tryd.ntmps45
  go_wp2_with (at_builtin; refine wpList_append_where _ rfl _ _ 22 rfl w.heap.size 5 i0 (.int .u8 0) 1 1 Tryd.underlying22 hi hz0 hz1 hz2 rfl (by decide) (.slice (some ⟨w.heap.size, 0, none⟩) 0 0) 0 [] rfl (World.ownsRow_made w #[] 0 (Nat.le_refl _) (by unfold maxLen; omega) rfl) ⟨b, 0, none⟩ zs.length cap (u8s zs) rfl (by simp) ?c1 ?c2 ?c3 ?c4 ?c5 ?_)
  case c1 =>
    intro j u hu
    exact (hr.alloc _).cells rfl j u hu
  case c2 => intro u hu; simp at hu; obtain ⟨z, _, rfl⟩ := hu; rfl
  case c3 => unfold maxLen; omega
  case c4 => omega
  case c5 => simp
  intro v' w1 hown' hgrow hwh
  have hb : Below w.heap.size w w1 := ((Below.refl _ w).alloc (Nat.le_refl _) _).grown hgrow (by simp) (fun k e => by simp [Value.ownBlock] at e; omega)
  clear hr hwh hgrow
  go_wp2
  go_ret
  exact ⟨v', rfl, hown', hb⟩

set_option maxHeartbeats 1000000 in
theorem bytes_any {w : World} {b : Nat} {g : Option Nat} {L : List Bool} (h : IsPen w b g L) :
    Calls Tryd.prog 28 #[.pointer (some ⟨b, 0, none⟩)] w fun e w' => ∃ zs, Packed zs L ∧ Cloned w w' e zs := by
  have HM := Lib.hid (made_any h)
  obtain ⟨v, zs, rfl, hb, hr, hp, hl⟩ := h
  obtain ⟨c0, c1, c2, f0, f1, f2⟩ := pen_cells hb
  have hz := hp.1
  clear hb
  rcases id hr.2 with ⟨rfl, hn⟩ | ⟨g, cap, cur, rfl, _⟩
  · have : zs = [] := List.eq_nil_of_length_eq_zero hn
    subst this
    have HP : Hid (Packed [] L) := hp
    clear hp hz hr hn
    go_enter Tryd.func28, Tryd.ntmps28
    go_wp2_with (first | (go_at_call 40; refine HM.out.mono ?_; rintro e w' ⟨rfl, rfl⟩) | (go_at_call 45; refine (clone_nil _).mono ?_; rintro e w' ⟨rfl, rfl⟩))
    go_ret
    exact ⟨[], HP.out, .slice none 0 0, rfl, World.ownsRow_nil _ _ _ _, Below.refl _ _⟩
  · have hr' : w.ownsRow g 5 1 (.slice (some ⟨g, 0, none⟩) zs.length cap) zs.length (u8s zs) := by
      refine ⟨hr.1, ?_⟩
      rcases hr.2 with ⟨e, _⟩ | ⟨g', cap', cur', e, _, h⟩
      · simp at e
      · simp at e; obtain ⟨rfl, rfl⟩ := e; exact .inr ⟨g, cap, cur', rfl, Nat.le_refl _, h⟩
    have HC := Lib.hid (clone_some hr' (by omega))
    have HP : Hid (Packed zs L) := hp
    clear hp hz hr hr'
    go_enter Tryd.func28, Tryd.ntmps28
    go_wp2_with (first | (go_at_call 40; refine HM.out.mono ?_; rintro e w' ⟨rfl, rfl⟩) | (go_at_call 45; refine HC.out.mono ?_; rintro e w' ⟨v, rfl, hv⟩))
    go_ret
    exact ⟨zs, HP.out, _, rfl, hv⟩

theorem Wrote.below {w w' : World} {b B : Nat} {g : Option Nat} {L : List Bool} (h : Wrote w w' b g L) (hB : B ≤ w.heap.size) (hb : B ≤ b) (hg : ∀ k, g = some k → B ≤ k) : Below B w w' := by
  obtain ⟨_, _, hbar, _⟩ := h
  exact hbar.below hB fun k hk e => by rcases e with rfl | e
                                       · omega
                                       · have := hg k e; omega
theorem IsPen.later {w w' : World} {b : Nat} {g : Option Nat} {L : List Bool} (h : IsPen w b g L) (hb : Below w.heap.size w w') : IsPen w' b g L :=
  h.bar (bar_of_below (S := fun _ => False) hb) (fun e => e) (fun _ _ e => e)

end Go.Proofs.YtlcaboddkcpgaaaDoor
