/- Contracts of the methods of queue.sizes. Queues: what a queue in memory is; contracts of queue.New, made, known, Left, Free, Came, Gone, Ended, End, Skip. The builtin copy into a row that is known whole, and besides: nothing but that row is changed. The ring of a queue, in plain terms: what two copies lay into it. The contract of (*queue.Queue).Feed. The contract of the iterator of a queue's bytes ((*queue.Queue).fromFirst). The contract of (*queue.Queue).Bits. A slice of bytes that came in, as the contracts take it. Contracts of the law's own small functions (feeds, has, three, awake) and of the law QueueKnown. The contract of the law QueueNew: it returns true, and nothing that lay is changed. Acts of a queue as the laws take them: how they lie in memory; the contract of Long. Append of bytes, from whatever slice of bytes (nil and empty ones too), to a row that the call owns: what comes out, and where it lies. The contract of the law QueueRead: it returns true, and nothing that lay is changed. The reference's queue (praxinoscoperef02.Queue): what it holds; contracts of its New, Free, Left, Skip, End. The reference's queue, more: contracts of its Feed and Bits. -/
import Derived.Test.YtlcaboddkcpgaaaDoorPen
import Derived.Deep.RegionHeld3
import Derived.Laws.CopyOwn
import Derived.Deep.RegionLaw
import Derived.Maps.AppendAt
import Derived.Test.YtlcaboddkcpgaaaDoorRead
import Derived.OpenShut
import Derived.Deep.Slices
import Derived.Deep.Fields
import Derived.ChangeSame
import Derived.Lib.SmallJoins
import Derived.Laws.OwnMore
/- Contracts of the methods of queue.sizes. Queues: what a queue in memory is; contracts of queue.New, made, known, Left, Free, Came, Gone, Ended, End, Skip. The builtin copy into a row that is known whole, and besides: nothing but that row is changed. The ring of a queue, in plain terms: what two copies lay into it. The contract of (*queue.Queue).Feed. The contract of the iterator of a queue's bytes ((*queue.Queue).fromFirst). The contract of (*queue.Queue).Bits. -/
/- Contracts of the methods of queue.sizes. -/
namespace Go.Proofs.YtlcaboddkcpgaaaDoor
open Go.RowKit Go.Shelf
set_option linter.unusedVariables false

abbrev szV (m c g : Int) : Value := .agg #[.int .i64 m, .int .i64 c, .int .i64 g]

theorem below_undrew {n : Nat} {a b : World} (h : Below n a.drew b) : Below n a b := ⟨h.os, h.tape, h.output, h.size, h.block⟩
theorem below_boxed {w w' : World} {o : Obj} (h : Below (w.alloc o).drew.heap.size (w.alloc o).drew w') : Below w.heap.size w w' :=
  below_chain ((Below.refl _ _).alloc (Nat.le_refl _) o) (Nat.le_refl _) (below_undrew h)

end Go.Proofs.YtlcaboddkcpgaaaDoor

/- Queues: what a queue in memory is; contracts of queue.New, made, known, Left, Free, Came, Gone, Ended, End, Skip. -/
namespace Go.Proofs.YtlcaboddkcpgaaaDoor
open Go.RowKit Go.Shelf
set_option linter.unusedVariables false

/-- a queue: its room, all bytes that ever came, how many bits were read, whether it is ended -/
structure Qs where
  most : Nat
  all : List UInt8
  gone : Nat
  ended : Bool
structure Qs.ok (q : Qs) : Prop where
  m1 : 1 ≤ q.most
  m2 : q.most ≤ 1048576
  len : q.all.length ≤ 1099511627776
  gone : q.gone ≤ 8 * q.all.length
  held : q.all.length - q.gone / 8 ≤ q.most
/-- the ring holds what is there, each byte at its place, counted round -/
def Ringed (ring : List UInt8) (q : Qs) : Prop := ring.length = q.most ∧ ∀ j, q.gone / 8 ≤ j → j < q.all.length → ring.getD (j % q.most) 0 = q.all.getD j 0
def newQ (m : Nat) : Qs := ⟨m, [], 0, false⟩

theorem row_block {w : World} {base g n : Nat} {e : TypeId} {xs : List Value} (h : w.ownsRow base e 1 (.slice (some ⟨g, 0, none⟩) n n) n xs) : w.heap[g]? = some (.cells xs.toArray e (0, 0)) := by
  rcases h.2 with ⟨h0, _⟩ | ⟨g', cap, cur, e1, _, hg, _, _, hs, ht⟩
  · simp at h0
  · simp at e1
    obtain ⟨rfl, rfl⟩ := e1
    rw [List.take_of_length_le (by simp; omega)] at ht
    rw [hg, ← ht]
theorem made_u8 (m : Nat) : (madeCells #[Value.int .u8 0] m).toList = u8s (List.replicate m 0) := by
  rw [toList_madeCells_one]; simp [u8s]
theorem newQ_ok {m : Nat} (h1 : 1 ≤ m) (h2 : m ≤ 1048576) : (newQ m).ok := ⟨h1, h2, by simp [newQ], by simp [newQ], by simp [newQ]⟩
theorem newQ_ring (m : Nat) : Ringed (List.replicate m 0) (newQ m) := ⟨by simp [newQ], fun j _ h => by simp [newQ] at h⟩

/-! ### what turns a queue -/
def endE (q : Qs) : Int := if q.ended then 20 else 0
def skipE (q : Qs) (n : Int) : Int := if n < 0 ∨ ((8 * q.all.length - q.gone : Nat) : Int) < n then 3 else 0
def skipQ (q : Qs) (n : Int) : Qs := if n < 0 ∨ ((8 * q.all.length - q.gone : Nat) : Int) < n then q else { q with gone := q.gone + n.toNat }
end Go.Proofs.YtlcaboddkcpgaaaDoor

/- The builtin copy into a row that is known whole, and besides: nothing but that row is changed. -/
namespace Go.Proofs.YtlcaboddkcpgaaaDoor
open Go.RowKit Go.Shelf
set_option linter.unusedVariables false

theorem bar_setRow (w : World) (g : Nat) (cs : Array Value) : Bar (fun k => k = g) w (w.setRow g cs) :=
  ⟨rfl, rfl, rfl, by simp [World.setRow], fun k hk hn => setRow_other w g k cs hn⟩

/-- what a copy leaves -/
def CopiedTo (w w' : World) (g : Nat) (t : TypeId) (L : List Value) : Prop := w'.heap[g]? = some (.cells L.toArray t (0, 0)) ∧ Bar (fun k => k = g) w w'

theorem run_copy_bar {P : Program} {w : World} (dT sT ty elem : TypeId) (hu : P.underlying dT = some (.slice elem)) (hsz : (P.info? elem).map (·.size) = some 1)
    (dp sp : Option Addr) (dLen dCap sLen sCap : Nat) (g off : Nat) (cur : List Value) (t : TypeId) (hg : w.heap[g]? = some (.cells cur.toArray t (0, 0))) (cs : List Value) (hn : cs.length = Nat.min sLen dLen)
    (hpos : 0 < cs.length → dp = some ⟨g, off, none⟩ ∧ ∃ ad, sp = some ad ∧ ∀ j v, cs[j]? = some v → w.cell? (ad.add j) = some v)
    (hfit : off + cs.length ≤ cur.length) (h1 : ∀ v ∈ cs, v.oneCell' = true) :
    ∃ w', (Builtin.copy_ #[dT, sT] ty #[.slice dp dLen dCap, .slice sp sLen sCap]).run P w = .ok (goInt cs.length) w' ∧ CopiedTo w w' g t (splice cur off cs) := by
  by_cases h0 : cs.length = 0
  · obtain rfl : cs = [] := List.eq_nil_of_length_eq_zero h0
    exact ⟨w, run_copy_none (P := P) w dT sT ty elem dp sp dLen dCap sLen sCap hu hsz (by simpa using hn.symm), by simpa [splice] using hg, Bar.refl _ _⟩
  · obtain ⟨rfl, ad, rfl, hsrc⟩ := hpos (by omega)
    refine ⟨_, run_copy_row (P := P) w dT sT ty elem g off dLen dCap ad sLen sCap cur.toArray t cs hu hsz hg hn hsrc (by simpa using hfit) h1, ?_, bar_setRow w g _⟩
    simpa [splice] using setRow_heap w g _ _ t _ hg

theorem step_copy_bar {P : Program} {ops : Array Oper} {o : Oper} {a : Act} {w : World} {K : Act → World → Prop} {Q : Exit → Act → World → Prop} {E : Prop} (hgd : o.guard = none) (d s : Operand) (dT sT : TypeId)
    (ho : o.op = .call { callee := .builtin .copy, args := #[d, s], argTypes := #[dT, sT] }) (elem : TypeId) (hu : P.underlying dT = some (.slice elem)) (hsz : (P.info? elem).map (·.size) = some 1)
    (dp sp : Option Addr) (dLen dCap sLen sCap : Nat) (hd : a.eval d = .slice dp dLen dCap) (hs : a.eval s = .slice sp sLen sCap)
    (g off : Nat) (cur : List Value) (t : TypeId) (hg : w.heap[g]? = some (.cells cur.toArray t (0, 0))) (cs : List Value) (hn : cs.length = Nat.min sLen dLen)
    (hpos : 0 < cs.length → dp = some ⟨g, off, none⟩ ∧ ∃ ad, sp = some ad ∧ ∀ j v, cs[j]? = some v → w.cell? (ad.add j) = some v)
    (hfit : off + cs.length ≤ cur.length) (h1 : ∀ v ∈ cs, v.oneCell' = true)
    (h : ∀ w', Hid (CopiedTo w w' g t (splice cur off cs)) → K (a.put o.dst (goInt cs.length)) w') :
    if Region.wanted o (yielded ops a.tmps) = true then Oper.wp P o a w K Q else E := by
  have hw : Region.wanted o (yielded ops a.tmps) = true := by simp [Region.wanted, hgd]
  rw [if_pos hw]
  obtain ⟨w', hrun, hc⟩ := run_copy_bar (P := P) (w := w) dT sT o.type elem hu hsz dp sp dLen dCap sLen sCap g off cur t hg cs hn hpos hfit h1
  unfold Oper.wp
  simp [execOp, ho, resolve, invoke, builtin, hd, hs, hrun, Result.andThen]
  exact h _ hc

theorem wpList_copy_bar {P : Program} {w : World} {ops : Array Oper} {rest : List Oper} {o : Oper} {a : Act} {Q : Exit → Act → World → Prop} (hgd : o.guard = none) (d s : Operand) (dT sT : TypeId)
    (ho : o.op = .call { callee := .builtin .copy, args := #[d, s], argTypes := #[dT, sT] }) (elem : TypeId) (hu : P.underlying dT = some (.slice elem)) (hsz : (P.info? elem).map (·.size) = some 1)
    (dp sp : Option Addr) (dLen dCap sLen sCap : Nat) (hd : a.eval d = .slice dp dLen dCap) (hs : a.eval s = .slice sp sLen sCap)
    (g off : Nat) (cur : List Value) (t : TypeId) (hg : w.heap[g]? = some (.cells cur.toArray t (0, 0))) (cs : List Value) (hn : cs.length = Nat.min sLen dLen)
    (hpos : 0 < cs.length → dp = some ⟨g, off, none⟩ ∧ ∃ ad, sp = some ad ∧ ∀ j v, cs[j]? = some v → w.cell? (ad.add j) = some v)
    (hfit : off + cs.length ≤ cur.length) (h1 : ∀ v ∈ cs, v.oneCell' = true)
    (h : ∀ w', Hid (CopiedTo w w' g t (splice cur off cs)) → wpList P ops Q rest (a.put o.dst (goInt cs.length)) w') :
    wpList P ops Q (o :: rest) a w := by
  refine wpList_plain hgd fun K hK => ?_
  obtain ⟨w', hrun, hc⟩ := run_copy_bar (P := P) (w := w) dT sT o.type elem hu hsz dp sp dLen dCap sLen sCap g off cur t hg cs hn hpos hfit h1
  unfold Oper.wp
  simp [execOp, ho, resolve, invoke, builtin, hd, hs, hrun, Result.andThen]
  exact hK _ _ (h _ hc)

end Go.Proofs.YtlcaboddkcpgaaaDoor

/- The ring of a queue, in plain terms: what two copies lay into it. -/
namespace Go.Proofs.YtlcaboddkcpgaaaDoor
open Go.RowKit Go.Shelf
set_option linter.unusedVariables false

theorem splice_getD {α : Type} (L : List α) (off : Nat) (cs : List α) (d : α) (h : off + cs.length ≤ L.length) (p : Nat) :
    (splice L off cs).getD p d = if off ≤ p ∧ p < off + cs.length then cs.getD (p - off) d else L.getD p d := by
  unfold splice
  simp only [List.getD_eq_getElem?_getD]
  congr 1
  by_cases h1 : p < off
  · rw [if_neg (by omega), List.getElem?_append_left (by simp; omega), List.getElem?_take, if_pos h1]
  · rw [List.getElem?_append_right (by simp; omega), List.length_take, Nat.min_eq_left (by omega)]
    by_cases h2 : p < off + cs.length
    · rw [if_pos ⟨by omega, h2⟩, List.getElem?_append_left (by omega)]
    · rw [if_neg (by omega), List.getElem?_append_right (by omega), List.getElem?_drop, show off + cs.length + (p - off - cs.length) = p by omega]

theorem mod_at (m Q d : Nat) (h : d < m) : (m * Q + d) % m = d := by
  rw [Nat.mul_add_mod, Nat.mod_eq_of_lt h]

/-- the ring behind bytes were fed -/
def fedRing (ring : List UInt8) (off k : Nat) (ys : List UInt8) : List UInt8 := splice (splice ring off (ys.take k)) 0 (ys.drop k)
theorem ringed_feed {ring : List UInt8} {q : Qs} (ho : q.ok) (hr : Ringed ring q) (ys : List UInt8) (hn : ys.length ≤ q.most - (q.all.length - q.gone / 8)) :
    Ringed (fedRing ring (q.all.length % q.most) (min ys.length (q.most - q.all.length % q.most)) ys) { q with all := q.all ++ ys } := by
  obtain ⟨hl, hv⟩ := hr
  have h1 := ho.m1
  have h2 := ho.gone
  have h3 := ho.held
  have hm : q.all.length % q.most < q.most := Nat.mod_lt _ (by omega)
  have hdm := Nat.div_add_mod q.all.length q.most
  generalize hoff : q.all.length % q.most = off at *
  generalize q.all.length / q.most = Q at *
  generalize hk : min ys.length (q.most - off) = k at *
  have e1 : (ys.take k).length = k := by simp; omega
  have e2 : (ys.drop k).length = ys.length - k := by simp
  have f1 : off + (ys.take k).length ≤ ring.length := by omega
  have f2 : 0 + (ys.drop k).length ≤ (splice ring off (ys.take k)).length := by rw [length_splice _ _ _ f1]; omega
  refine ⟨?_, fun j hj1 hj2 => ?_⟩
  · unfold fedRing
    rw [length_splice _ _ _ f2, length_splice _ _ _ f1, hl]
  · simp only at hj1
    simp only [List.length_append] at hj2 ⊢
    unfold fedRing
    rw [splice_getD _ _ _ _ f2, splice_getD _ _ _ _ f1, e1, e2]
    simp only [Nat.zero_le, true_and, Nat.zero_add, Nat.sub_zero]
    by_cases hj : j < q.all.length
    · -- an old byte
      rw [show (q.all ++ ys).getD j 0 = q.all.getD j 0 by simp [List.getD_eq_getElem?_getD, List.getElem?_append_left hj], ← hv j hj1 hj]
      by_cases hb : q.most * Q ≤ j
      · obtain ⟨d, rfl⟩ := Nat.exists_eq_add_of_le hb
        rw [mod_at _ _ _ (by omega), if_neg (by omega), if_neg (by omega)]
      · obtain ⟨Q', rfl⟩ : ∃ Q', Q = Q' + 1 := ⟨Q - 1, by
          have : Q ≠ 0 := fun e => by rw [e] at hb; simp at hb
          omega⟩
        rw [Nat.mul_add, Nat.mul_one] at *
        obtain ⟨d, rfl⟩ := Nat.exists_eq_add_of_le (show q.most * Q' ≤ j by omega)
        rw [mod_at _ _ _ (by omega), if_neg (by omega), if_neg (by omega)]
    · -- a new one
      obtain ⟨i, rfl⟩ := Nat.exists_eq_add_of_le (show q.all.length ≤ j by omega)
      rw [show (q.all ++ ys).getD (q.all.length + i) 0 = ys.getD i 0 by
        simp only [List.getD_eq_getElem?_getD]
        rw [List.getElem?_append_right (by omega), Nat.add_sub_cancel_left]]
      by_cases hb : off + i < q.most
      · rw [show q.all.length + i = q.most * Q + (off + i) by omega, mod_at _ _ _ hb, if_neg (by omega), if_pos (by omega)]
        rw [Nat.add_sub_cancel_left]
        simp only [List.getD_eq_getElem?_getD, List.getElem?_take]
        rw [if_pos (by omega)]
      · rw [show q.all.length + i = q.most * (Q + 1) + (off + i - q.most) by rw [Nat.mul_add, Nat.mul_one]; omega, mod_at _ _ _ (by omega), if_pos (by omega)]
        simp only [List.getD_eq_getElem?_getD, List.getElem?_drop]
        congr 2
        omega

theorem u8s_splice (L : List UInt8) (off : Nat) (cs : List UInt8) : splice (u8s L) off (u8s cs) = u8s (splice L off cs) := by
  simp [splice, u8s, List.map_take, List.map_drop]

/-- what Bits tells of the ring -/
theorem ring_runs {ring : List UInt8} {q : Qs} (ho : q.ok) (hr : Ringed ring q) :
    (ring.take (min (q.gone / 8 % q.most + (q.all.length - q.gone / 8)) q.most)).drop (q.gone / 8 % q.most) ++ ring.take ((q.gone / 8 % q.most + (q.all.length - q.gone / 8)) - q.most) = q.all.drop (q.gone / 8) := by
  obtain ⟨hl, hv⟩ := hr
  have h1 := ho.m1
  have h2 := ho.gone
  have h3 := ho.held
  have hm : q.gone / 8 % q.most < q.most := Nat.mod_lt _ (by omega)
  have hdm := Nat.div_add_mod (q.gone / 8) q.most
  generalize hf : q.gone / 8 % q.most = f at *
  generalize q.gone / 8 / q.most = Q at *
  apply List.ext_getElem
  · simp; omega
  · intro i i1 i2
    simp at i2
    have hx := hv (q.gone / 8 + i) (by omega) (by omega)
    rw [List.getD_eq_getElem?_getD, List.getD_eq_getElem?_getD, List.getElem?_eq_getElem (l := q.all) (by omega)] at hx
    rw [List.getElem_drop]
    simp only [Option.getD_some] at hx
    rw [← hx]
    by_cases hb : f + i < q.most
    · rw [List.getElem_append_left (by simp; omega), List.getElem_drop, List.getElem_take]
      rw [show q.gone / 8 + i = q.most * Q + (f + i) by omega, mod_at _ _ _ hb, List.getElem?_eq_getElem (by omega)]
      rfl
    · rw [List.getElem_append_right (by simp; omega), List.getElem_take]
      rw [show q.gone / 8 + i = q.most * (Q + 1) + (f + i - q.most) by rw [Nat.mul_add, Nat.mul_one]; omega, mod_at _ _ _ (by omega), List.getElem?_eq_getElem (by omega)]
      simp only [Option.getD_some]
      congr 1
      simp
      omega

end Go.Proofs.YtlcaboddkcpgaaaDoor

/- The contract of (*queue.Queue).Feed. -/
namespace Go.Proofs.YtlcaboddkcpgaaaDoor
open Go.RowKit Go.Shelf
set_option linter.unusedVariables false

/-- the slice value sv holds the bytes zs, and not in block g -/
def BytA (w : World) (g : Nat) (sv : Value) (zs : List UInt8) : Prop :=
  ∃ a cap, sv = .slice a zs.length cap ∧ zs.length ≤ cap ∧ cap ≤ 9223372036854775807 ∧
    (cap = 0 ∨ ∃ b off, a = some ⟨b, off, none⟩ ∧ (zs ≠ [] → b ≠ g ∧ b < w.heap.size) ∧ ∀ j, j < zs.length → w.cell? ⟨b, off + j, none⟩ = some (.int .u8 ((zs[j]?.getD 0).toNat)))

theorem keep4 {w w' : World} {b g m c n : Nat} (h : w'.heap[b]? = w.heap[b]?)
    (hS : w.cell? ⟨b, 4, none⟩ = some (Value.slice (some ⟨g, 0, none⟩) m m) ∧ w.cell? ⟨b, 1, none⟩ = some (.int .i64 m) ∧ w.cell? ⟨b, 2, none⟩ = some (.int .i64 c) ∧ w.cell? ⟨b, 3, none⟩ = some (.int .i64 n)) :
    w'.cell? ⟨b, 4, none⟩ = some (Value.slice (some ⟨g, 0, none⟩) m m) ∧ w'.cell? ⟨b, 1, none⟩ = some (.int .i64 m) ∧ w'.cell? ⟨b, 2, none⟩ = some (.int .i64 c) ∧ w'.cell? ⟨b, 3, none⟩ = some (.int .i64 n) := by
  simp only [World.cell?, h] at hS ⊢
  exact hS
theorem src_cells {w w' : World} {bb off m k : Nat} {ys : List UInt8} (hc : ∀ j, j < ys.length → w.cell? ⟨bb, off + j, none⟩ = some (.int .u8 ((ys[j]?.getD 0).toNat))) (hk : ys ≠ [] → w'.heap[bb]? = w.heap[bb]?) :
    ∀ j v, (u8s ((ys.drop m).take k))[j]? = some v → w'.cell? ((⟨bb, off + m, none⟩ : Addr).add j) = some v := by
  intro j v hv
  have hadd : (⟨bb, off + m, none⟩ : Addr).add j = ⟨bb, off + (m + j), none⟩ := by unfold Addr.add; split <;> simp_all [Nat.add_assoc]
  simp only [u8s, List.getElem?_map, List.getElem?_take, List.getElem?_drop] at hv
  by_cases hj : j < k
  · rw [if_pos hj] at hv
    by_cases hl : m + j < ys.length
    · rw [List.getElem?_eq_getElem hl] at hv
      simp at hv
      rw [hadd, World.cell?_of_block (hk (fun e => by rw [e] at hl; simp at hl)), hc _ hl, List.getElem?_eq_getElem hl]
      simp [hv]
    · rw [List.getElem?_eq_none (by omega)] at hv; simp at hv
  · rw [if_neg hj] at hv; simp at hv

theorem info1_byte : (Tryd.prog.info? 5).map (·.size) = some 1 := by kernel_rfl
theorem u8s_one {zs : List UInt8} : ∀ v ∈ u8s zs, v.oneCell' = true := by
  intro u hu; simp at hu; obtain ⟨z, _, rfl⟩ := hu; rfl

/-- what Feed takes -/
def fedL (q : Qs) (zs : List UInt8) : List UInt8 := if q.ended then [] else zs.take (q.most - (q.all.length - q.gone / 8))
def feedQ (q : Qs) (zs : List UInt8) : Qs := { q with all := q.all ++ fedL q zs }
def feedE (q : Qs) : Int := if q.ended then 20 else 0
end Go.Proofs.YtlcaboddkcpgaaaDoor

/- The contract of the iterator of a queue's bytes ((*queue.Queue).fromFirst). -/
namespace Go.Proofs.YtlcaboddkcpgaaaDoor
open Go.RowKit Go.Shelf
set_option linter.unusedVariables false
attribute [local go_sem] Oper.semAt_some

/-- what the closure of fromFirst hands to a round -/
abbrev encU (z : UInt8) : Array Value := #[.int .u8 z.toNat]

/-- the facts that the iterator's regions read -/
abbrev QS (w' : World) (bx b g m c n : Nat) : Prop := w'.cell? ⟨bx, 0, none⟩ = some (Value.pointer (some ⟨b, 0, none⟩)) ∧ w'.cell? ⟨b, 1, none⟩ = some (.int .i64 m) ∧ w'.cell? ⟨b, 2, none⟩ = some (.int .i64 c) ∧ w'.cell? ⟨b, 3, none⟩ = some (.int .i64 n) ∧ w'.cell? ⟨b, 4, none⟩ = some (Value.slice (some ⟨g, 0, none⟩) m m)
theorem keepS {w w' : World} {bx b g m c n : Nat} (h : w'.heap[b]? = w.heap[b]?) (h2 : w'.heap[bx]? = w.heap[bx]?) (hS : QS w bx b g m c n) : QS w' bx b g m c n := by
  simp only [QS, World.cell?, h, h2] at hS ⊢
  exact hS

/-- what was handed out ahead of the outer round number k -/
def preK (ring : List UInt8) (f X Y k : Nat) : List UInt8 := if k = 0 then [] else if k = 1 then (ring.take X).drop f else (ring.take X).drop f ++ ring.take Y
end Go.Proofs.YtlcaboddkcpgaaaDoor

/- The contract of (*queue.Queue).Bits. -/
namespace Go.Proofs.YtlcaboddkcpgaaaDoor
open Go.RowKit Go.Shelf
set_option linter.unusedVariables false
attribute [local go_sem] Oper.semAt_some

/-- what Bits leaves: new memory with the bytes -/
def Told (w w' : World) (e : Ending) (zs : List UInt8) (at_ : Nat) : Prop := ∃ v, e = .returned (.tuple #[v, .int .i64 at_]) ∧ w'.ownsRow w.heap.size 5 1 v zs.length (u8s zs) ∧ Below w.heap.size w w'

end Go.Proofs.YtlcaboddkcpgaaaDoor

/- A slice of bytes that came in, as the contracts take it. -/
namespace Go.Proofs.YtlcaboddkcpgaaaDoor
open Go.RowKit
set_option linter.unusedVariables false

/-- a slice of integers that came in: nil, or a row of cells -/
def IsRow (k : IntKind) (w : World) (a : Option Addr) (len cap : Nat) (zs : List Int) : Prop :=
  (a = none ∧ len = 0 ∧ cap = 0 ∧ zs = []) ∨
  ∃ x, a = some x ∧ len ≤ cap ∧ cap ≤ maxLen ∧ zs.length = cap ∧ (∀ i, i < zs.length → w.cell? (x.add i) = some (.int k (zs.getD i 0))) ∧ ∀ n ∈ zs, (Lit.int k n).wf = true

theorem wf_u8 {n : Int} (h : (Lit.int .u8 n).wf = true) : 0 ≤ n ∧ n ≤ 255 := bounds_u8 h
theorem wf_i64 {n : Int} (h : (Lit.int .i64 n).wf = true) : -9223372036854775808 ≤ n ∧ n ≤ 9223372036854775807 := bounds_i64 h
theorem cell_lt {w : World} {p : Addr} {v : Value} (h : w.cell? p = some v) : p.block < w.heap.size := by
  false_or_by_contra
  rename_i hn
  have : w.heap[p.block]? = none := Array.getElem?_eq_none (by omega)
  simp [World.cell?, this] at h

theorem byt_of_row {w : World} {a : Option Addr} {len cap : Nat} {z : List Int} (h : IsRow .u8 w a len cap z) (hl : len ≤ 1152921504606846975) :
    ∃ zs : List UInt8, zs.length = len ∧ Byt w.heap.size w (.slice a len cap) zs := by
  rcases h with ⟨rfl, rfl, rfl, rfl⟩ | ⟨x, rfl, hlc, _, hz, hc, hw⟩
  · exact ⟨[], rfl, none, 0, rfl, by simp, .inl rfl⟩
  · have hlen : ((z.take len).map fun n => UInt8.ofNat n.toNat).length = len := by simp; omega
    refine ⟨(z.take len).map fun n => UInt8.ofNat n.toNat, hlen, some x, cap, by rw [hlen], by rw [hlen]; exact hl, ?_⟩
    by_cases h0 : len = 0
    · left; subst h0; simp
    · right
      obtain ⟨b, off, spot⟩ := x
      have hc0 := hc 0 (by omega)
      have hspot : spot = none := by simpa [Addr.add] using World.cell?_spot hc0
      subst hspot
      refine ⟨b, off, rfl, by simpa [Addr.add] using cell_lt hc0, fun j hj => ?_⟩
      rw [hlen] at hj
      have hcj := hc j (by omega)
      have hadd : (⟨b, off, none⟩ : Addr).add j = ⟨b, off + j, none⟩ := by unfold Addr.add; split <;> simp_all
      rw [hadd] at hcj
      rw [hcj]
      have hm : z[j]'(by omega) ∈ z := List.getElem_mem _
      have hb := wf_u8 (hw _ hm)
      have e1 : z.getD j 0 = z[j]'(by omega) := by simp [List.getD_eq_getElem?_getD, show j < z.length by omega]
      rw [e1]
      have e2 : (((z.take len).map fun n => UInt8.ofNat n.toNat)[j]?.getD 0) = UInt8.ofNat (z[j]'(by omega)).toNat := by
        simp [hj, show j < z.length by omega]
      rw [e2, UInt8.toNat_ofNat', Nat.mod_eq_of_lt (by simp; omega)]
      congr 2
      omega

theorem Byt.later {w W : World} {sv : Value} {zs : List UInt8} (h : Byt w.heap.size w sv zs) (hb : Below w.heap.size w W) : Byt W.heap.size W sv zs := by
  obtain ⟨a, cap, e, hl, hz⟩ := h.below hb
  refine ⟨a, cap, e, hl, hz.imp id fun ⟨b, off, ea, hlt, hc⟩ => ⟨b, off, ea, ?_, hc⟩⟩
  have := hb.size
  omega

end Go.Proofs.YtlcaboddkcpgaaaDoor

/- Contracts of the law's own small functions (feeds, has, three, awake) and of the law QueueKnown. The contract of the law QueueNew: it returns true, and nothing that lay is changed. Acts of a queue as the laws take them: how they lie in memory; the contract of Long. Append of bytes, from whatever slice of bytes (nil and empty ones too), to a row that the call owns: what comes out, and where it lies. The contract of the law QueueRead: it returns true, and nothing that lay is changed. The reference's queue (praxinoscoperef02.Queue): what it holds; contracts of its New, Free, Left, Skip, End. The reference's queue, more: contracts of its Feed and Bits. -/
/- Contracts of the law's own small functions (feeds, has, three, awake) and of the law QueueKnown. -/
namespace Go.Proofs.YtlcaboddkcpgaaaDoor
open Go.RowKit Go.Shelf
set_option linter.unusedVariables false

theorem bytA_new (w : World) (zs : List UInt8) (cs : Array Value) (h : cs = (zs.map fun z => Value.int .u8 z.toNat).toArray) (hl : zs.length ≤ 1152921504606846975) (g : Nat) (hg : g < w.heap.size) (t : TypeId) :
    BytA (w.alloc (.cells cs t)) g (.slice (some ⟨w.heap.size, 0, none⟩) zs.length zs.length) zs := by
  refine ⟨_, _, rfl, Nat.le_refl _, Nat.le_trans hl (by decide), .inr ⟨_, _, rfl, fun _ => ⟨by omega, by simp⟩, fun j hj => ?_⟩⟩
  subst h
  simp [hj, go_sem]
theorem bytA_nil (w : World) (g : Nat) : BytA w g (.slice none 0 0) [] := ⟨_, 0, rfl, Nat.le_refl _, by omega, .inl rfl⟩
theorem byt_nil (w : World) : Byt w.heap.size w (.slice none 0 0) [] := ⟨none, 0, rfl, by simp, .inl rfl⟩

theorem skipQ_ok {q : Qs} {n : Nat} (h : n ≤ 8 * q.all.length - q.gone) : skipE q n = 0 ∧ skipQ q n = { q with gone := q.gone + n } := by
  have : ¬ ((n : Int) < 0 ∨ ((8 * q.all.length - q.gone : Nat) : Int) < (n : Int)) := by omega
  rw [skipE, skipQ, if_neg this, if_neg this, Int.toNat_natCast]
  exact ⟨rfl, rfl⟩

def q1 : Qs := ⟨3, [1, 2, 3], 0, false⟩
def q2 : Qs := ⟨3, [1, 2, 3], 12, false⟩
def q3 : Qs := ⟨3, [1, 2, 3, 9], 12, false⟩
def q4 : Qs := ⟨3, [1, 2, 3, 9], 32, false⟩
def q5 : Qs := ⟨3, [1, 2, 3, 9], 32, true⟩

end Go.Proofs.YtlcaboddkcpgaaaDoor

/- The contract of the law QueueNew: it returns true, and nothing that lay is changed. -/
namespace Go.Proofs.YtlcaboddkcpgaaaDoor
open Go.RowKit Go.Shelf
set_option linter.unusedVariables false

/-- bytes that came in, with their block -/
def Row8 (n₀ : Nat) (w : World) (a : Option Addr) (len cap : Nat) (zs : List UInt8) : Prop :=
  zs.length = len ∧ len ≤ cap ∧ cap ≤ 9223372036854775807 ∧ (cap = 0 ∨ ∃ b off, a = some ⟨b, off, none⟩ ∧ b < n₀ ∧ ∀ j, j < len → w.cell? ⟨b, off + j, none⟩ = some (.int .u8 ((zs[j]?.getD 0).toNat)))
theorem row8_of_row {w : World} {a : Option Addr} {len cap : Nat} {z : List Int} (h : IsRow .u8 w a len cap z) : ∃ zs, Row8 w.heap.size w a len cap zs := by
  rcases h with ⟨rfl, rfl, rfl, rfl⟩ | ⟨x, rfl, hlc, hm, hz, hc, hw⟩
  · exact ⟨[], rfl, Nat.le_refl _, by omega, .inl rfl⟩
  · have hlen : ((z.take len).map fun n => UInt8.ofNat n.toNat).length = len := by simp; omega
    refine ⟨(z.take len).map fun n => UInt8.ofNat n.toNat, hlen, hlc, by unfold maxLen at hm; omega, ?_⟩
    by_cases h0 : cap = 0
    · exact .inl h0
    · right
      obtain ⟨b, off, spot⟩ := x
      have hc0 := hc 0 (by omega)
      have hspot : spot = none := by simpa [Addr.add] using World.cell?_spot hc0
      subst hspot
      refine ⟨b, off, rfl, by simpa [Addr.add] using cell_lt hc0, fun j hj => ?_⟩
      have hcj := hc j (by omega)
      have hadd : (⟨b, off, none⟩ : Addr).add j = ⟨b, off + j, none⟩ := by unfold Addr.add; split <;> simp_all
      rw [hadd] at hcj
      rw [hcj]
      have hm : z[j]'(by omega) ∈ z := List.getElem_mem _
      have hb := wf_u8 (hw _ hm)
      have e1 : z.getD j 0 = z[j]'(by omega) := by simp [List.getD_eq_getElem?_getD, show j < z.length by omega]
      rw [e1]
      have e2 : (((z.take len).map fun n => UInt8.ofNat n.toNat)[j]?.getD 0) = UInt8.ofNat (z[j]'(by omega)).toNat := by
        simp [hj, show j < z.length by omega]
      rw [e2, UInt8.toNat_ofNat', Nat.mod_eq_of_lt (by simp; omega)]
      congr 2
      omega
theorem Row8.later {n₀ : Nat} {w w' : World} {a : Option Addr} {len cap : Nat} {zs : List UInt8} (h : Row8 n₀ w a len cap zs) (hb : Below n₀ w w') : Row8 n₀ w' a len cap zs := by
  obtain ⟨h1, h2, h3, h4⟩ := h
  refine ⟨h1, h2, h3, h4.imp id fun ⟨b, off, e, hlt, hc⟩ => ⟨b, off, e, hlt, fun j hj => ?_⟩⟩
  exact (hb.cell (p := ⟨b, off + j, none⟩) hlt).trans (hc j hj)
theorem Row8.bytA {n₀ g : Nat} {w : World} {a : Option Addr} {len cap : Nat} {zs : List UInt8} (h : Row8 n₀ w a len cap zs) (hn : n₀ ≤ w.heap.size) (hg : n₀ ≤ g) : BytA w g (.slice a len cap) zs := by
  obtain ⟨rfl, h2, h3, h4⟩ := h
  exact ⟨a, cap, rfl, h2, h3, h4.imp id fun ⟨b, off, e, hlt, hc⟩ => ⟨b, off, e, fun _ => ⟨by omega, by omega⟩, hc⟩⟩
theorem Row8.byt {n₀ k : Nat} {w : World} {a : Option Addr} {len cap : Nat} {zs : List UInt8} (h : Row8 n₀ w a len cap zs) (hn : n₀ ≤ w.heap.size) (hk : k ≤ len) (hl : k ≤ 1152921504606846975) : Byt w.heap.size w (.slice a k cap) (zs.take k) := by
  obtain ⟨rfl, h2, h3, h4⟩ := h
  have e : (zs.take k).length = k := by simp; omega
  refine ⟨a, cap, by rw [e], by rw [e]; exact hl, ?_⟩
  rcases h4 with rfl | ⟨b, off, rfl, hlt, hc⟩
  · left; exact List.eq_nil_of_length_eq_zero (by omega)
  · right
    refine ⟨b, off, rfl, by omega, fun j hj => ?_⟩
    rw [e] at hj
    rw [hc j (by omega), List.getElem?_take, if_pos hj]

theorem new_fed (A ys : List UInt8) (m : Nat) : fedL ⟨m, A, 8 * A.length, false⟩ ys = ys.take m := by
  simp only [fedL, Bool.false_eq_true, if_false]
  congr 1
  omega
theorem new_feedQ (A ys : List UInt8) (m : Nat) : feedQ ⟨m, A, 8 * A.length, false⟩ ys = ⟨m, A ++ ys.take m, 8 * A.length, false⟩ := by
  rw [feedQ, new_fed]
theorem new_drop (A ys : List UInt8) (m n : Nat) (h : n = min m ys.length) : ys.take n = (A ++ ys.take m).drop (8 * A.length / 8) := by
  rw [show 8 * A.length / 8 = A.length by omega, List.drop_left, h]
  apply List.ext_getElem?
  intro i
  simp only [List.getElem?_take]
  by_cases h1 : i < m
  · by_cases h2 : i < ys.length
    · rw [if_pos (by omega), if_pos h1]
    · rw [if_neg (by omega), if_pos h1, List.getElem?_eq_none (by omega)]
  · rw [if_neg (by omega), if_neg h1]

end Go.Proofs.YtlcaboddkcpgaaaDoor

/- Acts of a queue as the laws take them: how they lie in memory; the contract of Long. -/
namespace Go.Proofs.YtlcaboddkcpgaaaDoor
open Go.RowKit Go.Shelf
set_option linter.unusedVariables false

structure QAct where
  kind : Int
  n : Int
  a : Option Addr
  len : Nat
  cap : Nat
  zs : List UInt8
def QAct.cell (x : QAct) : Nat → Value
  | 0 => .int .i64 x.kind
  | 1 => .int .i64 x.n
  | _ => .slice x.a x.len x.cap
instance : Inhabited QAct := ⟨⟨0, 0, none, 0, 0, []⟩⟩
/-- an act as it may be: what an int holds, what a slice holds -/
def QAct.ok (x : QAct) (n₀ : Nat) (w : World) : Prop := (-9223372036854775808 ≤ x.kind ∧ x.kind ≤ 9223372036854775807) ∧ (-9223372036854775808 ≤ x.n ∧ x.n ≤ 9223372036854775807) ∧ Row8 n₀ w x.a x.len x.cap x.zs

/-- the slice value sv holds the acts xs, in a block below n₀ -/
def IsQActs (n₀ : Nat) (w : World) (sv : Value) (xs : List QAct) : Prop :=
  ∃ a cap, sv = .slice a xs.length cap ∧ xs.length ≤ 9223372036854775807 ∧ (∀ x ∈ xs, x.ok n₀ w) ∧
    (xs = [] ∨ ∃ b off, a = some ⟨b, off, none⟩ ∧ b < n₀ ∧ ∀ i, i < xs.length → ∀ j, j < 3 → w.cell? ⟨b, off + i * 3 + j, none⟩ = some ((xs[i]?.getD default).cell j))
theorem QAct.ok.below {x : QAct} {n₀ : Nat} {A B : World} (h : x.ok n₀ A) (hb : Below n₀ A B) : x.ok n₀ B := ⟨h.1, h.2.1, h.2.2.later hb⟩
theorem IsQActs.below {n₀ : Nat} {A B : World} (h : Below n₀ A B) {sv : Value} {xs : List QAct} : IsQActs n₀ A sv xs → IsQActs n₀ B sv xs
  | ⟨a, cap, e, hl, ho, .inl z⟩ => ⟨a, cap, e, hl, fun x hx => (ho x hx).below h, .inl z⟩
  | ⟨a, cap, e, hl, ho, .inr ⟨b, off, ea, hb, hc⟩⟩ => ⟨a, cap, e, hl, fun x hx => (ho x hx).below h, .inr ⟨b, off, ea, hb, fun i hi j hj => (h.cell (p := ⟨b, off + i * 3 + j, none⟩) hb).trans (hc i hi j hj)⟩⟩

/-- more than the laws go through? -/
def qlongB (xs : List QAct) : Bool := (xs.take 61).any (fun x => decide (100 < x.len)) || decide (60 < xs.length)

theorem qany_take_false {xs : List QAct} {i : Nat} (h : (xs.take i).any (fun x => decide (100 < x.len)) = false) (hi : i < xs.length) :
    (xs.take (i + 1)).any (fun x => decide (100 < x.len)) = decide (100 < (xs[i]?.getD default).len) := by
  rw [List.take_add_one, List.any_append, h, Bool.false_or, List.getElem?_eq_getElem hi]
  simp
theorem qany_take_mono {xs : List QAct} {i j : Nat} (h : (xs.take i).any (fun x => decide (100 < x.len)) = true) (hij : i ≤ j) : (xs.take j).any (fun x => decide (100 < x.len)) = true := by
  rw [List.any_eq_true] at h ⊢
  obtain ⟨x, hx, hp⟩ := h
  exact ⟨x, (List.take_subset_take_left xs hij) hx, hp⟩
theorem qlong_false {xs : List QAct} (h : qlongB xs = false) : xs.length ≤ 60 ∧ ∀ x ∈ xs, x.len ≤ 100 := by
  simp only [qlongB, Bool.or_eq_false_iff, decide_eq_false_iff_not] at h
  refine ⟨by omega, fun x hx => ?_⟩
  have h1 := h.1
  rw [List.take_of_length_le (by omega), List.any_eq_false] at h1
  simpa using h1 x hx

end Go.Proofs.YtlcaboddkcpgaaaDoor

/- Append of bytes, from whatever slice of bytes (nil and empty ones too), to a row that the call owns: what comes out, and where it lies. -/
namespace Go.Proofs.YtlcaboddkcpgaaaDoor
open Go.RowKit Go.Shelf
set_option linter.unusedVariables false

/-- the source of an append: m cells from an address on, or none at all -/
def Src (w : World) (A : Option Addr) (m : Nat) (news : List Value) : Prop := news.length = m ∧ (m = 0 ∨ ∃ ad, A = some ad ∧ ∀ j u, news[j]? = some u → w.cell? (ad.add j) = some u)
theorem Src.at_ {w : World} {ad : Addr} {m : Nat} {news : List Value} (h : Src w (some ad) m news) : ∀ j u, news[j]? = some u → w.cell? (ad.add j) = some u := by
  rcases h.2 with h0 | ⟨ad', e, hc⟩
  · intro j u hu
    have := List.eq_nil_of_length_eq_zero (h.1.trans h0)
    subst this
    simp at hu
  · cases e; exact hc
theorem Src.alloc {w : World} {A : Option Addr} {m : Nat} {news : List Value} (h : Src w A m news) (o : Obj) : Src (w.alloc o) A m news := by
  refine ⟨h.1, h.2.imp id fun ⟨ad, e, hc⟩ => ⟨ad, e, fun j u hu => ?_⟩⟩
  have := hc j u hu
  exact (World.cell?_of_block (Below.heap_alloc _ _ _ (World.block_lt_of_cell? w _ this))).trans this
/-- what an append of bytes leaves -/
def Appended (w w' : World) (base : Nat) (v v' : Value) (n : Nat) (xs : List Value) : Prop :=
  w'.ownsRow base 5 1 v' n xs ∧ w.grownBy w' v.ownBlock ∧ ∀ k, v'.ownBlock = some k → v.ownBlock = some k ∨ w.heap.size ≤ k

theorem run_append_src {w : World} (base : Nat) (v : Value) (n : Nat) (xs : List Value) (hown : w.ownsRow base 5 1 v n xs) (A : Option Addr) (m c : Nat) (news : List Value) (hs : Src w A m news) (hnc : A = none → c = 0)
    (h1 : ∀ u ∈ news, u.oneCell' = true) (hfit : n + m ≤ 140737488355328) (hbase : base ≤ w.heap.size) (ty : TypeId) :
    ∃ v' w', (Builtin.append_ #[22, 22] ty #[v, .slice A m c]).run Tryd.prog w = .ok v' w' ∧ Appended w w' base v v' (n + m) (xs ++ news) := by
  obtain ⟨i0, hi, hz0, hz1, hz2⟩ := info_parts Tryd.info5
  cases A with
  | none =>
    have hm : m = 0 := by
      rcases hs.2 with h | ⟨ad, e, _⟩
      · exact h
      · cases e
    subst hm
    have hn : news = [] := List.eq_nil_of_length_eq_zero hs.1
    subst hn
    obtain rfl := hnc rfl
    exact ⟨v, w, run_append_owned_none w base 22 ty 5 i0 1 Tryd.underlying22 hi v n xs hown, by simpa using hown, World.grownBy.refl w _, fun k hk => .inl hk⟩
  | some ad =>
    obtain ⟨v', w', hr, h2, h3, _⟩ := run_append_own (P := Tryd.prog) w base 22 ty 5 i0 (.int .u8 0) 1 1 Tryd.underlying22 hi hz0 hz1 hz2 rfl (by decide) v n xs hown ad m c news (by rw [hs.1]; omega) hs.at_ h1 (by unfold maxLen; omega) (by omega) hbase
    exact ⟨v', w', hr, h2, h3, append_where w 22 ty 5 i0 (.int .u8 0) 1 1 Tryd.underlying22 hi hz0 hz1 hz2 rfl (by decide) base v n xs hown ad m c news (by rw [hs.1]; omega) hs.at_ h1 (by unfold maxLen; omega) (by omega) hr⟩

theorem wp_append_src {w : World} {o : Oper} {a : Act} {K : Act → World → Prop} {Q : Exit → Act → World → Prop} (s x : Operand)
    (ho : o.op = .call { callee := .builtin .append, args := #[s, x], argTypes := #[22, 22] }) (base : Nat) (v : Value) (n : Nat) (xs : List Value) (hv : a.eval s = v) (hown : w.ownsRow base 5 1 v n xs)
    (A : Option Addr) (m c : Nat) (news : List Value) (hx : a.eval x = .slice A m c) (hs : Src w A m news) (hnc : A = none → c = 0) (h1 : ∀ u ∈ news, u.oneCell' = true) (hfit : n + m ≤ 140737488355328) (hbase : base ≤ w.heap.size)
    (h : ∀ v' w', Appended w w' base v v' (n + m) (xs ++ news) → K (a.put o.dst v') w') : o.wp Tryd.prog a w K Q := by
  obtain ⟨v', w', hrun, hd⟩ := run_append_src (w := w) base v n xs hown A m c news hs hnc h1 hfit hbase o.type
  unfold Oper.wp execOp
  simp only [ho, resolve, invoke, builtin, Sem.run_bind, Sem.run_pure, Result.andThen_ok, List.map_toArray, List.map_cons, List.map_nil, hv, hx, hrun]
  exact h v' w' hd
theorem wpList_append_src {w : World} {ops : Array Oper} {rest : List Oper} {o : Oper} {a : Act} {Q : Exit → Act → World → Prop} (hgd : o.guard = none) (s x : Operand)
    (ho : o.op = .call { callee := .builtin .append, args := #[s, x], argTypes := #[22, 22] }) (base : Nat) (v : Value) (n : Nat) (xs : List Value) (hv : a.eval s = v) (hown : w.ownsRow base 5 1 v n xs)
    (A : Option Addr) (m c : Nat) (news : List Value) (hx : a.eval x = .slice A m c) (hs : Src w A m news) (hnc : A = none → c = 0) (h1 : ∀ u ∈ news, u.oneCell' = true) (hfit : n + m ≤ 140737488355328) (hbase : base ≤ w.heap.size)
    (h : ∀ v' w', Appended w w' base v v' (n + m) (xs ++ news) → wpList Tryd.prog ops Q rest (a.put o.dst v') w') : wpList Tryd.prog ops Q (o :: rest) a w :=
  wpList_plain hgd fun _ hK => wp_append_src s x ho base v n xs hv hown A m c news hx hs hnc h1 hfit hbase fun v' w' hd => hK _ _ (h v' w' hd)
theorem step_append_src {w : World} {ops : Array Oper} {o : Oper} {a : Act} {K : Act → World → Prop} {Q : Exit → Act → World → Prop} {E : Prop} (hgd : o.guard = none) (s x : Operand)
    (ho : o.op = .call { callee := .builtin .append, args := #[s, x], argTypes := #[22, 22] }) (base : Nat) (v : Value) (n : Nat) (xs : List Value) (hv : a.eval s = v) (hown : w.ownsRow base 5 1 v n xs)
    (A : Option Addr) (m c : Nat) (news : List Value) (hx : a.eval x = .slice A m c) (hs : Src w A m news) (hnc : A = none → c = 0) (h1 : ∀ u ∈ news, u.oneCell' = true) (hfit : n + m ≤ 140737488355328) (hbase : base ≤ w.heap.size)
    (h : ∀ v' w', Appended w w' base v v' (n + m) (xs ++ news) → K (a.put o.dst v') w') : if Region.wanted o (yielded ops a.tmps) = true then Oper.wp Tryd.prog o a w K Q else E := by
  have hw : Region.wanted o (yielded ops a.tmps) = true := by simp [Region.wanted, hgd]
  rw [if_pos hw]
  exact wp_append_src s x ho base v n xs hv hown A m c news hx hs hnc h1 hfit hbase h

end Go.Proofs.YtlcaboddkcpgaaaDoor

/- The contract of the law QueueRead: it returns true, and nothing that lay is changed. -/
namespace Go.Proofs.YtlcaboddkcpgaaaDoor
open Go.RowKit Go.Shelf
set_option linter.unusedVariables false

theorem rem_bt (zs : List UInt8) (k : Nat) : (wrap64 (((zs[k / 8]?.getD 0).toNat : Int) / 2 ^ (7 - k % 8))).tmod 2 = (bt zs k : Int) := by
  have hb : (zs[k / 8]?.getD 0).toNat < 256 := UInt8.toNat_lt _
  have e : (((zs[k / 8]?.getD 0).toNat : Int) / 2 ^ (7 - k % 8)) = (((zs[k / 8]?.getD 0).toNat / 2 ^ (7 - k % 8) : Nat) : Int) := by
    rw [Int.natCast_ediv]; simp
  have hle : (zs[k / 8]?.getD 0).toNat / 2 ^ (7 - k % 8) ≤ (zs[k / 8]?.getD 0).toNat := Nat.div_le_self _ _
  rw [e]
  unfold bt
  rw [List.getD_eq_getElem?_getD]
  generalize (zs[k / 8]?.getD 0).toNat / 2 ^ (7 - k % 8) = q at *
  rw [IntWalk.wrap64_in _ ⟨by omega, by omega⟩, Int.tmod_eq_emod_of_nonneg (by omega)]
  omega
theorem bt_drop (zs : List UInt8) (G k : Nat) : bt (zs.drop (G / 8)) (G % 8 + k) = bt zs (G + k) := by
  unfold bt
  rw [show (G + k) % 8 = (G % 8 + k) % 8 by omega, List.getD_eq_getElem?_getD, List.getD_eq_getElem?_getD, List.getElem?_drop, show G / 8 + (G % 8 + k) / 8 = (G + k) / 8 by omega]

theorem Row8.src {n₀ : Nat} {w : World} {a : Option Addr} {len cap : Nat} {zs : List UInt8} (h : Row8 n₀ w a len cap zs) {n : Nat} (hn : n ≤ len) : Src w a n (u8s (zs.take n)) := by
  obtain ⟨h1, h2, h3, h4⟩ := h
  refine ⟨by simp; omega, ?_⟩
  rcases h4 with rfl | ⟨b, off, rfl, hlt, hc⟩
  · left; omega
  · right
    refine ⟨_, rfl, fun j u hu => ?_⟩
    have hadd : (⟨b, off, none⟩ : Addr).add j = ⟨b, off + j, none⟩ := by unfold Addr.add; split <;> simp_all
    have hj : j < n := by
      false_or_by_contra
      rw [List.getElem?_eq_none (by simp; omega)] at hu
      cases hu
    rw [hadd, hc j (by omega)]
    simp only [u8s, List.getElem?_map, List.getElem?_take, if_pos hj] at hu
    rw [List.getElem?_eq_getElem (by omega)] at hu ⊢
    simpa using hu
theorem Row8.nocap {n₀ : Nat} {w : World} {a : Option Addr} {len cap : Nat} {zs : List UInt8} (h : Row8 n₀ w a len cap zs) : a = none → cap = 0 := by
  rcases h.2.2.2 with h | ⟨b, off, rfl, _⟩
  · exact fun _ => h
  · exact fun e => by cases e

theorem row_form {w : World} {base n : Nat} {e : TypeId} {v : Value} {xs : List Value} (h : w.ownsRow base e 1 v n xs) : ∃ av cap, v = .slice av n cap := by
  rcases h.2 with ⟨rfl, rfl⟩ | ⟨g, cap, cur, rfl, _⟩
  · exact ⟨_, _, rfl⟩
  · exact ⟨_, _, rfl⟩

theorem ownsRow_bar {S : Nat → Prop} {w w' : World} {base n : Nat} {e : TypeId} {v : Value} {xs : List Value} (h : w.ownsRow base e 1 v n xs) (hb : Bar S w w') (hS : ∀ k, v.ownBlock = some k → ¬ S k) : w'.ownsRow base e 1 v n xs := by
  have hlt := h.lt
  refine ⟨h.1, ?_⟩
  rcases h.2 with hn | ⟨g', cap, cur, rfl, hbb, hg, rest⟩
  · exact .inl hn
  · exact .inr ⟨g', cap, cur, rfl, hbb, (hb.block g' (hlt g' rfl).2 (hS g' rfl)).trans hg, rest⟩
end Go.Proofs.YtlcaboddkcpgaaaDoor

/- The reference's queue (praxinoscoperef02.Queue): what it holds; contracts of its New, Free, Left, Skip, End. -/
namespace Go.Proofs.YtlcaboddkcpgaaaDoor
open Go.RowKit Go.Shelf
set_option linter.unusedVariables false
theorem ownsRow_set {w : World} {base n b i : Nat} {e : TypeId} {v u : Value} {xs : List Value} (h : w.ownsRow base e 1 v n xs) (hb : v.ownBlock ≠ some b) : (w.setCell ⟨b, i, none⟩ u).ownsRow base e 1 v n xs :=
  ownsRow_bar h ((Bar.refl (fun k => k = b) w).setCell (fun _ => rfl) u) (fun k e1 e2 => hb (by rw [e1, e2]))

theorem below_drewN (n : Nat) (w : World) (k : Nat) : Below n w (w.drewN k) := ⟨rfl, rfl, rfl, Nat.le_refl _, fun _ _ => rfl⟩

end Go.Proofs.YtlcaboddkcpgaaaDoor

/- The reference's queue, more: contracts of its Feed and Bits. -/
namespace Go.Proofs.YtlcaboddkcpgaaaDoor
open Go.RowKit Go.Shelf
set_option linter.unusedVariables false

theorem Appended.undrew {w w' : World} {base n : Nat} {v v' : Value} {xs : List Value} (h : Appended w.drew w' base v v' n xs) : Appended w w' base v v' n xs :=
  ⟨h.1, ⟨h.2.1.os, h.2.1.tape, h.2.1.output, h.2.1.size, h.2.1.block⟩, h.2.2⟩
theorem Src.drew {w : World} {A : Option Addr} {m : Nat} {news : List Value} (h : Src w A m news) : Src w.drew A m news := h

theorem feedQ_ok {q : Qs} (ho : q.ok) (zs : List UInt8) (hfit : q.all.length + zs.length ≤ 1099511627776) : (feedQ q zs).ok := by
  have hl : (fedL q zs).length ≤ zs.length ∧ (fedL q zs).length ≤ q.most - (q.all.length - q.gone / 8) := by
    unfold fedL
    split
    · simp
    · simp; omega
  have h1 := ho.gone
  have h2 := ho.held
  refine ⟨ho.1, ho.2, ?_, ?_, ?_⟩ <;> (simp only [feedQ, List.length_append]; omega)

theorem bar_alloc_row {w w2 : World} {o : Obj} {n : Nat} {v' : Value} {xs : List Value} (h : Appended ((w.drew).alloc o) w2 w.heap.size (.slice (some ⟨w.heap.size, 0, none⟩) 0 0) v' n xs) : Below w.heap.size w w2 := by
  obtain ⟨h1, h2, h3⟩ := h
  have hs : w.heap.size ≤ (w.drew.alloc o).heap.size := by simp
  have := ((Below.refl w.heap.size w.drew).alloc (Nat.le_refl _) o).grown h2 hs (fun k e => by simp [Value.ownBlock] at e; omega)
  exact below_undrew this
theorem own_empty (w : World) (t : TypeId) : (w.alloc (.cells #[] t (0, 0))).ownsRow w.heap.size t 1 (.slice (some ⟨w.heap.size, 0, none⟩) 0 0) 0 [] :=
  World.ownsRow_made w #[] 0 (Nat.le_refl _) (by unfold maxLen; omega) rfl

end Go.Proofs.YtlcaboddkcpgaaaDoor
