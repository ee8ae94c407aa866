/- Contracts of the methods of queue.sizes. Queues: what a queue in memory is; contracts of queue.New, made, known, Left, Free, Came, Gone, Ended, End, Skip. The builtin copy into a row that is known whole, and besides: nothing but that row is changed. The ring of a queue, in plain terms: what two copies lay into it. The contract of (*queue.Queue).Feed. The contract of the iterator of a queue's bytes ((*queue.Queue).fromFirst). The contract of (*queue.Queue).Bits. -/
import Derived.Test.YtpmdeoiajnfabaaPen2
import Derived.Deep.RegionHeld3
import Derived.Laws.CopyOwn
import Derived.Deep.RegionLaw
import Derived.Maps.AppendAt
/- Contracts of the methods of queue.sizes. -/
namespace Go.Proofs.Ytpmdeoiajnfabaa
open Go.RowKit Go.Shelf
set_option linter.unusedVariables false

abbrev szV (m c g : Int) : Value := .agg #[.int .i64 m, .int .i64 c, .int .i64 g]

theorem below_undrew {n : Nat} {a b : World} (h : Below n a.drew b) : Below n a b := ⟨h.os, h.tape, h.output, h.size, h.block⟩
theorem below_boxed {w w' : World} {o : Obj} (h : Below (w.alloc o).drew.heap.size (w.alloc o).drew w') : Below w.heap.size w w' :=
  below_chain ((Below.refl _ _).alloc (Nat.le_refl _) o) (Nat.le_refl _) (below_undrew h)

end Go.Proofs.Ytpmdeoiajnfabaa

/- Queues: what a queue in memory is; contracts of queue.New, made, known, Left, Free, Came, Gone, Ended, End, Skip. -/
namespace Go.Proofs.Ytpmdeoiajnfabaa
open Go.RowKit Go.Shelf
set_option linter.unusedVariables false

/-- a queue: its room, all bytes that ever came, how many bits were read, whether it is ended -/
structure Qs where
  most : Nat
  all : List UInt8
  gone : Nat
  ended : Bool
structure Qs.ok (q : Qs) : Prop where
  m1 : 1 ≤ q.most
  m2 : q.most ≤ 1048576
  len : q.all.length ≤ 1099511627776
  gone : q.gone ≤ 8 * q.all.length
  held : q.all.length - q.gone / 8 ≤ q.most
/-- the ring holds what is there, each byte at its place, counted round -/
def Ringed (ring : List UInt8) (q : Qs) : Prop := ring.length = q.most ∧ ∀ j, q.gone / 8 ≤ j → j < q.all.length → ring.getD (j % q.most) 0 = q.all.getD j 0
def newQ (m : Nat) : Qs := ⟨m, [], 0, false⟩

theorem row_block {w : World} {base g n : Nat} {e : TypeId} {xs : List Value} (h : w.ownsRow base e 1 (.slice (some ⟨g, 0, none⟩) n n) n xs) : w.heap[g]? = some (.cells xs.toArray e (0, 0)) := by
  rcases h.2 with ⟨h0, _⟩ | ⟨g', cap, cur, e1, _, hg, _, _, hs, ht⟩
  · simp at h0
  · simp at e1
    obtain ⟨rfl, rfl⟩ := e1
    rw [List.take_of_length_le (by simp; omega)] at ht
    rw [hg, ← ht]
theorem made_u8 (m : Nat) : (madeCells #[Value.int .u8 0] m).toList = u8s (List.replicate m 0) := by
  rw [toList_madeCells_one]; simp [u8s]
theorem newQ_ok {m : Nat} (h1 : 1 ≤ m) (h2 : m ≤ 1048576) : (newQ m).ok := ⟨h1, h2, by simp [newQ], by simp [newQ], by simp [newQ]⟩
theorem newQ_ring (m : Nat) : Ringed (List.replicate m 0) (newQ m) := ⟨by simp [newQ], fun j _ h => by simp [newQ] at h⟩

/-! ### what turns a queue -/
def endE (q : Qs) : Int := if q.ended then 20 else 0
def skipE (q : Qs) (n : Int) : Int := if n < 0 ∨ ((8 * q.all.length - q.gone : Nat) : Int) < n then 3 else 0
def skipQ (q : Qs) (n : Int) : Qs := if n < 0 ∨ ((8 * q.all.length - q.gone : Nat) : Int) < n then q else { q with gone := q.gone + n.toNat }
end Go.Proofs.Ytpmdeoiajnfabaa

/- The builtin copy into a row that is known whole, and besides: nothing but that row is changed. -/
namespace Go.Proofs.Ytpmdeoiajnfabaa
open Go.RowKit Go.Shelf
set_option linter.unusedVariables false

theorem bar_setRow (w : World) (g : Nat) (cs : Array Value) : Bar (fun k => k = g) w (w.setRow g cs) :=
  ⟨rfl, rfl, rfl, by simp [World.setRow], fun k hk hn => setRow_other w g k cs hn⟩

/-- what a copy leaves -/
def CopiedTo (w w' : World) (g : Nat) (t : TypeId) (L : List Value) : Prop := w'.heap[g]? = some (.cells L.toArray t (0, 0)) ∧ Bar (fun k => k = g) w w'

theorem run_copy_bar {P : Program} {w : World} (dT sT ty elem : TypeId) (hu : P.underlying dT = some (.slice elem)) (hsz : (P.info? elem).map (·.size) = some 1)
    (dp sp : Option Addr) (dLen dCap sLen sCap : Nat) (g off : Nat) (cur : List Value) (t : TypeId) (hg : w.heap[g]? = some (.cells cur.toArray t (0, 0))) (cs : List Value) (hn : cs.length = Nat.min sLen dLen)
    (hpos : 0 < cs.length → dp = some ⟨g, off, none⟩ ∧ ∃ ad, sp = some ad ∧ ∀ j v, cs[j]? = some v → w.cell? (ad.add j) = some v)
    (hfit : off + cs.length ≤ cur.length) (h1 : ∀ v ∈ cs, v.oneCell' = true) :
    ∃ w', (Builtin.copy_ #[dT, sT] ty #[.slice dp dLen dCap, .slice sp sLen sCap]).run P w = .ok (goInt cs.length) w' ∧ CopiedTo w w' g t (splice cur off cs) := by
  by_cases h0 : cs.length = 0
  · obtain rfl : cs = [] := List.eq_nil_of_length_eq_zero h0
    exact ⟨w, run_copy_none (P := P) w dT sT ty elem dp sp dLen dCap sLen sCap hu hsz (by simpa using hn.symm), by simpa [splice] using hg, Bar.refl _ _⟩
  · obtain ⟨rfl, ad, rfl, hsrc⟩ := hpos (by omega)
    refine ⟨_, run_copy_row (P := P) w dT sT ty elem g off dLen dCap ad sLen sCap cur.toArray t cs hu hsz hg hn hsrc (by simpa using hfit) h1, ?_, bar_setRow w g _⟩
    simpa [splice] using setRow_heap w g _ _ t _ hg

theorem step_copy_bar {P : Program} {ops : Array Oper} {o : Oper} {a : Act} {w : World} {K : Act → World → Prop} {Q : Exit → Act → World → Prop} {E : Prop} (hgd : o.guard = none) (d s : Operand) (dT sT : TypeId)
    (ho : o.op = .call { callee := .builtin .copy, args := #[d, s], argTypes := #[dT, sT] }) (elem : TypeId) (hu : P.underlying dT = some (.slice elem)) (hsz : (P.info? elem).map (·.size) = some 1)
    (dp sp : Option Addr) (dLen dCap sLen sCap : Nat) (hd : a.eval d = .slice dp dLen dCap) (hs : a.eval s = .slice sp sLen sCap)
    (g off : Nat) (cur : List Value) (t : TypeId) (hg : w.heap[g]? = some (.cells cur.toArray t (0, 0))) (cs : List Value) (hn : cs.length = Nat.min sLen dLen)
    (hpos : 0 < cs.length → dp = some ⟨g, off, none⟩ ∧ ∃ ad, sp = some ad ∧ ∀ j v, cs[j]? = some v → w.cell? (ad.add j) = some v)
    (hfit : off + cs.length ≤ cur.length) (h1 : ∀ v ∈ cs, v.oneCell' = true)
    (h : ∀ w', Hid (CopiedTo w w' g t (splice cur off cs)) → K (a.put o.dst (goInt cs.length)) w') :
    if Region.wanted o (yielded ops a.tmps) = true then Oper.wp P o a w K Q else E := by
  have hw : Region.wanted o (yielded ops a.tmps) = true := by simp [Region.wanted, hgd]
  rw [if_pos hw]
  obtain ⟨w', hrun, hc⟩ := run_copy_bar (P := P) (w := w) dT sT o.type elem hu hsz dp sp dLen dCap sLen sCap g off cur t hg cs hn hpos hfit h1
  unfold Oper.wp
  simp [execOp, ho, resolve, invoke, builtin, hd, hs, hrun, Result.andThen]
  exact h _ hc

theorem wpList_copy_bar {P : Program} {w : World} {ops : Array Oper} {rest : List Oper} {o : Oper} {a : Act} {Q : Exit → Act → World → Prop} (hgd : o.guard = none) (d s : Operand) (dT sT : TypeId)
    (ho : o.op = .call { callee := .builtin .copy, args := #[d, s], argTypes := #[dT, sT] }) (elem : TypeId) (hu : P.underlying dT = some (.slice elem)) (hsz : (P.info? elem).map (·.size) = some 1)
    (dp sp : Option Addr) (dLen dCap sLen sCap : Nat) (hd : a.eval d = .slice dp dLen dCap) (hs : a.eval s = .slice sp sLen sCap)
    (g off : Nat) (cur : List Value) (t : TypeId) (hg : w.heap[g]? = some (.cells cur.toArray t (0, 0))) (cs : List Value) (hn : cs.length = Nat.min sLen dLen)
    (hpos : 0 < cs.length → dp = some ⟨g, off, none⟩ ∧ ∃ ad, sp = some ad ∧ ∀ j v, cs[j]? = some v → w.cell? (ad.add j) = some v)
    (hfit : off + cs.length ≤ cur.length) (h1 : ∀ v ∈ cs, v.oneCell' = true)
    (h : ∀ w', Hid (CopiedTo w w' g t (splice cur off cs)) → wpList P ops Q rest (a.put o.dst (goInt cs.length)) w') :
    wpList P ops Q (o :: rest) a w := by
  refine wpList_plain hgd fun K hK => ?_
  obtain ⟨w', hrun, hc⟩ := run_copy_bar (P := P) (w := w) dT sT o.type elem hu hsz dp sp dLen dCap sLen sCap g off cur t hg cs hn hpos hfit h1
  unfold Oper.wp
  simp [execOp, ho, resolve, invoke, builtin, hd, hs, hrun, Result.andThen]
  exact hK _ _ (h _ hc)

end Go.Proofs.Ytpmdeoiajnfabaa

/- The ring of a queue, in plain terms: what two copies lay into it. -/
namespace Go.Proofs.Ytpmdeoiajnfabaa
open Go.RowKit Go.Shelf
set_option linter.unusedVariables false

theorem splice_getD {α : Type} (L : List α) (off : Nat) (cs : List α) (d : α) (h : off + cs.length ≤ L.length) (p : Nat) :
    (splice L off cs).getD p d = if off ≤ p ∧ p < off + cs.length then cs.getD (p - off) d else L.getD p d := by
  unfold splice
  simp only [List.getD_eq_getElem?_getD]
  congr 1
  by_cases h1 : p < off
  · rw [if_neg (by omega), List.getElem?_append_left (by simp; omega), List.getElem?_take, if_pos h1]
  · rw [List.getElem?_append_right (by simp; omega), List.length_take, Nat.min_eq_left (by omega)]
    by_cases h2 : p < off + cs.length
    · rw [if_pos ⟨by omega, h2⟩, List.getElem?_append_left (by omega)]
    · rw [if_neg (by omega), List.getElem?_append_right (by omega), List.getElem?_drop, show off + cs.length + (p - off - cs.length) = p by omega]

theorem mod_at (m Q d : Nat) (h : d < m) : (m * Q + d) % m = d := by
  rw [Nat.mul_add_mod, Nat.mod_eq_of_lt h]

/-- the ring behind bytes were fed -/
def fedRing (ring : List UInt8) (off k : Nat) (ys : List UInt8) : List UInt8 := splice (splice ring off (ys.take k)) 0 (ys.drop k)
theorem ringed_feed {ring : List UInt8} {q : Qs} (ho : q.ok) (hr : Ringed ring q) (ys : List UInt8) (hn : ys.length ≤ q.most - (q.all.length - q.gone / 8)) :
    Ringed (fedRing ring (q.all.length % q.most) (min ys.length (q.most - q.all.length % q.most)) ys) { q with all := q.all ++ ys } := by
  obtain ⟨hl, hv⟩ := hr
  have h1 := ho.m1
  have h2 := ho.gone
  have h3 := ho.held
  have hm : q.all.length % q.most < q.most := Nat.mod_lt _ (by omega)
  have hdm := Nat.div_add_mod q.all.length q.most
  generalize hoff : q.all.length % q.most = off at *
  generalize q.all.length / q.most = Q at *
  generalize hk : min ys.length (q.most - off) = k at *
  have e1 : (ys.take k).length = k := by simp; omega
  have e2 : (ys.drop k).length = ys.length - k := by simp
  have f1 : off + (ys.take k).length ≤ ring.length := by omega
  have f2 : 0 + (ys.drop k).length ≤ (splice ring off (ys.take k)).length := by rw [length_splice _ _ _ f1]; omega
  refine ⟨?_, fun j hj1 hj2 => ?_⟩
  · unfold fedRing
    rw [length_splice _ _ _ f2, length_splice _ _ _ f1, hl]
  · simp only at hj1
    simp only [List.length_append] at hj2 ⊢
    unfold fedRing
    rw [splice_getD _ _ _ _ f2, splice_getD _ _ _ _ f1, e1, e2]
    simp only [Nat.zero_le, true_and, Nat.zero_add, Nat.sub_zero]
    by_cases hj : j < q.all.length
    · -- an old byte
      rw [show (q.all ++ ys).getD j 0 = q.all.getD j 0 by simp [List.getD_eq_getElem?_getD, List.getElem?_append_left hj], ← hv j hj1 hj]
      by_cases hb : q.most * Q ≤ j
      · obtain ⟨d, rfl⟩ := Nat.exists_eq_add_of_le hb
        rw [mod_at _ _ _ (by omega), if_neg (by omega), if_neg (by omega)]
      · obtain ⟨Q', rfl⟩ : ∃ Q', Q = Q' + 1 := ⟨Q - 1, by
          have : Q ≠ 0 := fun e => by rw [e] at hb; simp at hb
          omega⟩
        rw [Nat.mul_add, Nat.mul_one] at *
        obtain ⟨d, rfl⟩ := Nat.exists_eq_add_of_le (show q.most * Q' ≤ j by omega)
        rw [mod_at _ _ _ (by omega), if_neg (by omega), if_neg (by omega)]
    · -- a new one
      obtain ⟨i, rfl⟩ := Nat.exists_eq_add_of_le (show q.all.length ≤ j by omega)
      rw [show (q.all ++ ys).getD (q.all.length + i) 0 = ys.getD i 0 by
        simp only [List.getD_eq_getElem?_getD]
        rw [List.getElem?_append_right (by omega), Nat.add_sub_cancel_left]]
      by_cases hb : off + i < q.most
      · rw [show q.all.length + i = q.most * Q + (off + i) by omega, mod_at _ _ _ hb, if_neg (by omega), if_pos (by omega)]
        rw [Nat.add_sub_cancel_left]
        simp only [List.getD_eq_getElem?_getD, List.getElem?_take]
        rw [if_pos (by omega)]
      · rw [show q.all.length + i = q.most * (Q + 1) + (off + i - q.most) by rw [Nat.mul_add, Nat.mul_one]; omega, mod_at _ _ _ (by omega), if_pos (by omega)]
        simp only [List.getD_eq_getElem?_getD, List.getElem?_drop]
        congr 2
        omega

theorem u8s_splice (L : List UInt8) (off : Nat) (cs : List UInt8) : splice (u8s L) off (u8s cs) = u8s (splice L off cs) := by
  simp [splice, u8s, List.map_take, List.map_drop]

/-- what Bits tells of the ring -/
theorem ring_runs {ring : List UInt8} {q : Qs} (ho : q.ok) (hr : Ringed ring q) :
    (ring.take (min (q.gone / 8 % q.most + (q.all.length - q.gone / 8)) q.most)).drop (q.gone / 8 % q.most) ++ ring.take ((q.gone / 8 % q.most + (q.all.length - q.gone / 8)) - q.most) = q.all.drop (q.gone / 8) := by
  obtain ⟨hl, hv⟩ := hr
  have h1 := ho.m1
  have h2 := ho.gone
  have h3 := ho.held
  have hm : q.gone / 8 % q.most < q.most := Nat.mod_lt _ (by omega)
  have hdm := Nat.div_add_mod (q.gone / 8) q.most
  generalize hf : q.gone / 8 % q.most = f at *
  generalize q.gone / 8 / q.most = Q at *
  apply List.ext_getElem
  · simp; omega
  · intro i i1 i2
    simp at i2
    have hx := hv (q.gone / 8 + i) (by omega) (by omega)
    rw [List.getD_eq_getElem?_getD, List.getD_eq_getElem?_getD, List.getElem?_eq_getElem (l := q.all) (by omega)] at hx
    rw [List.getElem_drop]
    simp only [Option.getD_some] at hx
    rw [← hx]
    by_cases hb : f + i < q.most
    · rw [List.getElem_append_left (by simp; omega), List.getElem_drop, List.getElem_take]
      rw [show q.gone / 8 + i = q.most * Q + (f + i) by omega, mod_at _ _ _ hb, List.getElem?_eq_getElem (by omega)]
      rfl
    · rw [List.getElem_append_right (by simp; omega), List.getElem_take]
      rw [show q.gone / 8 + i = q.most * (Q + 1) + (f + i - q.most) by rw [Nat.mul_add, Nat.mul_one]; omega, mod_at _ _ _ (by omega), List.getElem?_eq_getElem (by omega)]
      simp only [Option.getD_some]
      congr 1
      simp
      omega

end Go.Proofs.Ytpmdeoiajnfabaa

/- The contract of (*queue.Queue).Feed. -/
namespace Go.Proofs.Ytpmdeoiajnfabaa
open Go.RowKit Go.Shelf
set_option linter.unusedVariables false

/-- the slice value sv holds the bytes zs, and not in block g -/
def BytA (w : World) (g : Nat) (sv : Value) (zs : List UInt8) : Prop :=
  ∃ a cap, sv = .slice a zs.length cap ∧ zs.length ≤ cap ∧ cap ≤ 9223372036854775807 ∧
    (cap = 0 ∨ ∃ b off, a = some ⟨b, off, none⟩ ∧ (zs ≠ [] → b ≠ g ∧ b < w.heap.size) ∧ ∀ j, j < zs.length → w.cell? ⟨b, off + j, none⟩ = some (.int .u8 ((zs[j]?.getD 0).toNat)))

theorem keep4 {w w' : World} {b g m c n : Nat} (h : w'.heap[b]? = w.heap[b]?)
    (hS : w.cell? ⟨b, 4, none⟩ = some (Value.slice (some ⟨g, 0, none⟩) m m) ∧ w.cell? ⟨b, 1, none⟩ = some (.int .i64 m) ∧ w.cell? ⟨b, 2, none⟩ = some (.int .i64 c) ∧ w.cell? ⟨b, 3, none⟩ = some (.int .i64 n)) :
    w'.cell? ⟨b, 4, none⟩ = some (Value.slice (some ⟨g, 0, none⟩) m m) ∧ w'.cell? ⟨b, 1, none⟩ = some (.int .i64 m) ∧ w'.cell? ⟨b, 2, none⟩ = some (.int .i64 c) ∧ w'.cell? ⟨b, 3, none⟩ = some (.int .i64 n) := by
  simp only [World.cell?, h] at hS ⊢
  exact hS
theorem src_cells {w w' : World} {bb off m k : Nat} {ys : List UInt8} (hc : ∀ j, j < ys.length → w.cell? ⟨bb, off + j, none⟩ = some (.int .u8 ((ys[j]?.getD 0).toNat))) (hk : ys ≠ [] → w'.heap[bb]? = w.heap[bb]?) :
    ∀ j v, (u8s ((ys.drop m).take k))[j]? = some v → w'.cell? ((⟨bb, off + m, none⟩ : Addr).add j) = some v := by
  intro j v hv
  have hadd : (⟨bb, off + m, none⟩ : Addr).add j = ⟨bb, off + (m + j), none⟩ := by unfold Addr.add; split <;> simp_all [Nat.add_assoc]
  simp only [u8s, List.getElem?_map, List.getElem?_take, List.getElem?_drop] at hv
  by_cases hj : j < k
  · rw [if_pos hj] at hv
    by_cases hl : m + j < ys.length
    · rw [List.getElem?_eq_getElem hl] at hv
      simp at hv
      rw [hadd, World.cell?_of_block (hk (fun e => by rw [e] at hl; simp at hl)), hc _ hl, List.getElem?_eq_getElem hl]
      simp [hv]
    · rw [List.getElem?_eq_none (by omega)] at hv; simp at hv
  · rw [if_neg hj] at hv; simp at hv

theorem info1_byte : (Try.prog.info? 5).map (·.size) = some 1 := by kernel_rfl
theorem u8s_one {zs : List UInt8} : ∀ v ∈ u8s zs, v.oneCell' = true := by
  intro u hu; simp at hu; obtain ⟨z, _, rfl⟩ := hu; rfl

/-- what Feed takes -/
def fedL (q : Qs) (zs : List UInt8) : List UInt8 := if q.ended then [] else zs.take (q.most - (q.all.length - q.gone / 8))
def feedQ (q : Qs) (zs : List UInt8) : Qs := { q with all := q.all ++ fedL q zs }
def feedE (q : Qs) : Int := if q.ended then 20 else 0
end Go.Proofs.Ytpmdeoiajnfabaa

/- The contract of the iterator of a queue's bytes ((*queue.Queue).fromFirst). -/
namespace Go.Proofs.Ytpmdeoiajnfabaa
open Go.RowKit Go.Shelf
set_option linter.unusedVariables false
attribute [local go_sem] Oper.semAt_some

/-- what the closure of fromFirst hands to a round -/
abbrev encU (z : UInt8) : Array Value := #[.int .u8 z.toNat]

/-- the facts that the iterator's regions read -/
abbrev QS (w' : World) (bx b g m c n : Nat) : Prop := w'.cell? ⟨bx, 0, none⟩ = some (Value.pointer (some ⟨b, 0, none⟩)) ∧ w'.cell? ⟨b, 1, none⟩ = some (.int .i64 m) ∧ w'.cell? ⟨b, 2, none⟩ = some (.int .i64 c) ∧ w'.cell? ⟨b, 3, none⟩ = some (.int .i64 n) ∧ w'.cell? ⟨b, 4, none⟩ = some (Value.slice (some ⟨g, 0, none⟩) m m)
theorem keepS {w w' : World} {bx b g m c n : Nat} (h : w'.heap[b]? = w.heap[b]?) (h2 : w'.heap[bx]? = w.heap[bx]?) (hS : QS w bx b g m c n) : QS w' bx b g m c n := by
  simp only [QS, World.cell?, h, h2] at hS ⊢
  exact hS

/-- what was handed out ahead of the outer round number k -/
def preK (ring : List UInt8) (f X Y k : Nat) : List UInt8 := if k = 0 then [] else if k = 1 then (ring.take X).drop f else (ring.take X).drop f ++ ring.take Y
end Go.Proofs.Ytpmdeoiajnfabaa

/- The contract of (*queue.Queue).Bits. -/
namespace Go.Proofs.Ytpmdeoiajnfabaa
open Go.RowKit Go.Shelf
set_option linter.unusedVariables false
attribute [local go_sem] Oper.semAt_some

/-- what Bits leaves: new memory with the bytes -/
def Told (w w' : World) (e : Ending) (zs : List UInt8) (at_ : Nat) : Prop := ∃ v, e = .returned (.tuple #[v, .int .i64 at_]) ∧ w'.ownsRow w.heap.size 5 1 v zs.length (u8s zs) ∧ Below w.heap.size w w'

end Go.Proofs.Ytpmdeoiajnfabaa
