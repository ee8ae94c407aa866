/- Append to a row that the call owns: the law of the library, and besides: the row that comes out lies in the old block, or in a new one. Bits packed into bytes; what a pen holds; the contract of (*bits.Pen).push. Contracts of bits.NewPen and of a pen's methods made, room, Len, Put. Texts of bits: strings.ContainsFunc at bits.isNoBit; the contract of (*bits.Pen).Code. Contracts of slices.Clone at bytes, of (*bits.Pen).Bytes, of the kit's SameBytes and OverBytes. -/
import Derived.WalkKit
import Derived.Test.YtenplmmongphoaaRows
import Derived.Test.YtenplmmongphoaaFind
import Derived.Laws.BitsAllLaws
import Derived.BigRegion
import Derived.Deep.QuietTactic
import Derived.BigQuiet
import Derived.StillTailTactics
import Derived.LaidEqlPtr
import Derived.Lib.OthersKept
import Derived.Laws.RangeAny
import Derived.Deep.LoopGhost
import Derived.Laws.BytesArg
import Derived.Lib.LazyBuf
/- Append to a row that the call owns: the law of the library, and besides: the row that comes out lies in the old block, or in a new one. Bits packed into bytes; what a pen holds; the contract of (*bits.Pen).push. -/
/- Append to a row that the call owns: the law of the library, and besides: the row that comes out lies in the old block, or in a new one. -/
namespace Go.Proofs.Ytenplmmongphoaa
open Go.RowKit

theorem append_where {P : Program} (w : World) (t ty e : TypeId) (i : TypeInfo) (z : Value) (size bytes : Nat) (ht : P.underlying t = some (.slice e)) (hi : P.info? e = some i) (hz : i.zero = some z)
    (hsize : i.size = size) (hby : i.bytes = bytes) (hzs : z.cells.size = size) (hsz : 0 < size) (base : Nat) (v : Value) (n : Nat) (xs : List Value) (hown : w.ownsRow base e size v n xs)
    (a : Addr) (m c : Nat) (news : List Value) (hl : news.length = m * size) (hnews : ∀ j u, news[j]? = some u → w.cell? (a.add j) = some u) (h1 : ∀ u ∈ news, u.oneCell' = true)
    (h63 : n + m ≤ maxLen) (hbytes : (n + m) * bytes ≤ 140737488355328) {v' : Value} {w' : World} (hrun : (Builtin.append_ #[t, t] ty #[v, .slice (some a) m c]).run P w = .ok v' w') :
    ∀ k, v'.ownBlock = some k → v.ownBlock = some k ∨ w.heap.size ≤ k := by
  intro k hk
  rcases hown.2 with ⟨rfl, rfl⟩ | ⟨g, cap, cur, rfl, _, hg, hnc, _, hcs, _⟩
  · obtain ⟨v2, w2, h2, ho, _⟩ := run_append_own (P := P) w w.heap.size t ty e i z size bytes ht hi hz hsize hby hzs hsz _ 0 [] (World.ownsRow_nil _ _ _ _) a m c news hl hnews h1 h63 hbytes (Nat.le_refl _)
    have e2 : v2 = v' := by have := h2.symm.trans hrun; simp at this; exact this.1
    subst e2
    exact .inr (ho.lt k hk).1
  · subst hsize hby
    by_cases hroom : n + m ≤ cap
    · have hr := run_append_room (P := P) w t ty e i ht hi g n cap cur hg a m c news hl hnews h1 hroom (by rw [hl, hcs, ← Nat.add_mul]; exact Nat.mul_le_mul_right _ hroom)
      have e2 := hr.symm.trans hrun
      simp only [Result.ok.injEq] at e2
      rw [← e2.1] at hk
      exact .inl (by simpa [Value.ownBlock] using hk)
    · have hr := run_append_grow (P := P) w t ty e i z ht hi hz ⟨g, 0, none⟩ n cap xs hown.1 (hown.cells (g := g) rfl) a m c news hl hnews (by omega) (by simp only [maxLen] at h63; omega) (growslice_fits (by omega) hbytes)
      have e2 := hr.symm.trans hrun
      simp only [Result.ok.injEq] at e2
      rw [← e2.1] at hk
      simp [Value.ownBlock] at hk
      exact .inr (by omega)

theorem wpList_append_where {P : Program} (w : World) {ops : Array Oper} {rest : List Oper} {o : Oper} {a : Act} {Q : Exit → Act → World → Prop} (hgd : o.guard = none) (s x : Operand) (t : TypeId)
    (ho : o.op = .call { callee := .builtin .append, args := #[s, x], argTypes := #[t, t] })
    (base : Nat) (e : TypeId) (i : TypeInfo) (z : Value) (size bytes : Nat) (ht : P.underlying t = some (.slice e)) (hi : P.info? e = some i) (hz : i.zero = some z)
    (hsize : i.size = size) (hby : i.bytes = bytes) (hzs : z.cells.size = size) (hsz : 0 < size) (v : Value) (n : Nat) (xs : List Value) (hs : a.eval s = v) (hown : w.ownsRow base e size v n xs)
    (ad : Addr) (m c : Nat) (news : List Value) (hx : a.eval x = .slice (some ad) m c) (hl : news.length = m * size) (hnews : ∀ j u, news[j]? = some u → w.cell? (ad.add j) = some u) (h1 : ∀ u ∈ news, u.oneCell' = true)
    (h63 : n + m ≤ maxLen) (hbytes : (n + m) * bytes ≤ 140737488355328) (hbase : base ≤ w.heap.size)
    (h : ∀ v' w', w'.ownsRow base e size v' (n + m) (xs ++ news) → w.grownBy w' v.ownBlock → (∀ k, v'.ownBlock = some k → v.ownBlock = some k ∨ w.heap.size ≤ k) → wpList P ops Q rest (a.put o.dst v') w') : wpList P ops Q (o :: rest) a w := by
  obtain ⟨v', w', hr, h2, h3, _⟩ := run_append_own (P := P) w base t o.type e i z size bytes ht hi hz hsize hby hzs hsz v n xs hown ad m c news hl hnews h1 h63 hbytes hbase
  have h4 := append_where w t o.type e i z size bytes ht hi hz hsize hby hzs hsz base v n xs hown ad m c news hl hnews h1 h63 hbytes hr
  refine wpList_plain hgd fun K hK => ?_
  unfold Oper.wp execOp
  simp only [ho, resolve, invoke, builtin, Sem.run_bind, Sem.run_pure, Result.andThen_ok, List.map_toArray, List.map_cons, List.map_nil, hs, hx, hr]
  exact hK _ _ (h v' w' h2 h3 h4)

end Go.Proofs.Ytenplmmongphoaa

/- Bits packed into bytes; what a pen holds; the contract of (*bits.Pen).push. -/
namespace Go.Proofs.Ytenplmmongphoaa
open Go.RowKit Go.Shelf
set_option linter.unusedVariables false

/-! ### bits in bytes -/
theorem bt_testBit (zs : List UInt8) (i : Nat) : bt zs i = ((zs.getD (i / 8) 0).toNat.testBit (7 - i % 8)).toNat := by
  unfold bt
  rw [Nat.testBit_eq_decide_div_mod_eq]
  have : (zs.getD (i / 8) 0).toNat / 2 ^ (7 - i % 8) % 2 < 2 := Nat.mod_lt _ (by omega)
  generalize (zs.getD (i / 8) 0).toNat / 2 ^ (7 - i % 8) % 2 = q at *
  obtain rfl | rfl : q = 0 ∨ q = 1 := by omega
  · rfl
  · rfl

/-- the bytes zs hold the bits L, and noughts behind them -/
def Packed (zs : List UInt8) (L : List Bool) : Prop := zs.length = (L.length + 7) / 8 ∧ ∀ i, i < zs.length * 8 → bt zs i = (L.getD i false).toNat
theorem packed_nil : Packed [] [] := ⟨rfl, fun i h => by simp at h⟩
theorem bytes_ext {xs ys : List UInt8} (hl : xs.length = ys.length) (h : ∀ i, i < xs.length * 8 → bt xs i = bt ys i) : xs = ys := by
  apply List.ext_getElem hl
  intro j h1 h2
  apply UInt8.toNat_inj.1
  apply Nat.eq_of_testBit_eq
  intro t
  by_cases ht : t < 8
  · have e := h (8 * j + (7 - t)) (by omega)
    rw [bt_testBit, bt_testBit, show (8 * j + (7 - t)) / 8 = j by omega, show 7 - (8 * j + (7 - t)) % 8 = t by omega] at e
    simp only [List.getD_eq_getElem?_getD, List.getElem?_eq_getElem h1, List.getElem?_eq_getElem h2, Option.getD_some] at e
    cases hx : xs[j].toNat.testBit t <;> cases hy : ys[j].toNat.testBit t <;> simp_all
  · have b1 : xs[j].toNat < 2 ^ t := Nat.lt_of_lt_of_le (UInt8.toNat_lt _) (Nat.pow_le_pow_right (by omega) (by omega))
    have b2 : ys[j].toNat < 2 ^ t := Nat.lt_of_lt_of_le (UInt8.toNat_lt _) (Nat.pow_le_pow_right (by omega) (by omega))
    rw [Nat.testBit_lt_two_pow b1, Nat.testBit_lt_two_pow b2]
theorem Packed.unique {xs ys : List UInt8} {L : List Bool} (h : Packed xs L) (k : Packed ys L) : xs = ys :=
  bytes_ext (h.1.trans k.1.symm) fun i hi => (h.2 i hi).trans (k.2 i (by have := h.1; have := k.1; omega)).symm

/-- a bit laid into the last byte -/
def lay (z : UInt8) (b : Bool) (c : Nat) : UInt8 := z ||| UInt8.ofNat (b.toNat * 2 ^ (7 - c % 8))
theorem lay_bits (z : UInt8) (b : Bool) (c t : Nat) (ht : t < 8) : (lay z b c).toNat.testBit t = (z.toNat.testBit t || (b && decide (t = 7 - c % 8))) := by
  have hp : b.toNat * 2 ^ (7 - c % 8) < 256 := by
    have : 2 ^ (7 - c % 8) ≤ 2 ^ 7 := Nat.pow_le_pow_right (by omega) (by omega)
    cases b <;> simp <;> omega
  unfold lay
  rw [UInt8.toNat_or, UInt8.toNat_ofNat', Nat.mod_eq_of_lt (by simpa using hp), Nat.testBit_or]
  congr 1
  cases b
  · simp
  · simp [Nat.testBit_two_pow]
    exact eq_comm
theorem packed_push {zs : List UInt8} {L : List Bool} (h : Packed zs L) (b : Bool) :
    Packed ((if L.length % 8 = 0 then zs ++ [0] else zs).set (L.length / 8) (lay ((if L.length % 8 = 0 then zs ++ [0] else zs).getD (L.length / 8) 0) b L.length)) (L ++ [b]) := by
  obtain ⟨hl, hb⟩ := h
  have key : ∀ ys : List UInt8, ys.length = L.length / 8 + 1 → (∀ i, i < ys.length * 8 → bt ys i = (L.getD i false).toNat) → Packed (ys.set (L.length / 8) (lay (ys.getD (L.length / 8) 0) b L.length)) (L ++ [b]) := by
    intro ys hy hys
    refine ⟨by simp; omega, fun i hi => ?_⟩
    simp only [List.length_set] at hi
    have h0 := hys i hi
    rw [bt_testBit] at h0 ⊢
    by_cases hj : i / 8 = L.length / 8
    · rw [hj] at h0 ⊢
      rw [show (ys.set (L.length / 8) (lay (ys.getD (L.length / 8) 0) b L.length)).getD (L.length / 8) 0 = lay (ys.getD (L.length / 8) 0) b L.length by
        rw [List.getD_eq_getElem?_getD, List.getElem?_set_self (by omega)]; rfl, lay_bits _ _ _ _ (by omega)]
      by_cases hi2 : i = L.length
      · subst hi2
        rw [show (L ++ [b]).getD L.length false = b by simp [List.getD_eq_getElem?_getD]]
        have : (L.getD L.length false) = false := by simp [List.getD_eq_getElem?_getD]
        rw [this] at h0
        cases hq : (ys.getD (L.length / 8) 0).toNat.testBit (7 - L.length % 8)
        · simp
        · rw [hq] at h0; simp at h0
      · have : decide (7 - i % 8 = 7 - L.length % 8) = false := by simp; omega
        rw [this, Bool.and_false, Bool.or_false, h0]
        congr 1
        by_cases hlt : i < L.length
        · simp [List.getD_eq_getElem?_getD, List.getElem?_append_left hlt]
        · simp only [List.getD_eq_getElem?_getD]
          rw [List.getElem?_eq_none (by omega), List.getElem?_eq_none (by simp; omega)]
    · rw [show (ys.set (L.length / 8) (lay (ys.getD (L.length / 8) 0) b L.length)).getD (i / 8) 0 = ys.getD (i / 8) 0 by
        rw [List.getD_eq_getElem?_getD, List.getElem?_set_ne (by omega), List.getD_eq_getElem?_getD], h0]
      congr 1
      by_cases hlt : i < L.length
      · simp [List.getD_eq_getElem?_getD, List.getElem?_append_left hlt]
      · omega
  by_cases h8 : L.length % 8 = 0
  · rw [if_pos h8]
    refine key _ (by simp; omega) fun i hi => ?_
    by_cases hz : i < zs.length * 8
    · rw [← hb i hz]; unfold bt
      simp only [List.getD_eq_getElem?_getD]
      rw [List.getElem?_append_left (by omega)]
    · simp at hi
      unfold bt
      simp only [List.getD_eq_getElem?_getD]
      rw [show i / 8 = zs.length by omega, List.getElem?_append_right (by omega), List.getElem?_eq_none (l := L) (by omega)]
      simp
  · rw [if_neg h8]
    exact key _ (by omega) hb

/-! ### the world: what is kept but for some blocks -/
structure Bar (S : Nat → Prop) (w w' : World) : Prop where
  os : w'.os = w.os
  tape : w'.tape = w.tape
  output : w'.output = w.output
  size : w.heap.size ≤ w'.heap.size
  block : ∀ k, k < w.heap.size → ¬ S k → w'.heap[k]? = w.heap[k]?
theorem Bar.refl (S : Nat → Prop) (w : World) : Bar S w w := ⟨rfl, rfl, rfl, Nat.le_refl _, fun _ _ _ => rfl⟩
theorem Bar.trans {S T : Nat → Prop} {a b c : World} (h : Bar S a b) (k : Bar T b c) (hst : ∀ j, j < a.heap.size → T j → S j) : Bar S a c :=
  ⟨k.os.trans h.os, k.tape.trans h.tape, k.output.trans h.output, Nat.le_trans h.size k.size, fun j hj hn => (k.block j (Nat.lt_of_lt_of_le hj h.size) (fun t => hn (hst j hj t))).trans (h.block j hj hn)⟩
theorem Bar.wide {S T : Nat → Prop} {W W' : World} (h : Bar S W W') (hs : ∀ j, S j → T j) : Bar T W W' := ⟨h.os, h.tape, h.output, h.size, fun k hk hn => h.block k hk (fun e => hn (hs k e))⟩
theorem Bar.below {S : Nat → Prop} {w w' : World} {B : Nat} (h : Bar S w w') (hB : B ≤ w.heap.size) (hS : ∀ k, k < B → ¬ S k) : Below B w w' :=
  ⟨h.os, h.tape, h.output, h.size, fun k hk => h.block k (by omega) (hS k hk)⟩
theorem bar_of_below {S : Nat → Prop} {w w' : World} (h : Below w.heap.size w w') : Bar S w w' := ⟨h.os, h.tape, h.output, h.size, fun k hk _ => h.block k hk⟩
theorem bar_of_grown {S : Nat → Prop} {w w' : World} {row : Option Nat} (h : w.grownBy w' row) (hr : ∀ k, row = some k → S k) : Bar S w w' :=
  ⟨h.os, h.tape, h.output, h.size, fun k hk hn => h.block k hk (fun e => hn (hr k e.symm))⟩
theorem Bar.setCell {S : Nat → Prop} {a w : World} (h : Bar S a w) {p : Addr} (hp : p.block < a.heap.size → S p.block) (u : Value) : Bar S a (w.setCell p u) :=
  h.trans (T := fun k => k = p.block) ⟨rfl, rfl, rfl, by simp [World.setCell], fun k hk hn => Below.heap_setCell _ _ _ _ hn⟩ (fun j hj e => by subst e; exact hp hj)
theorem Bar.drew {S : Nat → Prop} {a w : World} (h : Bar S a w) : Bar S a w.drew := ⟨h.os, h.tape, h.output, h.size, h.block⟩
theorem Bar.alloc {S : Nat → Prop} {a w : World} (h : Bar S a w) (o : Obj) : Bar S a (w.alloc o) :=
  h.trans (T := fun _ => False) ⟨rfl, rfl, rfl, by simp, fun k hk _ => Below.heap_alloc _ _ _ hk⟩ (fun _ _ e => e.elim)

/-- the cells of a pen, of its bytes -/
abbrev u8s (zs : List UInt8) : List Value := zs.map fun z => Value.int .u8 z.toNat
theorem Try.info5 : (Try.prog.info? 5).map (fun i => (i.zero, i.size, i.bytes)) = some (some (.int .u8 0), 1, 1) := by kernel_rfl
theorem lay_eq (z : UInt8) (x : Bool) (c : Nat) : bits .or .u8 (z.toNat : Int) (wrap64 ((x.toNat : Int) * 2 ^ (7 - c % 8)) % 256) = ((lay z x c).toNat : Int) := by
  have hz := UInt8.toNat_lt z
  have hp : x.toNat * 2 ^ (7 - c % 8) < 256 := by
    have : 2 ^ (7 - c % 8) ≤ 2 ^ 7 := Nat.pow_le_pow_right (by omega) (by omega)
    cases x <;> simp <;> omega
  have e : ((x.toNat : Int) * 2 ^ (7 - c % 8)) = ((x.toNat * 2 ^ (7 - c % 8) : Nat) : Int) := by simp
  rw [e]
  unfold lay
  generalize x.toNat * 2 ^ (7 - c % 8) = q at *
  rw [IntWalk.wrap64_in _ ⟨by omega, by omega⟩, show (q : Int) % 256 = (q : Int) by omega, u8_or_nat _ _ hz hp, UInt8.toNat_or, UInt8.toNat_ofNat', Nat.mod_eq_of_lt (by simpa using hp)]

theorem row_cell {W : World} {gr cap n : Nat} {zs : List UInt8} {t : TypeId} (hr : W.ownsRow 0 t 1 (.slice (some ⟨gr, 0, none⟩) zs.length cap) zs.length (u8s zs)) (hn : n < zs.length) :
    W.cell? ⟨gr, n, none⟩ = some (.int .u8 ((zs.getD n 0).toNat)) ∧ W.frozen? ⟨gr, n, none⟩ = false := by
  refine ⟨?_, hr.frozenAt n⟩
  rw [hr.cellAt n (by omega)]
  simp [hn]

end Go.Proofs.Ytenplmmongphoaa

/- Contracts of bits.NewPen and of a pen's methods made, room, Len, Put. Texts of bits: strings.ContainsFunc at bits.isNoBit; the contract of (*bits.Pen).Code. Contracts of slices.Clone at bytes, of (*bits.Pen).Bytes, of the kit's SameBytes and OverBytes. -/
/- Contracts of bits.NewPen and of a pen's methods made, room, Len, Put. -/
namespace Go.Proofs.Ytenplmmongphoaa
open Go.RowKit Go.Shelf
set_option linter.unusedVariables false
/-- the bits of a number -/
def numBits (n k : Nat) : List Bool := (List.range k).map fun i => decide (n / 2 ^ (k - 1 - i) % 2 = 1)
def putE (L : List Bool) (n k : Int) : Int :=
  if k < 0 ∨ 32 < k ∨ n < 0 ∨ n / 2 ^ k.toNat ≠ 0 then 3 else if 16777216 - (L.length : Int) < k then 4 else 0
def putL (L : List Bool) (n k : Int) : List Bool := if putE L n k = 0 then L ++ numBits n.toNat k.toNat else L

theorem numBits_take (n k j : Nat) (hj : j < k) : (numBits n k).take (j + 1) = (numBits n k).take j ++ [decide (n / 2 ^ (k - 1 - j) % 2 = 1)] := by
  rw [List.take_add_one]
  simp [numBits, hj]
theorem toNat_decide (m : Nat) : ((m : Int) % 2) = ((decide (m % 2 = 1)).toNat : Int) := by
  by_cases h : m % 2 = 1
  · simp [h]; omega
  · simp [h]; omega

end Go.Proofs.Ytenplmmongphoaa

/- Texts of bits: strings.ContainsFunc at bits.isNoBit; the contract of (*bits.Pen).Code. -/
namespace Go.Proofs.Ytenplmmongphoaa
open Go.RowKit Go.Shelf
set_option linter.unusedVariables false

def noBit (r : Int) : Bool := !(r == 48) && !(r == 49)
/-- nothing but noughts and ones -/
def AllBits (s : ByteArray) : Prop := ∀ i (h : i < s.size), s[i] = 48 ∨ s[i] = 49
/-- the rune at a place -/
theorem rune_at (s : ByteArray) (i : Nat) (h : i < s.size) : noBit ((Utf8.decode s i).1 : Nat) = !(s[i] == 48 || s[i] == 49) ∧ ((s[i] = 48 ∨ s[i] = 49) → Utf8.decode s i = (s[i].toNat, 1)) := by
  by_cases ha : s[i].toNat < 128
  · rw [decode_ascii s i h ha]
    refine ⟨?_, fun _ => rfl⟩
    have e1 : ((s[i].toNat : Int) == 48) = (s[i] == 48) := by
      rw [Bool.eq_iff_iff]; simp only [beq_iff_eq]; rw [← UInt8.toNat_inj]
      show _ ↔ s[i].toNat = 48; omega
    have e2 : ((s[i].toNat : Int) == 49) = (s[i] == 49) := by
      rw [Bool.eq_iff_iff]; simp only [beq_iff_eq]; rw [← UInt8.toNat_inj]
      show _ ↔ s[i].toNat = 49; omega
    simp [noBit, e1, e2]
  · have hd := (decode_high s i h (by omega)).1
    have n1 : s[i] ≠ 48 := fun e => by rw [e] at ha; exact ha (by decide)
    have n2 : s[i] ≠ 49 := fun e => by rw [e] at ha; exact ha (by decide)
    refine ⟨?_, fun h => by rcases h with h | h <;> contradiction⟩
    have e1 : (((Utf8.decode s i).1 : Int) == 48) = false := by simp; omega
    have e2 : (((Utf8.decode s i).1 : Int) == 49) = false := by simp; omega
    have e3 : (s[i] == 48) = false := by simpa using n1
    have e4 : (s[i] == 49) = false := by simpa using n2
    unfold noBit
    rw [e1, e2, e3, e4]
    rfl

theorem first_bad (s : ByteArray) (h : ¬ AllBits s) : ∃ k, ∃ hk : k < s.size, (∀ i (h : i < s.size), i < k → s[i] = 48 ∨ s[i] = 49) ∧ ¬ (s[k] = 48 ∨ s[k] = 49) := by
  have key : ∀ n, n ≤ s.size → (∀ i (h : i < s.size), i < n → s[i] = 48 ∨ s[i] = 49) ∨ ∃ k, ∃ hk : k < s.size, (∀ i (h : i < s.size), i < k → s[i] = 48 ∨ s[i] = 49) ∧ ¬ (s[k] = 48 ∨ s[k] = 49) := by
    intro n
    induction n with
    | zero => intro _; exact .inl fun i _ h => by omega
    | succ n ih =>
      intro hn
      rcases ih (by omega) with h1 | h1
      · by_cases hb : s[n] = 48 ∨ s[n] = 49
        · refine .inl fun i hi hlt => ?_
          by_cases e : i = n
          · subst e; exact hb
          · exact h1 i hi (by omega)
        · exact .inr ⟨n, by omega, h1, hb⟩
      · exact .inr h1
  rcases key s.size (Nat.le_refl _) with h1 | h1
  · exact absurd (fun i hi => h1 i hi hi) h
  · exact h1

/-- the bits that a text spells -/
def textBits (s : ByteArray) : List Bool := s.data.toList.map (· == 49)
theorem textBits_len (s : ByteArray) : (textBits s).length = s.size := by simp [textBits]
theorem textBits_take (s : ByteArray) (i : Nat) (h : i < s.size) : (textBits s).take (i + 1) = (textBits s).take i ++ [s[i] == 49] := by
  rw [List.take_add_one, List.getElem?_eq_getElem (by rw [textBits_len]; exact h)]
  simp [textBits]
  rfl
def allB (s : ByteArray) : Bool := s.data.toList.all fun z => z == 48 || z == 49
theorem allB_iff (s : ByteArray) : allB s = true ↔ AllBits s := by
  unfold allB AllBits
  rw [List.all_eq_true]
  constructor
  · intro h i hi
    have := h s[i] (by rw [Array.mem_toList_iff]; exact Array.getElem_mem _)
    simpa using this
  · intro h z hz
    rw [Array.mem_toList_iff] at hz
    obtain ⟨i, hi, rfl⟩ := Array.mem_iff_getElem.1 hz
    have hb : s.data[i] = 48 ∨ s.data[i] = 49 := h i hi
    simpa using hb
def codeE (L : List Bool) (s : ByteArray) : Int := if allB s then (if 16777216 - (L.length : Int) < s.size then 4 else 0) else 14
def codeL (L : List Bool) (s : ByteArray) : List Bool := if codeE L s = 0 then L ++ textBits s else L

theorem bar_iterAt (w : World) (k : Nat) (s : ByteArray) (pos : Nat) : Bar (fun j => j = k) w (w.iterAt k s pos) :=
  ⟨rfl, rfl, rfl, by rw [Lib.iterAt_size]; exact Nat.le_refl _, fun j _ hn => Lib.iterAt_other w k j s pos hn⟩

end Go.Proofs.Ytenplmmongphoaa

/- Contracts of slices.Clone at bytes, of (*bits.Pen).Bytes, of the kit's SameBytes and OverBytes. -/
namespace Go.Proofs.Ytenplmmongphoaa
open Go.RowKit Go.Shelf
set_option linter.unusedVariables false

theorem byt_own {w : World} {base n₀ : Nat} {v : Value} {zs : List UInt8} (h : w.ownsRow base 5 1 v zs.length (u8s zs)) (hl : zs.length ≤ 1152921504606846975) (hn : w.heap.size ≤ n₀) : Byt n₀ w v zs := by
  rcases id h.2 with ⟨rfl, hz⟩ | ⟨g, cap, cur, rfl, _, hg, _⟩
  · have : zs = [] := List.eq_nil_of_length_eq_zero hz
    subst this
    exact ⟨none, 0, rfl, hl, .inl rfl⟩
  · refine ⟨_, cap, rfl, hl, .inr ⟨g, 0, rfl, Nat.lt_of_lt_of_le (Array.getElem?_eq_some_iff.1 hg).1 hn, fun j hj => ?_⟩⟩
    have := h.cellAt j (by omega)
    simp only [Nat.zero_add]
    rw [this]
    simp [hj]

theorem conv_byt {n₀ : Nat} {w : World} {sv : Value} {zs : List UInt8} (hB : Byt n₀ w sv zs) : (convert 22 9 sv).run Try.prog w = .ok (.string ⟨zs.toArray⟩) w := by
  obtain ⟨a, cap, rfl, hl, hz⟩ := hB
  rcases hz with rfl | ⟨b, off, rfl, _, hc⟩
  · cases a with
    | none => exact run_convert_bytes_nil w 22 5 Try.underlying22 Try.underlying5 0 cap 9 Try.underlying9
    | some x =>
      rw [run_convert_bytes_string w 22 9 5 _ _ _ Try.underlying22 Try.underlying5 Try.underlying9]
      have := run_bytesToString (P := Try.prog) w x 0 cap [] (by simp [loadCells, loadCellsFrom])
      simp only [List.foldl_nil] at this
      exact this
  · have h := run_convert_bytes_arg (P := Try.prog) w 22 5 Try.underlying22 Try.underlying5 b off zs.length cap (zs.map fun z => (z.toNat : Int)) (by simp)
      (fun i hi => by rw [hc i hi]; simp [hi]) 9 Try.underlying9
    rw [h]
    simp [strOfNums, Function.comp_def]

set_option maxHeartbeats 400000 in
theorem same_any {n₀ n₁ : Nat} {w : World} {u v : Value} {xs ys : List UInt8} (h1 : Byt n₀ w u xs) (h2 : Byt n₁ w v ys) :
    Calls Try.prog 16 #[u, v] w fun e w' => e = .returned (.bool (decide (xs = ys))) ∧ w = w' := by
  have c1 := conv_byt h1
  have c2 := conv_byt h2
  clear h1 h2
  go_enter Try.func16, Try.ntmps16
  go_wp2
  go_ret
  exact ⟨ret_bool (by by_cases h : xs = ys <;> simp [h]), rfl⟩

def Cloned (w w' : World) (e : Ending) (zs : List UInt8) : Prop := ∃ v, e = .returned v ∧ w'.ownsRow w.heap.size 5 1 v zs.length (u8s zs) ∧ Below w.heap.size w w'

end Go.Proofs.Ytenplmmongphoaa
