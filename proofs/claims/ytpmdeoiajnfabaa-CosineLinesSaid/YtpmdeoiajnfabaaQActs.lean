/- Contracts of the law's own small functions (feeds, has, three, awake) and of the law QueueKnown. The contract of the law QueueNew: it returns true, and nothing that lay is changed. Acts of a queue as the laws take them: how they lie in memory; the contract of Long. Append of bytes, from whatever slice of bytes (nil and empty ones too), to a row that the call owns: what comes out, and where it lies. The contract of the law QueueRead: it returns true, and nothing that lay is changed. The reference's queue (praxinoscoperef02.Queue): what it holds; contracts of its New, Free, Left, Skip, End. The reference's queue, more: contracts of its Feed and Bits. -/
import Derived.Test.YtpmdeoiajnfabaaQueue
import Derived.Test.YtpmdeoiajnfabaaRow
import Derived.Test.YtpmdeoiajnfabaaRead
import Derived.Deep.Slices
import Derived.Deep.Fields
import Derived.ChangeSame
import Derived.Lib.SmallJoins
import Derived.Laws.OwnMore
import Derived.Deep.RegionLaw
/- Contracts of the law's own small functions (feeds, has, three, awake) and of the law QueueKnown. -/
namespace Go.Proofs.Ytpmdeoiajnfabaa
open Go.RowKit Go.Shelf
set_option linter.unusedVariables false

theorem bytA_new (w : World) (zs : List UInt8) (cs : Array Value) (h : cs = (zs.map fun z => Value.int .u8 z.toNat).toArray) (hl : zs.length ≤ 1152921504606846975) (g : Nat) (hg : g < w.heap.size) (t : TypeId) :
    BytA (w.alloc (.cells cs t)) g (.slice (some ⟨w.heap.size, 0, none⟩) zs.length zs.length) zs := by
  refine ⟨_, _, rfl, Nat.le_refl _, Nat.le_trans hl (by decide), .inr ⟨_, _, rfl, fun _ => ⟨by omega, by simp⟩, fun j hj => ?_⟩⟩
  subst h
  simp [hj, go_sem]
theorem bytA_nil (w : World) (g : Nat) : BytA w g (.slice none 0 0) [] := ⟨_, 0, rfl, Nat.le_refl _, by omega, .inl rfl⟩
theorem byt_nil (w : World) : Byt w.heap.size w (.slice none 0 0) [] := ⟨none, 0, rfl, by simp, .inl rfl⟩

theorem skipQ_ok {q : Qs} {n : Nat} (h : n ≤ 8 * q.all.length - q.gone) : skipE q n = 0 ∧ skipQ q n = { q with gone := q.gone + n } := by
  have : ¬ ((n : Int) < 0 ∨ ((8 * q.all.length - q.gone : Nat) : Int) < (n : Int)) := by omega
  rw [skipE, skipQ, if_neg this, if_neg this, Int.toNat_natCast]
  exact ⟨rfl, rfl⟩

def q1 : Qs := ⟨3, [1, 2, 3], 0, false⟩
def q2 : Qs := ⟨3, [1, 2, 3], 12, false⟩
def q3 : Qs := ⟨3, [1, 2, 3, 9], 12, false⟩
def q4 : Qs := ⟨3, [1, 2, 3, 9], 32, false⟩
def q5 : Qs := ⟨3, [1, 2, 3, 9], 32, true⟩

end Go.Proofs.Ytpmdeoiajnfabaa

/- The contract of the law QueueNew: it returns true, and nothing that lay is changed. -/
namespace Go.Proofs.Ytpmdeoiajnfabaa
open Go.RowKit Go.Shelf
set_option linter.unusedVariables false

/-- bytes that came in, with their block -/
def Row8 (n₀ : Nat) (w : World) (a : Option Addr) (len cap : Nat) (zs : List UInt8) : Prop :=
  zs.length = len ∧ len ≤ cap ∧ cap ≤ 9223372036854775807 ∧ (cap = 0 ∨ ∃ b off, a = some ⟨b, off, none⟩ ∧ b < n₀ ∧ ∀ j, j < len → w.cell? ⟨b, off + j, none⟩ = some (.int .u8 ((zs[j]?.getD 0).toNat)))
theorem row8_of_row {w : World} {a : Option Addr} {len cap : Nat} {z : List Int} (h : IsRow .u8 w a len cap z) : ∃ zs, Row8 w.heap.size w a len cap zs := by
  rcases h with ⟨rfl, rfl, rfl, rfl⟩ | ⟨x, rfl, hlc, hm, hz, hc, hw⟩
  · exact ⟨[], rfl, Nat.le_refl _, by omega, .inl rfl⟩
  · have hlen : ((z.take len).map fun n => UInt8.ofNat n.toNat).length = len := by simp; omega
    refine ⟨(z.take len).map fun n => UInt8.ofNat n.toNat, hlen, hlc, by unfold maxLen at hm; omega, ?_⟩
    by_cases h0 : cap = 0
    · exact .inl h0
    · right
      obtain ⟨b, off, spot⟩ := x
      have hc0 := hc 0 (by omega)
      have hspot : spot = none := by simpa [Addr.add] using World.cell?_spot hc0
      subst hspot
      refine ⟨b, off, rfl, by simpa [Addr.add] using cell_lt hc0, fun j hj => ?_⟩
      have hcj := hc j (by omega)
      have hadd : (⟨b, off, none⟩ : Addr).add j = ⟨b, off + j, none⟩ := by unfold Addr.add; split <;> simp_all
      rw [hadd] at hcj
      rw [hcj]
      have hm : z[j]'(by omega) ∈ z := List.getElem_mem _
      have hb := wf_u8 (hw _ hm)
      have e1 : z.getD j 0 = z[j]'(by omega) := by simp [List.getD_eq_getElem?_getD, show j < z.length by omega]
      rw [e1]
      have e2 : (((z.take len).map fun n => UInt8.ofNat n.toNat)[j]?.getD 0) = UInt8.ofNat (z[j]'(by omega)).toNat := by
        simp [hj, show j < z.length by omega]
      rw [e2, UInt8.toNat_ofNat', Nat.mod_eq_of_lt (by simp; omega)]
      congr 2
      omega
theorem Row8.later {n₀ : Nat} {w w' : World} {a : Option Addr} {len cap : Nat} {zs : List UInt8} (h : Row8 n₀ w a len cap zs) (hb : Below n₀ w w') : Row8 n₀ w' a len cap zs := by
  obtain ⟨h1, h2, h3, h4⟩ := h
  refine ⟨h1, h2, h3, h4.imp id fun ⟨b, off, e, hlt, hc⟩ => ⟨b, off, e, hlt, fun j hj => ?_⟩⟩
  exact (hb.cell (p := ⟨b, off + j, none⟩) hlt).trans (hc j hj)
theorem Row8.bytA {n₀ g : Nat} {w : World} {a : Option Addr} {len cap : Nat} {zs : List UInt8} (h : Row8 n₀ w a len cap zs) (hn : n₀ ≤ w.heap.size) (hg : n₀ ≤ g) : BytA w g (.slice a len cap) zs := by
  obtain ⟨rfl, h2, h3, h4⟩ := h
  exact ⟨a, cap, rfl, h2, h3, h4.imp id fun ⟨b, off, e, hlt, hc⟩ => ⟨b, off, e, fun _ => ⟨by omega, by omega⟩, hc⟩⟩
theorem Row8.byt {n₀ k : Nat} {w : World} {a : Option Addr} {len cap : Nat} {zs : List UInt8} (h : Row8 n₀ w a len cap zs) (hn : n₀ ≤ w.heap.size) (hk : k ≤ len) (hl : k ≤ 1152921504606846975) : Byt w.heap.size w (.slice a k cap) (zs.take k) := by
  obtain ⟨rfl, h2, h3, h4⟩ := h
  have e : (zs.take k).length = k := by simp; omega
  refine ⟨a, cap, by rw [e], by rw [e]; exact hl, ?_⟩
  rcases h4 with rfl | ⟨b, off, rfl, hlt, hc⟩
  · left; exact List.eq_nil_of_length_eq_zero (by omega)
  · right
    refine ⟨b, off, rfl, by omega, fun j hj => ?_⟩
    rw [e] at hj
    rw [hc j (by omega), List.getElem?_take, if_pos hj]

theorem new_fed (A ys : List UInt8) (m : Nat) : fedL ⟨m, A, 8 * A.length, false⟩ ys = ys.take m := by
  simp only [fedL, Bool.false_eq_true, if_false]
  congr 1
  omega
theorem new_feedQ (A ys : List UInt8) (m : Nat) : feedQ ⟨m, A, 8 * A.length, false⟩ ys = ⟨m, A ++ ys.take m, 8 * A.length, false⟩ := by
  rw [feedQ, new_fed]
theorem new_drop (A ys : List UInt8) (m n : Nat) (h : n = min m ys.length) : ys.take n = (A ++ ys.take m).drop (8 * A.length / 8) := by
  rw [show 8 * A.length / 8 = A.length by omega, List.drop_left, h]
  apply List.ext_getElem?
  intro i
  simp only [List.getElem?_take]
  by_cases h1 : i < m
  · by_cases h2 : i < ys.length
    · rw [if_pos (by omega), if_pos h1]
    · rw [if_neg (by omega), if_pos h1, List.getElem?_eq_none (by omega)]
  · rw [if_neg (by omega), if_neg h1]

end Go.Proofs.Ytpmdeoiajnfabaa

/- Acts of a queue as the laws take them: how they lie in memory; the contract of Long. -/
namespace Go.Proofs.Ytpmdeoiajnfabaa
open Go.RowKit Go.Shelf
set_option linter.unusedVariables false

structure QAct where
  kind : Int
  n : Int
  a : Option Addr
  len : Nat
  cap : Nat
  zs : List UInt8
def QAct.cell (x : QAct) : Nat → Value
  | 0 => .int .i64 x.kind
  | 1 => .int .i64 x.n
  | _ => .slice x.a x.len x.cap
instance : Inhabited QAct := ⟨⟨0, 0, none, 0, 0, []⟩⟩
/-- an act as it may be: what an int holds, what a slice holds -/
def QAct.ok (x : QAct) (n₀ : Nat) (w : World) : Prop := (-9223372036854775808 ≤ x.kind ∧ x.kind ≤ 9223372036854775807) ∧ (-9223372036854775808 ≤ x.n ∧ x.n ≤ 9223372036854775807) ∧ Row8 n₀ w x.a x.len x.cap x.zs

/-- the slice value sv holds the acts xs, in a block below n₀ -/
def IsQActs (n₀ : Nat) (w : World) (sv : Value) (xs : List QAct) : Prop :=
  ∃ a cap, sv = .slice a xs.length cap ∧ xs.length ≤ 9223372036854775807 ∧ (∀ x ∈ xs, x.ok n₀ w) ∧
    (xs = [] ∨ ∃ b off, a = some ⟨b, off, none⟩ ∧ b < n₀ ∧ ∀ i, i < xs.length → ∀ j, j < 3 → w.cell? ⟨b, off + i * 3 + j, none⟩ = some ((xs[i]?.getD default).cell j))
theorem QAct.ok.below {x : QAct} {n₀ : Nat} {A B : World} (h : x.ok n₀ A) (hb : Below n₀ A B) : x.ok n₀ B := ⟨h.1, h.2.1, h.2.2.later hb⟩
theorem IsQActs.below {n₀ : Nat} {A B : World} (h : Below n₀ A B) {sv : Value} {xs : List QAct} : IsQActs n₀ A sv xs → IsQActs n₀ B sv xs
  | ⟨a, cap, e, hl, ho, .inl z⟩ => ⟨a, cap, e, hl, fun x hx => (ho x hx).below h, .inl z⟩
  | ⟨a, cap, e, hl, ho, .inr ⟨b, off, ea, hb, hc⟩⟩ => ⟨a, cap, e, hl, fun x hx => (ho x hx).below h, .inr ⟨b, off, ea, hb, fun i hi j hj => (h.cell (p := ⟨b, off + i * 3 + j, none⟩) hb).trans (hc i hi j hj)⟩⟩

/-- more than the laws go through? -/
def qlongB (xs : List QAct) : Bool := (xs.take 61).any (fun x => decide (100 < x.len)) || decide (60 < xs.length)

theorem qany_take_false {xs : List QAct} {i : Nat} (h : (xs.take i).any (fun x => decide (100 < x.len)) = false) (hi : i < xs.length) :
    (xs.take (i + 1)).any (fun x => decide (100 < x.len)) = decide (100 < (xs[i]?.getD default).len) := by
  rw [List.take_add_one, List.any_append, h, Bool.false_or, List.getElem?_eq_getElem hi]
  simp
theorem qany_take_mono {xs : List QAct} {i j : Nat} (h : (xs.take i).any (fun x => decide (100 < x.len)) = true) (hij : i ≤ j) : (xs.take j).any (fun x => decide (100 < x.len)) = true := by
  rw [List.any_eq_true] at h ⊢
  obtain ⟨x, hx, hp⟩ := h
  exact ⟨x, (List.take_subset_take_left xs hij) hx, hp⟩
theorem qlong_false {xs : List QAct} (h : qlongB xs = false) : xs.length ≤ 60 ∧ ∀ x ∈ xs, x.len ≤ 100 := by
  simp only [qlongB, Bool.or_eq_false_iff, decide_eq_false_iff_not] at h
  refine ⟨by omega, fun x hx => ?_⟩
  have h1 := h.1
  rw [List.take_of_length_le (by omega), List.any_eq_false] at h1
  simpa using h1 x hx

end Go.Proofs.Ytpmdeoiajnfabaa

/- Append of bytes, from whatever slice of bytes (nil and empty ones too), to a row that the call owns: what comes out, and where it lies. -/
namespace Go.Proofs.Ytpmdeoiajnfabaa
open Go.RowKit Go.Shelf
set_option linter.unusedVariables false

/-- the source of an append: m cells from an address on, or none at all -/
def Src (w : World) (A : Option Addr) (m : Nat) (news : List Value) : Prop := news.length = m ∧ (m = 0 ∨ ∃ ad, A = some ad ∧ ∀ j u, news[j]? = some u → w.cell? (ad.add j) = some u)
theorem Src.at_ {w : World} {ad : Addr} {m : Nat} {news : List Value} (h : Src w (some ad) m news) : ∀ j u, news[j]? = some u → w.cell? (ad.add j) = some u := by
  rcases h.2 with h0 | ⟨ad', e, hc⟩
  · intro j u hu
    have := List.eq_nil_of_length_eq_zero (h.1.trans h0)
    subst this
    simp at hu
  · cases e; exact hc
theorem Src.alloc {w : World} {A : Option Addr} {m : Nat} {news : List Value} (h : Src w A m news) (o : Obj) : Src (w.alloc o) A m news := by
  refine ⟨h.1, h.2.imp id fun ⟨ad, e, hc⟩ => ⟨ad, e, fun j u hu => ?_⟩⟩
  have := hc j u hu
  exact (World.cell?_of_block (Below.heap_alloc _ _ _ (World.block_lt_of_cell? w _ this))).trans this
/-- what an append of bytes leaves -/
def Appended (w w' : World) (base : Nat) (v v' : Value) (n : Nat) (xs : List Value) : Prop :=
  w'.ownsRow base 5 1 v' n xs ∧ w.grownBy w' v.ownBlock ∧ ∀ k, v'.ownBlock = some k → v.ownBlock = some k ∨ w.heap.size ≤ k

end Go.Proofs.Ytpmdeoiajnfabaa

/- The contract of the law QueueRead: it returns true, and nothing that lay is changed. -/
namespace Go.Proofs.Ytpmdeoiajnfabaa
open Go.RowKit Go.Shelf
set_option linter.unusedVariables false

theorem rem_bt (zs : List UInt8) (k : Nat) : (wrap64 (((zs[k / 8]?.getD 0).toNat : Int) / 2 ^ (7 - k % 8))).tmod 2 = (bt zs k : Int) := by
  have hb : (zs[k / 8]?.getD 0).toNat < 256 := UInt8.toNat_lt _
  have e : (((zs[k / 8]?.getD 0).toNat : Int) / 2 ^ (7 - k % 8)) = (((zs[k / 8]?.getD 0).toNat / 2 ^ (7 - k % 8) : Nat) : Int) := by
    rw [Int.natCast_ediv]; simp
  have hle : (zs[k / 8]?.getD 0).toNat / 2 ^ (7 - k % 8) ≤ (zs[k / 8]?.getD 0).toNat := Nat.div_le_self _ _
  rw [e]
  unfold bt
  rw [List.getD_eq_getElem?_getD]
  generalize (zs[k / 8]?.getD 0).toNat / 2 ^ (7 - k % 8) = q at *
  rw [IntWalk.wrap64_in _ ⟨by omega, by omega⟩, Int.tmod_eq_emod_of_nonneg (by omega)]
  omega
theorem bt_drop (zs : List UInt8) (G k : Nat) : bt (zs.drop (G / 8)) (G % 8 + k) = bt zs (G + k) := by
  unfold bt
  rw [show (G + k) % 8 = (G % 8 + k) % 8 by omega, List.getD_eq_getElem?_getD, List.getD_eq_getElem?_getD, List.getElem?_drop, show G / 8 + (G % 8 + k) / 8 = (G + k) / 8 by omega]

theorem Row8.src {n₀ : Nat} {w : World} {a : Option Addr} {len cap : Nat} {zs : List UInt8} (h : Row8 n₀ w a len cap zs) {n : Nat} (hn : n ≤ len) : Src w a n (u8s (zs.take n)) := by
  obtain ⟨h1, h2, h3, h4⟩ := h
  refine ⟨by simp; omega, ?_⟩
  rcases h4 with rfl | ⟨b, off, rfl, hlt, hc⟩
  · left; omega
  · right
    refine ⟨_, rfl, fun j u hu => ?_⟩
    have hadd : (⟨b, off, none⟩ : Addr).add j = ⟨b, off + j, none⟩ := by unfold Addr.add; split <;> simp_all
    have hj : j < n := by
      false_or_by_contra
      rw [List.getElem?_eq_none (by simp; omega)] at hu
      cases hu
    rw [hadd, hc j (by omega)]
    simp only [u8s, List.getElem?_map, List.getElem?_take, if_pos hj] at hu
    rw [List.getElem?_eq_getElem (by omega)] at hu ⊢
    simpa using hu
theorem Row8.nocap {n₀ : Nat} {w : World} {a : Option Addr} {len cap : Nat} {zs : List UInt8} (h : Row8 n₀ w a len cap zs) : a = none → cap = 0 := by
  rcases h.2.2.2 with h | ⟨b, off, rfl, _⟩
  · exact fun _ => h
  · exact fun e => by cases e

theorem row_form {w : World} {base n : Nat} {e : TypeId} {v : Value} {xs : List Value} (h : w.ownsRow base e 1 v n xs) : ∃ av cap, v = .slice av n cap := by
  rcases h.2 with ⟨rfl, rfl⟩ | ⟨g, cap, cur, rfl, _⟩
  · exact ⟨_, _, rfl⟩
  · exact ⟨_, _, rfl⟩

theorem ownsRow_bar {S : Nat → Prop} {w w' : World} {base n : Nat} {e : TypeId} {v : Value} {xs : List Value} (h : w.ownsRow base e 1 v n xs) (hb : Bar S w w') (hS : ∀ k, v.ownBlock = some k → ¬ S k) : w'.ownsRow base e 1 v n xs := by
  have hlt := h.lt
  refine ⟨h.1, ?_⟩
  rcases h.2 with hn | ⟨g', cap, cur, rfl, hbb, hg, rest⟩
  · exact .inl hn
  · exact .inr ⟨g', cap, cur, rfl, hbb, (hb.block g' (hlt g' rfl).2 (hS g' rfl)).trans hg, rest⟩
end Go.Proofs.Ytpmdeoiajnfabaa

/- The reference's queue (praxinoscoperef02.Queue): what it holds; contracts of its New, Free, Left, Skip, End. -/
namespace Go.Proofs.Ytpmdeoiajnfabaa
open Go.RowKit Go.Shelf
set_option linter.unusedVariables false
theorem ownsRow_set {w : World} {base n b i : Nat} {e : TypeId} {v u : Value} {xs : List Value} (h : w.ownsRow base e 1 v n xs) (hb : v.ownBlock ≠ some b) : (w.setCell ⟨b, i, none⟩ u).ownsRow base e 1 v n xs :=
  ownsRow_bar h ((Bar.refl (fun k => k = b) w).setCell (fun _ => rfl) u) (fun k e1 e2 => hb (by rw [e1, e2]))

theorem below_drewN (n : Nat) (w : World) (k : Nat) : Below n w (w.drewN k) := ⟨rfl, rfl, rfl, Nat.le_refl _, fun _ _ => rfl⟩

end Go.Proofs.Ytpmdeoiajnfabaa

/- The reference's queue, more: contracts of its Feed and Bits. -/
namespace Go.Proofs.Ytpmdeoiajnfabaa
open Go.RowKit Go.Shelf
set_option linter.unusedVariables false

theorem Appended.undrew {w w' : World} {base n : Nat} {v v' : Value} {xs : List Value} (h : Appended w.drew w' base v v' n xs) : Appended w w' base v v' n xs :=
  ⟨h.1, ⟨h.2.1.os, h.2.1.tape, h.2.1.output, h.2.1.size, h.2.1.block⟩, h.2.2⟩
theorem Src.drew {w : World} {A : Option Addr} {m : Nat} {news : List Value} (h : Src w A m news) : Src w.drew A m news := h

theorem feedQ_ok {q : Qs} (ho : q.ok) (zs : List UInt8) (hfit : q.all.length + zs.length ≤ 1099511627776) : (feedQ q zs).ok := by
  have hl : (fedL q zs).length ≤ zs.length ∧ (fedL q zs).length ≤ q.most - (q.all.length - q.gone / 8) := by
    unfold fedL
    split
    · simp
    · simp; omega
  have h1 := ho.gone
  have h2 := ho.held
  refine ⟨ho.1, ho.2, ?_, ?_, ?_⟩ <;> (simp only [feedQ, List.length_append]; omega)

theorem bar_alloc_row {w w2 : World} {o : Obj} {n : Nat} {v' : Value} {xs : List Value} (h : Appended ((w.drew).alloc o) w2 w.heap.size (.slice (some ⟨w.heap.size, 0, none⟩) 0 0) v' n xs) : Below w.heap.size w w2 := by
  obtain ⟨h1, h2, h3⟩ := h
  have hs : w.heap.size ≤ (w.drew.alloc o).heap.size := by simp
  have := ((Below.refl w.heap.size w.drew).alloc (Nat.le_refl _) o).grown h2 hs (fun k e => by simp [Value.ownBlock] at e; omega)
  exact below_undrew this
theorem own_empty (w : World) (t : TypeId) : (w.alloc (.cells #[] t (0, 0))).ownsRow w.heap.size t 1 (.slice (some ⟨w.heap.size, 0, none⟩) 0 0) 0 [] :=
  World.ownsRow_made w #[] 0 (Nat.le_refl _) (by unfold maxLen; omega) rfl

end Go.Proofs.Ytpmdeoiajnfabaa
