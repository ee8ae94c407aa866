/- strings.FieldsSeq: its func handed over, and what it hands to a round, for a text of ASCII letters gone through beforehand. -/
import Derived.Test.YtbcfiafgolcbpaaGreatDoorFind
import Derived.Lib.Space
namespace Go.Proofs.YtbcfiafgolcbpaaGreatDoor
open Go.RowKit Go.Shelf
set_option linter.unusedVariables false
attribute [local go_sem] Oper.semAt_some

/-- what the library's table of white space holds -/
def Spc (w : World) : Prop := ∀ c, c < 256 → w.cell? ⟨1, c, none⟩ = some (.int .u8 (if Lib.isSp (UInt8.ofNat c) then 1 else 0))
theorem Spc.below {w w' : World} (h : Spc w) (hb : Below w.heap.size w w') : Spc w' := fun c hc =>
  (hb.cell (p := ⟨1, c, none⟩) (World.block_lt_of_cell? w _ (h c hc))).trans (h c hc)

/-- a text's letters gone through: its fields between white space are those of F, N many -/
def scanL (F : Nat → ByteArray) (N : Nat) (s : ByteArray) : List UInt8 → Nat → Nat → Option Nat → Bool
  | [], i, c, st =>
    match st with
    | none => c == N
    | some a => decide (s.extract a i = F c) && c + 1 == N
  | b :: l, i, c, st => decide (b.toNat < 128) && (if Lib.isSp b = true then
      match st with
      | none => scanL F N s l (i + 1) c none
      | some a => decide (c < N) && decide (s.extract a i = F c) && scanL F N s l (i + 1) (c + 1) none
    else scanL F N s l (i + 1) c (some (st.getD i)))

theorem fieldsSeq_in (F : Fence) (n : Nat) (hf : F.fn 133) (hro : F.round = none) (s : ByteArray) (w : World) :
    CallsIn F n Tryz.prog 133 #[.string s] w fun e w' => e = .returned (.func (.func 144) #[] #[.pointer (some ⟨w.heap.size, 0, none⟩)]) ∧ w' = w.alloc (.cells #[.string s] 9) := by
  refine callsIn_of_wp Tryz.func133 rfl hf ?_ hro
  simp only [Tryz.ntmps133, List.size_toArray, List.length_cons, List.length_nil, Nat.reduceAdd, Nat.reduceSub, Array.replicate_succ, Array.replicate_zero, List.push_toArray, List.append_toArray, List.nil_append, List.cons_append]
  gi_wp2
  go_ret
  exact ⟨rfl, rfl⟩

/-- what FieldsSeq hands to a round -/
abbrev encF (F : Nat → ByteArray) (k : Nat) : Array Value := #[.string (F k)]
def startI : Option Nat → Int
  | none => -1
  | some a => a

set_option maxRecDepth 100000 in
set_option maxHeartbeats 4000000 in
theorem fields1_in (n : Nat) (hn : 1 ≤ n) (l m bb : Nat) (s : ByteArray) (F : Nat → ByteArray) (N : Nat) (hsc : scanL F N s s.data.toList 0 0 none = true) (hsz : s.size ≤ 1000000) (hgm : 1 < m) (J Jx : Nat → World → Prop)
    (hY : ∀ x W, J x W → x < N → YieldAt Fence.wide (n - 1) Tryz.prog l (encF F x) W fun e W' =>
      (e = .returned (.bool true) ∧ J (x + 1) W' ∧ KpB m bb bb W W') ∨ (e = .returned (.bool false) ∧ Jx x W'))
    (W : World) (hbb : W.cell? ⟨bb, 0, none⟩ = some (.string s)) (hS : Spc W) (h0 : J 0 W) :
    CallsIn Fence.wide n Tryz.prog 144 #[.func (.yield l) #[] #[], .pointer (some ⟨bb, 0, none⟩)] W fun e W' => (∃ v, e = .returned v) ∧
      (J N W' ∨ (∃ k, k < N ∧ Jx k W')) := by
  have HSp := Lib.hid (fun c hc wr (hb : Below m W wr) => (hb.cell (p := ⟨1, c, none⟩) hgm).trans (hS c hc))
  clear hS
  refine callsIn_of_wp Tryz.func144 rfl trivial ?_ rfl
  simp only [Tryz.ntmps144, List.size_toArray, List.length_cons, List.length_nil, Nat.reduceAdd, Nat.reduceSub, Array.replicate_succ, Array.replicate_zero, List.push_toArray, List.append_toArray, List.nil_append, List.cons_append]
  gi_wp2
  gi_loopw [3, 4, 5, 6, 7] (fun st p _ _ _ wr => ∃ (k c : Nat) (a : Option Nat), k ≤ s.size ∧ p = .int .i64 k ∧ st = .int .i64 (startI a) ∧ (∀ x, a = some x → x ≤ k) ∧ scanL F N s (s.data.toList.drop k) k c a = true ∧ J c wr ∧ KpB m bb bb W wr)
    (fun _ p _ _ _ _ => s.size - (intOf p).toNat)
  case atStart => exact ⟨0, 0, none, Nat.zero_le _, rfl, rfl, (fun x h => by cases h), hsc, h0, KpB.rfl⟩
  case round =>
    obtain ⟨k, c, a, hk, rfl, rfl, hax, hscan, hJs, hK⟩ := hrel
    have hbb' := hK.2.1.trans hbb
    by_cases hlt : k < s.size
    · have hL : s.data.toList.drop k = s[k] :: s.data.toList.drop (k + 1) := List.drop_eq_getElem_cons (by simpa using hlt)
      rw [hL] at hscan
      unfold scanL at hscan
      rw [Bool.and_eq_true, decide_eq_true_eq] at hscan
      obtain ⟨h128, hscan⟩ := hscan
      have hcell := HSp.out s[k].toNat (by omega) wr hK.1
      rw [UInt8.ofNat_toNat] at hcell
      have h128i : (s[k].toNat : Int) < 128 := by omega
      have hc0 : (0 : Int) ≤ (s[k].toNat : Int) := by omega
      have hix : ((s[k].toNat : Int)).toNat = s[k].toNat := by omega
      have HX := Lib.hid hax
      clear hL hax
      cases hsp : Lib.isSp s[k] with
      | true =>
        rw [hsp] at hcell
        rw [hsp, if_pos rfl] at hscan
        rw [if_pos rfl] at hcell
        cases a with
        | none =>
          have HSc := Lib.hid hscan
          clear hscan hsp
          simp only [startI]
          gi_wp2
          go_roundw
          case rel => exact ⟨k + 1, c, none, by omega, by go_num, rfl, (fun x h => by cases h), HSc.out, hJs, hK⟩
          case measure => simp [intOf]; omega
        | some a =>
          simp only [Bool.and_eq_true, decide_eq_true_eq] at hscan
          obtain ⟨⟨hcN, hF⟩, hscan⟩ := hscan
          have ha := HX.out a rfl
          have HSc := Lib.hid hscan
          obtain ⟨fn, tmps, assign, body, hy, hR⟩ := hY c wr hJs hcN
          simp only [encF] at hy
          rw [← hF] at hy
          clear hscan hsp hF
          simp only [startI]
          gi_wp2
          refine hR.mono ?_
          rintro e W3 (⟨rfl, hJ3, hk3⟩ | ⟨rfl, hJx3⟩)
          · gi_wp2
            go_roundw
            case rel => exact ⟨k + 1, c + 1, none, by omega, by go_num, rfl, (fun x h => by cases h), HSc.out, hJ3, hK.t hk3⟩
            case measure => simp [intOf]; omega
          · gi_wp2
            refine bodyPost_ret (results_none rfl _ _ _) rfl ?_
            exact ⟨⟨_, rfl⟩, .inr ⟨c, hcN, hJx3⟩⟩
      | false =>
        rw [hsp] at hcell
        rw [hsp, if_neg (by decide)] at hscan
        rw [if_neg (by decide)] at hcell
        cases a with
        | none =>
          have HSc := Lib.hid hscan
          clear hscan hsp
          simp only [startI]
          gi_wp2
          go_roundw
          case rel => exact ⟨k + 1, c, some k, by omega, by go_num, rfl, (fun x h => by cases h; omega), HSc.out, hJs, hK⟩
          case measure => simp [intOf]; omega
        | some a =>
          have ha := HX.out a rfl
          have HSc := Lib.hid hscan
          clear hscan hsp
          simp only [startI]
          gi_wp2
          go_roundw
          case rel => exact ⟨k + 1, c, some a, by omega, by go_num, rfl, (fun x h => by cases h; omega), HSc.out, hJs, hK⟩
          case measure => simp [intOf]; omega
    · obtain rfl : k = s.size := by omega
      rw [show s.data.toList.drop s.size = [] from List.drop_eq_nil_of_le (by simp)] at hscan
      unfold scanL at hscan
      cases a with
      | none =>
        obtain rfl : c = N := by simpa using hscan
        simp only [startI]
        gi_wp2
        go_end0
        exact ⟨⟨_, rfl⟩, .inl hJs⟩
      | some a =>
        simp only [Bool.and_eq_true, decide_eq_true_eq, beq_iff_eq] at hscan
        obtain ⟨hF, hcN⟩ := hscan
        have ha := hax a rfl
        obtain ⟨fn, tmps, assign, body, hy, hR⟩ := hY c wr hJs (by omega)
        simp only [encF] at hy
        rw [← hF] at hy
        clear hF
        simp only [startI]
        gi_wp2
        refine hR.mono ?_
        rintro e W3 (⟨rfl, hJ3, hk3⟩ | ⟨rfl, hJx3⟩)
        · gi_wp2
          go_end0
          exact ⟨⟨_, rfl⟩, .inl (hcN ▸ hJ3)⟩
        · gi_wp2
          go_end0
          exact ⟨⟨_, rfl⟩, .inr ⟨c, by omega, hJx3⟩⟩

theorem fields_stops (n : Nat) (hn : 1 ≤ n) (m bb : Nat) (s : ByteArray) (F : Nat → ByteArray) (N : Nat) (hsc : scanL F N s s.data.toList 0 0 none = true) (hsz : s.size ≤ 1000000) (hgm : 1 < m) (w : World) (hm : m ≤ w.heap.size) (hbb : bb < w.heap.size) (hcb : w.cell? ⟨bb, 0, none⟩ = some (.string s)) (hS : Spc w) :
    SeqStopsK Fence.wide n Tryz.prog 144 #[.pointer (some ⟨bb, 0, none⟩)] (encF F) (KpB m bb bb) (fun ys => ys = List.range N) (fun pre => ∃ k, k < N ∧ pre = List.range (k + 1)) N w := fun l J Jx W hW _ _ hY h0 =>
  (fields1_in n hn l m bb s F N hsc hsz hgm (fun c W => J (List.range c) W) (fun c W => Jx (List.range (c + 1)) W)
    (fun x W hj hx => by
      have h := hY (List.range x) x W hj (by simpa using hx)
      rw [← List.range_succ] at h
      exact h)
    W ((hW.cell (p := ⟨bb, 0, none⟩) hbb).trans hcb) (hS.below hW) h0).mono fun e W' ⟨h1, h2⟩ => ⟨h1, h2.elim (fun h => .inl ⟨_, rfl, h⟩) (fun ⟨k, hk, h⟩ => .inr ⟨_, ⟨k, hk, rfl⟩, h⟩)⟩

end Go.Proofs.YtbcfiafgolcbpaaGreatDoor
