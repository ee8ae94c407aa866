/- The contract of the iterator of a queue's bytes ((*queue.Queue).fromFirst). -/
import Derived.Test.YtglnmaekhpaffaaQFeed
namespace Go.Proofs.Ytglnmaekhpaffaa
open Go.RowKit Go.Shelf
set_option linter.unusedVariables false
attribute [local go_sem] Oper.semAt_some

/-- what the closure of fromFirst hands to a round -/
abbrev encU (z : UInt8) : Array Value := #[.int .u8 z.toNat]

theorem from_in (F : Fence) (n : Nat) (hf : F.fn 62) (hro : F.round = none) (b : Nat) (w : World) :
    CallsIn F n Try.prog 62 #[.pointer (some ⟨b, 0, none⟩)] w fun e w' => e = .returned (.func (.func 69) #[] #[.pointer (some ⟨w.heap.size, 0, none⟩)]) ∧
      w' = w.alloc (.cells #[.pointer (some ⟨b, 0, none⟩)] 42) := by
  refine callsIn_of_wp Try.func62 rfl hf ?_ hro
  simp only [Try.ntmps62, List.size_toArray, List.length_cons, List.length_nil, Nat.reduceAdd, Nat.reduceSub, Array.replicate_succ, Array.replicate_zero, List.push_toArray, List.append_toArray, List.nil_append, List.cons_append]
  gi_wp2
  go_ret
  exact ⟨rfl, rfl⟩

/-- the facts that the iterator's regions read -/
abbrev QS (w' : World) (bx b g m c n : Nat) : Prop := w'.cell? ⟨bx, 0, none⟩ = some (Value.pointer (some ⟨b, 0, none⟩)) ∧ w'.cell? ⟨b, 1, none⟩ = some (.int .i64 m) ∧ w'.cell? ⟨b, 2, none⟩ = some (.int .i64 c) ∧ w'.cell? ⟨b, 3, none⟩ = some (.int .i64 n) ∧ w'.cell? ⟨b, 4, none⟩ = some (Value.slice (some ⟨g, 0, none⟩) m m)
theorem keepS {w w' : World} {bx b g m c n : Nat} (h : w'.heap[b]? = w.heap[b]?) (h2 : w'.heap[bx]? = w.heap[bx]?) (hS : QS w bx b g m c n) : QS w' bx b g m c n := by
  simp only [QS, World.cell?, h, h2] at hS ⊢
  exact hS

theorem run_index0 (x y : Value) (w : World) : (Instr.index 92 (.agg #[x, y]) (.int .i64 0)).run Try.prog w = .ok x w := by kernel_rfl
theorem run_index1 (x y : Value) (w : World) : (Instr.index 92 (.agg #[x, y]) (.int .i64 1)).run Try.prog w = .ok y w := by kernel_rfl

/-- what was handed out ahead of the outer round number k -/
def preK (ring : List UInt8) (f X Y k : Nat) : List UInt8 := if k = 0 then [] else if k = 1 then (ring.take X).drop f else (ring.take X).drop f ++ ring.take Y
/-- what the outer round number k goes through -/
theorem run_of {ring : List UInt8} {f X Y M g k : Nat} (hl : ring.length = M) (hf : f ≤ X) (hX : X ≤ M) (hY : Y ≤ M) (hk : k < 2) :
    ∃ (o L C : Nat) (run : List UInt8), (∀ w, (Instr.index 92 (.agg #[.slice (some ⟨g, f, none⟩) (X - f) (M - f), .slice (some ⟨g, 0, none⟩) Y M]) (.int .i64 k)).run Try.prog w = .ok (.slice (some ⟨g, o, none⟩) L C) w) ∧
      run.length = L ∧ L ≤ M ∧ (∀ j, j < L → (u8s ring)[o + j]? = some (.int .u8 ((run[j]?.getD 0).toNat))) ∧ preK ring f X Y k ++ run = preK ring f X Y (k + 1) := by
  obtain rfl | rfl : k = 0 ∨ k = 1 := by omega
  · refine ⟨f, X - f, M - f, (ring.take X).drop f, fun w => run_index0 _ _ w, by simp; omega, by omega, fun j hj => ?_, by simp [preK]⟩
    simp only [u8s, List.getElem?_map, List.getElem?_drop, List.getElem?_take]
    rw [if_pos (by omega), List.getElem?_eq_getElem (by omega)]
    rfl
  · refine ⟨0, Y, M, ring.take Y, fun w => run_index1 _ _ w, by simp; omega, by omega, fun j hj => ?_, by simp [preK]⟩
    simp only [u8s, List.getElem?_map, List.getElem?_take]
    rw [if_pos (by omega), Nat.zero_add, List.getElem?_eq_getElem (by omega)]
    rfl

set_option maxRecDepth 100000 in
set_option maxHeartbeats 4000000 in
theorem from1_in (n : Nat) (hn : 1 ≤ n) (l m bx b g : Nat) (q : Qs) (hb : b < m) (hg : g < m) (hmx : m ≤ bx) (J Jx : List UInt8 → World → Prop)
    (hY : ∀ pre x W, J pre W → pre.length < q.all.length - q.gone / 8 → YieldAt Fence.wide (n - 1) Try.prog l (encU x) W fun e W' =>
      (e = .returned (.bool true) ∧ J (pre ++ [x]) W' ∧ KpB m bx bx W W') ∨ (e = .returned (.bool false) ∧ Jx (pre ++ [x]) W'))
    (W : World) (hJ : ∀ s A B, J s A → Below A.heap.size A B → J s B) (hbx : W.cell? ⟨bx, 0, none⟩ = some (.pointer (some ⟨b, 0, none⟩))) (hq : IsQueue W b g q) (h0 : J [] W) :
    CallsIn Fence.wide n Try.prog 69 #[.func (.yield l) #[] #[], .pointer (some ⟨bx, 0, none⟩)] W fun e W' => (∃ v, e = .returned v) ∧
      ((∃ ys, ys = q.all.drop (q.gone / 8) ∧ J ys W') ∨ (∃ pre, True ∧ Jx pre W')) := by
  have hlt := hq.lt
  have hxl : bx < W.heap.size := by
    false_or_by_contra
    have : W.heap[bx]? = none := Array.getElem?_eq_none (by omega)
    simp [World.cell?, this] at hbx
  have H := Lib.hid hq
  obtain ⟨ho, hbg, hb', ring, hr, hgr⟩ := hq
  obtain ⟨c0, c1, c2, c3, c4, c5⟩ := q_cells hb'
  have hRuns := ring_runs ho hr
  have hrl := hr.1
  have h1 := ho.len
  have h2 := ho.gone
  have h3 := ho.held
  have h4 := ho.m2
  have h5 := ho.m1
  have HF := Lib.hid (fun w' => first_any q.most q.all.length q.gone w' (by omega) h5 h4)
  have HH := Lib.hid (fun w' => held_any q.most q.all.length q.gone w' h1 h2)
  have hfl : q.gone / 8 % q.most < q.most := Nat.mod_lt _ (by omega)
  generalize q.gone / 8 % q.most = f at *
  generalize hhd : q.all.length - q.gone / 8 = hd at *
  obtain ⟨E, hE⟩ : ∃ E, E = f + hd := ⟨_, rfl⟩
  rw [← hE] at hRuns
  have hs1 : IntKind.i64.wrap ((f : Int) + (hd : Int)) = (E : Int) := (IntWalk.i64_in _ (by omega)).trans (by omega)
  have hE1 : f ≤ E := by omega
  have hE2 : E ≤ f + q.most := by omega
  have HE := Lib.hid hE
  clear hE
  have hY' := Lib.hid hY
  have hJ' := Lib.hid hJ
  have HRuns := Lib.hid hRuns
  have Hhd := Lib.hid hhd
  have Hrl := Lib.hid hrl
  have Hr := Lib.hid hr
  have Hgr := Lib.hid hgr
  clear hY hJ hRuns hhd hrl hr hgr hb' ho
  have HS1 : Hid (∀ w', Below W.drew.heap.size W.drew w' → QS w' bx b g q.most q.all.length q.gone) := fun w' hb => keepS (hb.block b hlt.1) (hb.block bx hxl) ⟨hbx, c1, c2, c3, c4⟩
  refine callsIn_of_wp Try.func69 rfl trivial ?_ rfl
  simp only [Try.ntmps69, List.size_toArray, List.length_cons, List.length_nil, Nat.reduceAdd, Nat.reduceSub, Array.replicate_succ, Array.replicate_zero, List.push_toArray, List.append_toArray, List.nil_append, List.cons_append]
  refine wpIn_wide.2 ?_
  go_wp2_with fail
  go_region_held3 (fun w' => w'.cell? ⟨bx, 0, none⟩ = some (Value.pointer (some ⟨b, 0, none⟩)) ∧ w'.cell? ⟨b, 1, none⟩ = some (.int .i64 q.most) ∧ w'.cell? ⟨b, 2, none⟩ = some (.int .i64 q.all.length) ∧ w'.cell? ⟨b, 3, none⟩ = some (.int .i64 q.gone) ∧ w'.cell? ⟨b, 4, none⟩ = some (Value.slice (some ⟨g, 0, none⟩) q.most q.most))
    (first | go_keep | exact HS1.out _ b1 | exact HS1.out _ b2)
    (first
     | (go_at_call 70; refine (HF.out _).mono ?_; rintro e w1 ⟨rfl, b1⟩)
     | (go_at_call 61; refine (HH.out _).mono ?_; rintro e w2 ⟨rfl, b2⟩; replace b2 := below_chain b1 (Nat.le_refl _) b2))
  rename_i hHeld
  obtain ⟨s0, s1, s2, s3, s4⟩ := hHeld
  clear hs1 c0 c1 c2 c3 c4 c5
  have HS2 : Hid (∀ w', Below w2.drew.heap.size w2.drew w' → QS w' bx b g q.most q.all.length q.gone) := fun w' hb => HS1.out w' (below_chain b2 (Nat.le_refl _) (below_undrew hb))
  have i0 : (0 : Int) ≤ (f : Int) := by omega
  have i1 : (f : Int) ≤ (E : Int) := by omega
  have i2 : (f : Int) < (q.most : Int) := by omega
  have i3 : ¬ (q.most = f) := by omega
  have i4 : (0 : Int) ≤ (E : Int) := by omega
  have i5 : (0 : Int) ≤ (q.most : Int) := by omega
  have i6 : (f : Int) ≤ (q.most : Int) := by omega
  obtain ⟨X, hX⟩ : ∃ X, X = min E q.most := ⟨_, rfl⟩
  obtain ⟨Y, hY⟩ : ∃ Y, Y = E - q.most := ⟨_, rfl⟩
  have m1 : (if q.most < E then (q.most : Int) else (E : Int)) = (X : Int) := by split <;> omega
  have m2 : (0 : Int) ≤ (X : Int) := by omega
  have m3 : (f : Int) ≤ (X : Int) := by omega
  have m4 : (X : Int) ≤ (q.most : Int) := by omega
  have m5 : X ≤ q.most := by omega
  have m6 : f ≤ X := by omega
  have m7 : Y ≤ q.most := by omega
  have m8 : (Y : Int) ≤ (q.most : Int) := by omega
  have m9 : (0 : Int) ≤ (Y : Int) := by omega
  have MX := Lib.hid hX
  have MY := Lib.hid hY
  clear hX hY
  go_wp2_with fail
  go_region_held3 (fun w' => w'.cell? ⟨bx, 0, none⟩ = some (Value.pointer (some ⟨b, 0, none⟩)) ∧ w'.cell? ⟨b, 1, none⟩ = some (.int .i64 q.most) ∧ w'.cell? ⟨b, 2, none⟩ = some (.int .i64 q.all.length) ∧ w'.cell? ⟨b, 3, none⟩ = some (.int .i64 q.gone) ∧ w'.cell? ⟨b, 4, none⟩ = some (Value.slice (some ⟨g, 0, none⟩) q.most q.most))
    (first | go_keep | exact HS2.out _ b3)
    (first
     | (go_at_call 70; refine (HF.out _).mono ?_; rintro e w3 ⟨rfl, b3⟩))
  all_goals
    rename_i hHeld
    obtain ⟨r0, r1, r2, r3, r4⟩ := hHeld
    obtain ⟨Z, hZ⟩ : ∃ Z : Int, Z = (E : Int) - (q.most : Int) := ⟨_, rfl⟩
    have k1 : IntKind.i64.wrap ((E : Int) - (q.most : Int)) = Z := (IntWalk.i64_in _ (by omega)).trans (by omega)
    have k2 : (if Z < 0 then (0 : Int) else Z) = (Y : Int) := by have := MY.out; split <;> omega
    have HZ := Lib.hid hZ
    clear hZ
    go_wp2_with fail
    go_quiet (fail)
    clear k1 k2 m1
    have hW3 : Below W.heap.size W (w3.drewN nq) := (below_undrew (below_chain b2 (Nat.le_refl _) (below_undrew b3))).trans ⟨rfl, rfl, rfl, Nat.le_refl _, fun _ _ => rfl⟩
    have hJ3 := hJ'.out _ _ _ h0 hW3
    have hK3 : KpB m bx bx W (w3.drewN nq) := ⟨hW3.mono (by omega), hW3.cell (p := ⟨bx, 0, none⟩) hxl, hW3.cell (p := ⟨bx, 0, none⟩) hxl⟩
    have HJ3 := Lib.hid hJ3
    have HK3 := Lib.hid hK3
    clear hJ3 hK3 r0 r1 r2 r3 r4 s0 s1 s2 s3 s4
    go_wp2_with fail
    refine (wpIn_wide (n := n)).1 ?_
    gi_loopw [54] (fun p wr => ∃ k : Nat, k ≤ 2 ∧ p = .int .i64 k ∧ J (preK ring f X Y k) wr ∧ KpB m bx bx W wr)
      (fun p _ => 2 - (intOf p).toNat)
    case atStart => exact ⟨0, by omega, rfl, by simpa [preK] using HJ3.out, HK3.out⟩
    case round =>
      obtain ⟨k, hk, rfl, hJs, hK⟩ := hrel
      have HJs := Lib.hid hJs
      have HK := Lib.hid hK
      clear hJs hK
      by_cases hk2 : k < 2
      · obtain ⟨o, L, C, run, hidx, hrun, hL, hcells, hpre⟩ := run_of (g := g) Hrl.out m6 m5 m7 hk2
        have Hrun := Lib.hid hrun
        have Hcells := Lib.hid hcells
        have Hpre := Lib.hid hpre
        clear hrun hcells hpre
        have hkb : decide ((k : Int) < 2) = true := by simp; omega
        gi_wp2
        obtain ⟨wo, rfl⟩ : ∃ wo : World, wo = wr := ⟨_, rfl⟩
        gi_loopw [59] (fun p wr' => ∃ j : Nat, j ≤ L ∧ p = .int .i64 j ∧ J (preK ring f X Y k ++ run.take j) wr' ∧ KpB m bx bx W wr')
          (fun p _ => L - (intOf p).toNat)
        case atStart => exact ⟨0, by omega, rfl, by rw [List.take_zero, List.append_nil]; exact HJs.out, HK.out⟩
        case round =>
          obtain ⟨j, hj, rfl, hJ4, hK4⟩ := hrel
          have HJ4 := Lib.hid hJ4
          have HK4 := Lib.hid hK4
          clear hJ4 hK4
          by_cases hjL : j < L
          · have hlen : (preK ring f X Y k ++ run.take j).length < hd := by
              have e := HRuns.out
              rw [← MX.out, ← MY.out] at e
              have e2 := congrArg List.length e
              have e3 := congrArg List.length Hpre.out
              have e4 := Hrun.out
              have e5 := Hhd.out
              simp only [List.length_append, List.length_take, List.length_drop] at e2 e3 ⊢
              obtain rfl | rfl : k = 0 ∨ k = 1 := by omega
              · simp [preK] at e3 ⊢; omega
              · simp [preK] at e3 ⊢; omega
            obtain ⟨fn, tmps, assign, body, hy, hR⟩ := hY'.out _ (run[j]?.getD 0) wr HJ4.out hlen
            simp only [encU] at hy
            have hcell : wr.cell? ⟨g, o + j, none⟩ = some (.int .u8 ((run[j]?.getD 0).toNat)) := by
              rw [HK4.out.1.cell (p := ⟨g, o + j, none⟩) hg, ← Hcells.out j hjL]
              simp [World.cell?, Hgr.out]
            clear hlen
            gi_wp2
            refine hR.mono ?_
            rintro e W3 (⟨rfl, hJ5, hk5⟩ | ⟨rfl, hJx5⟩)
            · gi_wp2
              go_roundw
              case rel =>
                refine ⟨j + 1, by omega, by go_num, ?_, HK4.out.t hk5⟩
                rw [List.take_add_one, List.getElem?_eq_getElem (by rw [Hrun.out]; exact hjL)]
                rw [List.getElem?_eq_getElem (by rw [Hrun.out]; exact hjL)] at hJ5
                simpa using hJ5
              case measure => simp [intOf]; omega
            · gi_wp2
              refine bodyPost_ret (results_none rfl _ _ _) rfl ?_
              exact ⟨⟨_, rfl⟩, .inr ⟨_, trivial, hJx5⟩⟩
          · obtain rfl : j = L := by omega
            gi_wp2
            go_roundw
            case rel => exact ⟨k + 1, by omega, by go_num, by have := HJ4.out; rw [List.take_of_length_le (l := run) (by rw [Hrun.out]; exact Nat.le_refl _), Hpre.out] at this; exact this, HK4.out⟩
            case measure => simp [intOf]; omega
      · obtain rfl : k = 2 := by omega
        gi_wp2
        go_end0
        exact ⟨⟨_, rfl⟩, .inl ⟨_, rfl, by have := HJs.out; have e := HRuns.out; rw [← MX.out, ← MY.out] at e; rw [← e]; simpa [preK] using this⟩⟩

theorem from_stops (n : Nat) (hn : 1 ≤ n) (m bx b g : Nat) (q : Qs) (w : World) (hb : b < m) (hg : g < m) (hmx : m ≤ bx) (hbl : bx < w.heap.size)
    (hc : w.cell? ⟨bx, 0, none⟩ = some (.pointer (some ⟨b, 0, none⟩))) (hq : IsQueue w b g q) :
    SeqStopsK Fence.wide n Try.prog 69 #[.pointer (some ⟨bx, 0, none⟩)] encU (KpB m bx bx) (fun ys => ys = q.all.drop (q.gone / 8)) (fun _ => True) (q.all.length - q.gone / 8) w := fun l J Jx W hW hJ _ hY h0 =>
  from1_in n hn l m bx b g q hb hg hmx J Jx hY W (fun s A B hs hab => hJ s A B none hs ⟨hab.os, hab.tape, hab.output, hab.size, fun k hk _ => hab.block k hk⟩ (fun r e => by cases e))
    ((hW.cell (p := ⟨bx, 0, none⟩) hbl).trans hc) (hq.later hW) h0

end Go.Proofs.Ytglnmaekhpaffaa
