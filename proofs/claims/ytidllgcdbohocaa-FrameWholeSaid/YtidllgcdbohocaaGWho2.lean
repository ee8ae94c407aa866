/- The walk of FrameWhole (praxinoscopelaw13). -/
import Derived.Test.YtidllgcdbohocaaGWho
namespace Go.Proofs.Ytidllgcdbohocaa
open Go.RowKit Go.Shelf Go.Sort
set_option linter.unusedVariables false

theorem und_bools13 : Try.prog.underlying 42 = some (.slice 4) := by kernel_rfl
theorem info_bool13 : (Try.prog.info? 4).map (fun i => (i.zero, i.size, i.bytes)) = some (some (.bool false), 1, 1) := by kernel_rfl

/-- between two blocks: what was marked ahead of T, and the groups' numbers -/
structure WhoI (w0 : World) (gl : Nat → Int) (c n m bl off bs T : Nat) (Wr : World) : Prop where
  below : Below w0.heap.size w0 Wr
  seen : SeenW c n bs T Wr
  row : ∀ g, g < m → Wr.cell? ⟨bl, off + g, none⟩ = some (.int .i64 (gl g))
  lo : w0.heap.size ≤ bs
  ap : bl < bs
theorem WhoI.later {w0 : World} {gl : Nat → Int} {c n m bl off bs T : Nat} {A B : World} (h : WhoI w0 gl c n m bl off bs T A) (hb : Below A.heap.size A B) : WhoI w0 gl c n m bl off bs T B := by
  have hl := h.seen.lt
  have ha := h.ap
  exact ⟨below_chain h.below (Nat.le_refl _) hb, h.seen.at (hb.block _ hl), fun g hg => (hb.cell (p := ⟨bl, off + g, none⟩) (show bl < A.heap.size by omega)).trans (h.row g hg), h.lo, h.ap⟩
theorem WhoI.marked {w0 : World} {gl : Nat → Int} {c n m bl off bs T T' : Nat} {A B : World} (h : WhoI w0 gl c n m bl off bs T A) (hs : SeenW c n bs T' B) (hb : Bar (fun k => k = bs) A B) : WhoI w0 gl c n m bl off bs T' B := by
  have hl := h.seen.lt
  have ha := h.ap
  have ho := h.lo
  exact ⟨h.below.trans (hb.below h.below.size (fun k hk e => by omega)), hs, fun g hg => (World.cell?_of_block (hb.block bl (by omega) (by omega))).trans (h.row g hg), h.lo, h.ap⟩

set_option maxRecDepth 100000 in
set_option maxHeartbeats 4000000 in
theorem whole13_arm {F : Int} {c : Nat} {a0 : Bool} (hFa : (F = 0 ∧ c = 1 ∧ a0 = false) ∨ (F = 1 ∧ c = 2 ∧ a0 = true)) (w : World) :
    Calls Try.prog 6 #[.bool a0] w fun e w' => e = .returned (.bool true) ∧ Below w.heap.size w w' := by
  have hFc : (F = 0 ∧ c = 1) ∨ (F = 1 ∧ c = 2) := hFa.imp (fun h => ⟨h.1, h.2.1⟩) (fun h => ⟨h.1, h.2.1⟩)
  have hF : F = 0 ∨ F = 1 := hFc.imp And.left And.left
  have hc : c = 1 ∨ c = 2 := hFc.imp And.right And.right
  obtain ⟨n, hn⟩ : ∃ n : Nat, n = 38016 * (c * c) := ⟨_, rfl⟩
  have hn1 : 1 ≤ n ∧ n ≤ 200000 := by rcases hc with rfl | rfl <;> omega
  obtain ⟨m, hm⟩ : ∃ m : Nat, m = 3 * (c * c) := ⟨_, rfl⟩
  have hm1 : m ≤ 12 := by rcases hc with rfl | rfl <;> omega
  have hml : (gL F).length = m := by rcases hFc with ⟨rfl, rfl⟩ | ⟨rfl, rfl⟩ <;> subst hm <;> rfl
  have HS : Hid (∃ x y : Int, ∀ W, Calls Try.prog 8 #[.int .i64 F] W fun e W' => e = .returned (.tuple #[.int .i64 x, .int .i64 y, .int .i64 (n : Int), .int .i64 0]) ∧ W = W') := by
    refine ⟨sW F, sH F, fun W => ?_⟩
    have := size13_ans F W
    have e1 : sN F = (n : Int) := by rcases hFc with ⟨rfl, rfl⟩ | ⟨rfl, rfl⟩ <;> subst hn <;> rfl
    have e2 : sE F = 0 := by rcases hF with rfl | rfl <;> rfl
    rw [e1, e2] at this
    exact this
  obtain ⟨gl, hgl⟩ : ∃ gl : Nat → Int, gl = fun g => (gL F)[g]?.getD 0 := ⟨_, rfl⟩
  have hgl' : ∀ g, gl g = (gL F)[g]?.getD 0 := fun g => by rw [hgl]
  obtain ⟨pg, hpg⟩ : ∃ pg : Nat → Int, pg = pgF F := ⟨_, rfl⟩
  have HG : Hid (∀ W, Calls Try.prog 10 #[.int .i64 F] W fun e W' => ∃ b off cap, e = .returned (.tuple #[.slice (some ⟨b, off, none⟩) m cap, .int .i64 0]) ∧ (∀ g, g < m → W'.cell? ⟨b, off + g, none⟩ = some (.int .i64 (gl g))) ∧ b < W'.heap.size ∧ Below W.heap.size W W') := fun W => (groups13_ans F W).mono fun e W' ⟨v, he, ho, hb⟩ => by
    have hlt := ho.lt
    obtain ⟨a, cap, rfl, hcc⟩ := cellsAt_own ho
    rcases hcc with hcc | ⟨b, off, rfl, hcc⟩
    · have : (gL F).length = 0 := by have := congrArg List.length hcc; simpa using this
      rcases hc with rfl | rfl <;> omega
    · have hse : sE F = 0 := by rcases hF with h | h <;> rw [h] <;> rfl
      exact ⟨b, off, cap, by rw [he, hse]; simp [hml], fun g hg => by rw [hgl' g]; exact hcc g _ (intV_get (by omega)), (hlt b rfl).2, hb⟩
  have HN : Hid (∀ g W, g < m → Calls Try.prog 12 #[.int .i64 F, .int .i64 (pg g)] W fun e W' => e = .returned (.tuple #[.int .i64 (gl g), .int .i64 0]) ∧ Below W.heap.size W W') := fun g W hg => by
    obtain ⟨e1, e2⟩ := pgF_next hF (show g < (gL F).length by omega)
    have := next13_ans F (pgF F g) W
    rw [e1, e2] at this
    rw [hpg, hgl' g]
    exact this
  have HP : Hid (∀ g k i : Nat, g < m → k < 33 → i < 6 → ∃ at_ st : Nat, at_ ≤ 1000000 ∧ st ≤ 352 ∧ (∀ W, Calls Try.prog 19 #[.int .i64 F, .int .i64 (gl g), .int .i64 ((k : Int) + 1), .int .i64 ((i : Int) + 1)] W fun e W' => e = .returned (.tuple #[.int .i64 (at_ : Int), .int .i64 (st : Int), .int .i64 0]) ∧ Below W.heap.size W W') ∧
      ∀ j, j < 64 → at_ + j / 8 * st + j % 8 = ixc c g k i j ∧ ixc c g k i j < n ∧ kR c (ixc c g k i j) = 64 * (198 * g + 6 * k + i) + j ∧ ∀ x, x < n → kR c x = 64 * (198 * g + 6 * k + i) + j → x = ixc c g k i j) := fun g k i hg hk hi => by
    obtain ⟨at_, st, h1, h2, e1, e2, e3, h3⟩ := pA_ix hFc (show g < 3 * (c * c) by omega) hk hi
    refine ⟨at_, st, h1, h2, fun W => ?_, fun j hj => ?_⟩
    · have := place13_ans F ((gL F)[g]?.getD 0) ((k : Int) + 1) ((i : Int) + 1) W
      rw [e1, e2, e3] at this
      rw [hgl' g]
      exact this
    · obtain ⟨r1, r2⟩ := kR_at hc (show g < 3 * (c * c) by omega) hk hi hj
      exact ⟨h3 j hj, by omega, r2, fun x hx h => kR_of hc (by omega) hk hi hj h⟩
  have HL : Hid (∀ x, x < n → kR c x < 64 * (198 * m)) := fun x hx => by rw [hm]; exact kR_lt hc (by omega)
  have HNt : Hid (∀ W, Calls Try.prog 22 #[.int .i64 F, .int .i64 (pg m), .int .i64 0, .int .i64 0] W fun e' W' => e' = .returned (.bool true) ∧ Below W.heap.size W W') := fun W => by
    have := pgF_last hF
    rw [hml] at this
    rw [hpg]
    exact next13_true this.1 this.2 W
  have HP0 : Hid (pg 0 = 0) := by rw [hpg]; exact rfl
  have HPs : Hid (∀ g, pg (g + 1) = gl g) := fun g => by rw [hpg, hgl' g]; exact pgF_succ F g
  have HK := Lib.hid (fun W => known13_any W)
  obtain ⟨sx, sy, HS⟩ := HS.out
  replace HS := Lib.hid HS
  have hm0 : 0 < m := by rcases hc with rfl | rfl <;> omega
  clear hFc hF hc hn hm hml hgl hgl' hpg
  have B0 := Lib.hid (Below.refl w.heap.size w)
  obtain ⟨i0, hi0, hz0, hz1, hz2⟩ := info_parts info_bool13
  rcases hFa with ⟨rfl, -, rfl⟩ | ⟨rfl, -, rfl⟩
  all_goals
    go_enter Try.func6, Try.ntmps6
    go_wp2_with fail
    refine (HK.out _).mono ?_
    rintro e w1 ⟨rfl, hb⟩
    have B1 := Lib.hid (below_chain B0.out (Nat.le_refl _) hb)
    clear hb
    go_wp2_with fail
    refine (HS.out _).mono ?_
    rintro e w' ⟨rfl, rfl⟩
    go_wp2_with fail
    refine (HG.out _).mono ?_
    rintro e w2 ⟨bl, off, cap, rfl, hrow, hbl, hb⟩
    have B2 := Lib.hid (below_chain B1.out (Nat.le_refl _) hb)
    have ROW := Lib.hid hrow
    clear hb hrow
    have t1 : decide ((n : Int) < 1) = false := by simp; omega
    have t2 : decide ((200000 : Int) < (n : Int)) = false := by simp; omega
    have t3 : decide ((12 : Int) < (m : Int)) = false := by simp; omega
    go_wp2_with (at_make; refine wpList_make_full _ rfl _ _ 42 rfl w2.heap.size 4 i0 (.bool false) 1 und_bools13 hi0 hz0 hz1 .i64 .i64 _ _ n rfl rfl ?m1 ?m2 ?m3 ?m4 (Nat.le_refl _) ?_)
    case m1 => rfl
    case m2 => rfl
    case m3 => rw [hz2]; omega
    case m4 => unfold maxLen; omega
    intro w3 hown hgrow
    have hcs := row_block hown
    have hb3 : Below w2.heap.size w2 w3 := ⟨hgrow.os, hgrow.tape, hgrow.output, hgrow.size, fun k hk => hgrow.block k hk (by simp)⟩
    have hW : WhoI w gl c n m bl off w2.heap.size 0 w3 := by
      refine ⟨below_chain B2.out (Nat.le_refl _) hb3, ⟨_, _, hcs, fun k hk => ?_⟩, fun g hg => (hb3.cell (p := ⟨bl, off + g, none⟩) hbl).trans (ROW.out g hg), B2.out.size, hbl⟩
      rw [toList_madeCells_one]
      simp [hk]
    have HW := Lib.hid hW
    clear hcs hown hgrow hb3 ROW hW t1 t2 t3 hz0 hz1 hz2 hi0
    generalize w2.heap.size = bs at *
    go_wp2_with fail
    go_loopw [12, 13] (fun gp gi wr => ∃ g : Nat, gp = .int .i64 (pg g) ∧ gi = .int .i64 (g : Int) ∧ g ≤ m ∧ WhoI w gl c n m bl off bs (64 * (198 * g)) wr) (fun _ gi _ => m - (intOf gi).toNat)
    case atStart => exact ⟨0, by rw [HP0.out], rfl, by omega, HW.out⟩
    case round =>
      obtain ⟨g, rfl, rfl, hg, hI⟩ := hrel
      have HI := Lib.hid hI
      clear hI
      by_cases hg2 : g < m
      · have hg3 : (g : Int) < (m : Int) := by omega
        go_wp2_with fail
        refine (HN.out g _ hg2).mono ?_
        rintro e w5 ⟨rfl, hb⟩
        have HI := Lib.hid (HI.out.later hb)
        have cg := HI.out.row g hg2
        have t4 : (gl g != gl g) = false := by simp
        have HQ := Lib.hid (HPs.out g)
        clear hb
        go_wp2_with fail
        clear cg t4
        go_loopg [16] 33 (fun gh a wy => ∃ k : Nat, k + gh = 33 ∧ a = .int .i64 ((k : Int) + 1) ∧ WhoI w gl c n m bl off bs (64 * (198 * g + 6 * k)) wy)
        case atStart => exact ⟨0, by omega, rfl, HI.out⟩
        case round =>
          obtain ⟨k, hkg, rfl, hIk⟩ := hrel
          have HIk := Lib.hid hIk
          clear hIk
          cases gk with
          | zero =>
            obtain rfl : k = 33 := by omega
            rw [show 64 * (198 * g + 6 * 33) = 64 * (198 * (g + 1)) by omega] at HIk
            go_wp2
            exact ⟨⟨g + 1, by rw [HQ.out], by go_num, by omega, HIk.out⟩, by simp [intOf]; omega⟩
          | succ gh =>
            have hk3 : (k : Int) + 1 ≤ 33 := by omega
            have hk33 : k < 33 := by omega
            have HE := Lib.hid (show k + 1 + gh = 33 by omega)
            clear hkg
            go_wp2
            go_loopg [17] 6 (fun gh b wz => ∃ i : Nat, i + gh = 6 ∧ b = .int .i64 ((i : Int) + 1) ∧ WhoI w gl c n m bl off bs (64 * (198 * g + 6 * k + i)) wz)
            case atStart => exact ⟨0, by omega, rfl, HIk.out⟩
            case round =>
              obtain ⟨i, hig, rfl, hIi⟩ := hrel
              have HIi := Lib.hid hIi
              clear hIi
              cases gk with
              | zero =>
                obtain rfl : i = 6 := by omega
                rw [show 64 * (198 * g + 6 * k + 6) = 64 * (198 * g + 6 * (k + 1)) by omega] at HIi
                go_wp2
                go_roundg gh
                case measure => omega
                case rel => exact ⟨k + 1, HE.out, by go_num, HIi.out⟩
              | succ gi =>
                have hi3 : (i : Int) + 1 ≤ 6 := by omega
                have HEi := Lib.hid (show i + 1 + gi = 6 by omega)
                obtain ⟨at_, st, ha1, hs1, HPc, HSm⟩ := HP.out g k i hg2 hk33 (by omega)
                have HPc := Lib.hid HPc
                have HSm := Lib.hid HSm
                clear hig
                go_wp2_with fail
                refine (HPc.out _).mono ?_
                rintro e w6 ⟨rfl, hb⟩
                have HIi := Lib.hid (HIi.out.later hb)
                clear hb
                go_wp2_with fail
                refine (marks13_any (by omega) at_ st ha1 hs1 (fun j => ixc c g k i j) (T := 64 * (198 * g + 6 * k + i)) HSm.out _ HIi.out.seen).mono ?_
                rintro e w7 ⟨rfl, hs, hb⟩
                have HIj := Lib.hid (HIi.out.marked hs hb)
                rw [show 64 * (198 * g + 6 * k + i) + 64 = 64 * (198 * g + 6 * k + (i + 1)) by omega] at HIj
                clear hs hb
                go_wp2
                go_roundg gi
                case measure => omega
                case rel => exact ⟨i + 1, HEi.out, by go_num, HIj.out⟩
      · obtain rfl : g = m := by omega
        go_wp2_with fail
        go_loopw [21] (fun x wz => ∃ k : Nat, x = .int .i64 (k : Int) ∧ k ≤ n ∧ wz = wr) (fun x _ => n - (intOf x).toNat)
        case atStart => exact ⟨0, rfl, by omega, rfl⟩
        case round =>
          obtain ⟨k, rfl, hk, rfl⟩ := hrel
          by_cases hk2 : k < n
          · have hk3 : (k : Int) < (n : Int) := by omega
            obtain ⟨ck, -⟩ := HI.out.seen.cell hk2
            rw [show decide (kR c k < 64 * (198 * g)) = true by simp; exact HL.out k hk2] at ck
            go_wp2
            exact ⟨⟨k + 1, by go_num, by omega, trivial⟩, by simp [intOf]; omega⟩
          · obtain rfl : k = n := by omega
            go_wp2_with fail
            refine (HNt.out _).mono ?_
            rintro e w8 ⟨rfl, hb⟩
            have B8 := Lib.hid (below_chain HI.out.below (Nat.le_refl _) hb)
            clear hb
            go_wp2
            go_ret
            exact ⟨rfl, B8.out⟩

theorem whole13_any (a0 : Bool) (w : World) : Calls Try.prog 6 #[.bool a0] w fun e w' => e = .returned (.bool true) ∧ Below w.heap.size w w' := by
  cases a0 with
  | false => exact whole13_arm (F := 0) (c := 1) (.inl ⟨rfl, rfl, rfl⟩) w
  | true => exact whole13_arm (F := 1) (c := 2) (.inr ⟨rfl, rfl, rfl⟩) w

end Go.Proofs.Ytidllgcdbohocaa
