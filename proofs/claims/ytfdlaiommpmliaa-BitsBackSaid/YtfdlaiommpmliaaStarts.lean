/- The contract of the law BitsStarts: it returns true, and nothing that lay is changed. -/
import Derived.Test.YtfdlaiommpmliaaFinds
import Derived.Test.YtfdlaiommpmliaaRow
namespace Go.Proofs.Ytfdlaiommpmliaa
open Go.RowKit Go.Shelf
set_option linter.unusedVariables false

theorem num_congr {xs ys : List UInt8} {i j n : Nat} (h : ∀ t, t < n → bt xs (i + t) = bt ys (j + t)) : num xs i n = num ys j n := by
  induction n with
  | zero => rfl
  | succ n ih => simp only [num]; rw [ih fun t ht => h t (by omega), h n (by omega)]

/-- noughts, and the bits from a place on -/
def shifted (zs : List UInt8) (i more : Nat) : List Bool := List.replicate more false ++ (List.range' i (zs.length * 8 - i)).map fun j => bt zs j == 1
theorem shifted_len (zs : List UInt8) (i more : Nat) : (shifted zs i more).length = more + (zs.length * 8 - i) := by simp [shifted]
theorem bt_bool (zs : List UInt8) (j : Nat) : (bt zs j == 1).toNat = bt zs j := by
  have := bt_le zs j
  obtain h | h : bt zs j = 0 ∨ bt zs j = 1 := by omega
  · rw [h]; rfl
  · rw [h]; rfl
theorem shifted_at {zs ys : List UInt8} {i more : Nat} (h : Packed ys (shifted zs i more)) (t : Nat) (ht : t < zs.length * 8 - i) : bt ys (more + t) = bt zs (i + t) := by
  have hl := shifted_len zs i more
  have h1 := h.1
  rw [h.2 _ (by omega), ← bt_bool zs (i + t)]
  congr 1
  unfold shifted
  rw [List.getD_eq_getElem?_getD, List.getElem?_append_right (by simp)]
  simp [ht]
theorem shifted_ahead {zs ys : List UInt8} {i more : Nat} (h : Packed ys (shifted zs i more)) (t : Nat) (ht : t < more) : bt ys t = 0 := by
  have hl := shifted_len zs i more
  have h1 := h.1
  rw [h.2 _ (by omega)]
  unfold shifted
  rw [List.getD_eq_getElem?_getD, List.getElem?_append_left (by simpa using ht)]
  simp [ht]

theorem start_shift {zs ys : List UInt8} {i more y : Nat} (h : Packed ys (shifted zs i more)) (ho : one zs i = some y) (h15 : i + 15 ≤ y) (h5 : y + 5 ≤ zs.length * 8) :
    startT ys 0 = (((num zs (y + 1) 4 : Nat) : Int), ((y + 5 - i : Nat) : Int) + more, 0) := by
  obtain ⟨y1, y2, y3, y4⟩ := one_lt ho
  have hl := shifted_len zs i more
  have hp := h.1
  have h1 : one ys 0 = some (more + (y - i)) := by
    unfold one
    rw [List.find?_range'_eq_some]
    refine ⟨?_, ?_, fun j _ hj => ?_⟩
    · rw [shifted_at h _ (by omega), show i + (y - i) = y by omega, y3]; rfl
    · simp; omega
    · by_cases hm : j < more
      · rw [shifted_ahead h j hm]; rfl
      · rw [show j = more + (j - more) by omega, shifted_at h _ (by omega), y4 _ (by omega) (by omega)]; rfl
  have hn : num ys (more + (y - i) + 1) 4 = num zs (y + 1) 4 := num_congr fun t ht => by
    rw [show more + (y - i) + 1 + t = more + (y - i + 1 + t) by omega, shifted_at h _ (by omega)]
    congr 1; omega
  unfold startT
  rw [if_neg (by omega), show ((0 : Int).toNat) = 0 from rfl, h1]
  simp only
  rw [if_neg (by omega), if_neg (by omega), hn]
  congr 2
  omega

/-- where a start is, its code is found -/
theorem start_found {zs : List UInt8} {i y : Nat} (ho : one zs i = some y) (h15 : i + 15 ≤ y) : fnd zs i = some (y - 15) := by
  obtain ⟨y1, y2, y3, y4⟩ := one_lt ho
  unfold fnd
  rw [List.find?_range'_eq_some]
  refine ⟨?_, ?_, fun j a b => ?_⟩
  · simp only [isCode, Bool.and_eq_true, decide_eq_true_eq, beq_iff_eq]
    refine ⟨by omega, num_one.2 ⟨fun t ht => y4 _ (by omega) (by omega), ?_⟩⟩
    rw [show y - 15 + 15 = y by omega]; exact y3
  · simp; omega
  · simp only [isCode, Bool.not_eq_true', Bool.and_eq_false_iff, decide_eq_false_iff_not, beq_eq_false_iff_ne]
    refine .inr fun e => ?_
    have h1 := (num_one.1 e).2
    have h2 := y4 (j + 15) (by omega) (by omega)
    omega

theorem put_bit {w : World} {b : Nat} {g : Option Nat} {L : List Bool} (h : IsPen w b g L) (y : Int) (x : Bool) (hy : y = x.toNat) (hl : L.length < 16777216) :
    Calls Try.prog 15 #[.pointer (some ⟨b, 0, none⟩), .int .i64 y, .int .i64 1] w fun e w' => e = .returned (.int .i64 0) ∧ Wrote w w' b g (L ++ [x]) := by
  subst hy
  have hb : x.toNat / 2 ^ 1 = 0 := by cases x <;> rfl
  have e : numBits x.toNat 1 = [x] := by cases x <;> rfl
  have := put_ok h x.toNat 1 (by omega) hb (by cases x <;> decide) (by omega)
  rw [e] at this
  exact this

set_option maxRecDepth 100000 in
set_option maxHeartbeats 2000000 in
theorem starts_long (a : Option Addr) (len cap : Nat) (x y : Int) (w : World) (hl : 60 < len) (hm : len ≤ 9223372036854775807) :
    Calls Try.prog 8 #[.slice a len cap, .int .i64 x, .int .i64 y] w fun e w' => e = .returned (.bool true) ∧ Below w.heap.size w w' := by
  go_enter Try.func8, Try.ntmps8
  go_wp2_with (go_at_call 5; refine (known_any _).mono ?_; rintro e w1 ⟨rfl, hb⟩)
  go_ret
  exact ⟨rfl, hb⟩

set_option maxRecDepth 100000 in
set_option maxHeartbeats 4000000 in
theorem starts_bad (a : Option Addr) (cap : Nat) (zs : List UInt8) (x x2 : Int) (w : World) (f : Nat) (err : Int) (hl : zs.length ≤ 60) (hB : Byt w.heap.size w (.slice a zs.length cap) zs) (hf : x % (8 * (zs.length : Int) + 1) = f)
    (hs : startT zs f = (0, 0, err)) (he : err = 5 ∨ err = 7) :
    Calls Try.prog 8 #[.slice a zs.length cap, .int .i64 x, .int .i64 x2] w fun e w' => e = .returned (.bool true) ∧ Below w.heap.size w w' := by
  have hm2 := Int.emod_lt_of_pos x (b := 8 * (zs.length : Int) + 1) (by omega)
  have HPk := Lib.hid (fun w => pick_any x (8 * (zs.length : Int) + 1) w (by omega) (by omega))
  rw [hf] at HPk hm2
  have t60 : decide ((60 : Int) < (zs.length : Int)) = false := by simp; omega
  have HSt := Lib.hid (fun W (hb : Below w.heap.size w W) => start_three (hB.later hb) f (by omega))
  have HF := Lib.hid (fun W (hb : Below w.heap.size w W) => find_two (hB.later hb) f (by omega))
  rw [hs] at HSt
  simp only at HSt
  clear hs hf hB
  rcases he with rfl | rfl
  all_goals
    go_enter Try.func8, Try.ntmps8
    go_wp2_with fail
    refine (known_any _).mono ?_
    rintro e w1 ⟨rfl, hb1⟩
    go_wp2_with fail
    refine (HPk.out _).mono ?_
    rintro e w2 ⟨rfl, rfl⟩
    go_wp2_with fail
    refine (HSt.out _ hb1).mono ?_
    rintro e w3 ⟨rfl, hb3⟩
    replace hb3 := below_chain hb1 (Nat.le_refl _) hb3
    clear hb1
    go_wp2_with fail
    refine (HF.out _ hb3).mono ?_
    rintro e w4 ⟨rfl, hb4⟩
    replace hb4 := below_chain hb3 (Nat.le_refl _) hb4
    clear hb3
    go_wp2
    go_ret
    exact ⟨rfl, hb4⟩

theorem shifted_snoc (zs : List UInt8) (i more k : Nat) : List.replicate more false ++ (List.range' i (k + 1)).map (fun j => bt zs j == 1) = List.replicate more false ++ (List.range' i k).map (fun j => bt zs j == 1) ++ [bt zs (i + k) == 1] := by
  rw [List.range'_concat]; simp

set_option maxRecDepth 100000 in
set_option maxHeartbeats 4000000 in
theorem starts_good (a : Option Addr) (cap : Nat) (zs : List UInt8) (x x2 : Int) (w : World) (f y : Nat) (hl : zs.length ≤ 60) (hB : Byt w.heap.size w (.slice a zs.length cap) zs) (hf : x % (8 * (zs.length : Int) + 1) = f)
    (ho : one zs f = some y) (h15 : f + 15 ≤ y) (h5 : y + 5 ≤ zs.length * 8) :
    Calls Try.prog 8 #[.slice a zs.length cap, .int .i64 x, .int .i64 x2] w fun e w' => e = .returned (.bool true) ∧ Below w.heap.size w w' := by
  have hm2 := Int.emod_lt_of_pos x (b := 8 * (zs.length : Int) + 1) (by omega)
  have HPk := Lib.hid (fun w => pick_any x (8 * (zs.length : Int) + 1) w (by omega) (by omega))
  rw [hf] at HPk hm2
  have t60 : decide ((60 : Int) < (zs.length : Int)) = false := by simp; omega
  -- the second number
  have hq0 := Int.emod_nonneg x2 (b := 41) (by omega)
  have hq1 := Int.emod_lt_of_pos x2 (b := 41) (by omega)
  have HPk2 := Lib.hid (fun w => pick_any x2 41 w (by omega) (by omega))
  obtain ⟨more, hmore⟩ := Int.eq_ofNat_of_zero_le hq0
  rw [hmore] at HPk2 hq1
  have hm41 : more < 41 := by omega
  clear hq0 hq1 hmore
  -- what is read
  have hs : startT zs f = (((num zs (y + 1) 4 : Nat) : Int), ((y + 5 - f : Nat) : Int), 0) := by
    unfold startT; rw [if_neg (by omega), Int.toNat_natCast, ho]; simp only; rw [if_neg (by omega), if_neg (by omega)]
  have HSt := Lib.hid (fun W (hb : Below w.heap.size w W) => start_three (hB.later hb) f (by omega))
  rw [hs] at HSt
  simp only at HSt
  have HF := Lib.hid (fun W (hb : Below w.heap.size w W) => find_two (hB.later hb) f (by omega))
  have hfn : findN zs f = ((y - 15 : Nat) : Int) := by unfold findN; rw [if_neg (by omega), Int.toNat_natCast, start_found ho h15]; rfl
  have hfe : findE zs f = 0 := by unfold findE; rw [if_neg (by omega), Int.toNat_natCast, start_found ho h15]; rfl
  rw [hfn, hfe] at HF
  have HShift := Lib.hid (fun ys (h : Packed ys (shifted zs f more)) => start_shift h ho h15 h5)
  obtain ⟨_, _, _, y4⟩ := one_lt ho
  have HR1 := Lib.hid (fun W (hb : Below w.heap.size w W) => reads_any (hB.later hb) f ((y + 5 - f : Nat) - 5 : Int) 0 0 (by omega))
  have HR2 := Lib.hid (fun W (hb : Below w.heap.size w W) => reads_any (hB.later hb) ((f : Int) + (y + 5 - f : Nat) - 4) 4 ((num zs (y + 1) 4 : Nat) : Int) 0 (by omega))
  have e2 : ((readN zs ((f : Int) + (y + 5 - f : Nat) - 4) 4 == ((num zs (y + 1) 4 : Nat) : Int)) && (readE zs ((f : Int) + (y + 5 - f : Nat) - 4) 4 == 0)) = true := by
    have : ((f : Int) + (y + 5 - f : Nat) - 4) = ((y + 1 : Nat) : Int) := by omega
    rw [this]
    unfold readN readE
    rw [if_neg (by omega), if_neg (by omega), if_neg (by omega), if_neg (by omega), Int.toNat_natCast, show ((4 : Int).toNat) = 4 from rfl]
    simp
  rw [e2] at HR2
  have e1 : (decide ((y + 5 - f : Nat) ≤ 37)) = true → ((readN zs f ((y + 5 - f : Nat) - 5 : Int) == 0) && (readE zs f ((y + 5 - f : Nat) - 5 : Int) == 0)) = true := by
    intro h37
    simp at h37
    have : (((y + 5 - f : Nat) : Int) - 5) = ((y - f : Nat) : Int) := by omega
    rw [this]
    unfold readN readE
    rw [if_neg (by omega), if_neg (by omega), if_neg (by omega), if_neg (by omega), Int.toNat_natCast, Int.toNat_natCast, num_zero.2 fun j hj => y4 _ (by omega) (by omega)]
    rfl
  have HRd := Lib.hid (fun W (hb : Below w.heap.size w W) (j : Nat) (hj : j ≤ 10000) => read_two (hB.later hb) j 1 (by omega))
  clear hs hf hB hfn hfe e2 y4 ho
  generalize hn : y + 5 - f = n at *
  generalize num zs (y + 1) 4 = v at *
  generalize hpl : y - 15 = pl at *
  have hn20 : 20 ≤ n := by omega
  have hn500 : n ≤ 500 := by omega
  have hple : pl + 20 = f + n := by omega
  clear hn hpl
  generalize ((readN zs f ((n : Nat) - 5 : Int) == 0) && (readE zs f ((n : Nat) - 5 : Int) == 0)) = r1 at *
  have hp2 : ((pl : Int) != (f : Int) + n - 20) = false := by simp; omega
  have HPL := Lib.hid hple
  clear hple
  have t20 : decide ((n : Int) < 20) = false := by simp; omega
  obtain ⟨t37, ht37⟩ : ∃ t37, decide ((n : Int) ≤ 37) = t37 := ⟨_, rfl⟩
  have hr37 : r1 = true ∨ (r1 = false ∧ t37 = false) := by
    cases r1 with
    | true => exact .inl rfl
    | false =>
      refine .inr ⟨rfl, ?_⟩
      rw [← ht37]
      simp at e1 ⊢
      omega
  clear e1
  have hs41 : shifted zs f more = List.replicate more false ++ (List.range' f (zs.length * 8 - f)).map (fun j => bt zs j == 1) := rfl
  have HSH := Lib.hid hs41
  clear hs41
  rcases hr37 with rfl | ⟨rfl, rfl⟩
  all_goals
    go_enter Try.func8, Try.ntmps8
    go_wp2_with fail
    refine (known_any _).mono ?_
    rintro e w1 ⟨rfl, hb1⟩
    go_wp2_with fail
    refine (HPk.out _).mono ?_
    rintro e w2 ⟨rfl, rfl⟩
    go_wp2_with fail
    refine (HSt.out _ hb1).mono ?_
    rintro e w3 ⟨rfl, hb3⟩
    replace hb3 := below_chain hb1 (Nat.le_refl _) hb3
    clear hb1
    go_wp2_with fail
    refine (HF.out _ hb3).mono ?_
    rintro e w4 ⟨rfl, hb4⟩
    replace hb4 := below_chain hb3 (Nat.le_refl _) hb4
    clear hb3
    go_wp2_with fail
    refine (HR1.out _ hb4).mono ?_
    rintro e w5 ⟨rfl, rfl⟩
    go_wp2_with fail
    refine (HR2.out _ hb4).mono ?_
    rintro e w6 ⟨rfl, rfl⟩
    go_wp2_with fail
    refine (newPen_any w4).mono ?_
    rintro e w7 ⟨rfl, hp, hb7⟩
    have hs := hb4.size
    generalize w4.heap.size = b at *
    replace hb7 : Below w.heap.size w w7 := hb4.trans (hb7.mono hs)
    have HP := Lib.hid hp
    clear hp hb4
    go_wp2_with fail
    refine (HPk2.out _).mono ?_
    rintro e w8 ⟨rfl, rfl⟩
    go_wp2_with fail
    go_loopw [14] (fun i wr => ∃ (j : Nat) (g : Option Nat), j ≤ more ∧ i = .int .i64 j ∧ IsPen wr b g (List.replicate j false) ∧ Below w.heap.size w wr ∧ ∀ k, g = some k → w.heap.size ≤ k) (fun i _ => more - (intOf i).toNat)
    case atStart => exact ⟨0, none, Nat.zero_le _, rfl, HP.out, hb7, fun k e => by cases e⟩
    case round =>
      obtain ⟨j, g, hj, rfl, hp, hbr, hg⟩ := hrel
      by_cases hlt : j < more
      · have HPj := Lib.hid hp
        have HG := Lib.hid hg
        clear hp hg
        go_wp2_with fail
        refine (put_bit HPj.out 0 false rfl (by simp; omega)).mono ?_
        rintro e w9 ⟨rfl, hw⟩
        have HW := Lib.hid hw
        clear hw
        go_wp2
        go_roundw
        case rel =>
          have hbb := hbr.trans (HW.out.below hbr.size hs HG.out)
          obtain ⟨g', hp', _, hg'⟩ := HW.out
          exact ⟨j + 1, g', by omega, by go_num, by rw [List.replicate_succ']; exact hp', hbb, fun k e => (hg' k e).elim (HG.out k) (fun h => Nat.le_trans hbr.size h)⟩
        case measure => simp [intOf]; omega
      · obtain rfl : j = more := by omega
        have HPj := Lib.hid hp
        have HG := Lib.hid hg
        clear hp hg
        go_wp2_with fail
        go_loopw [15] (fun i wq => ∃ (t : Nat) (g : Option Nat), t ≤ zs.length * 8 - f ∧ i = .int .i64 ((f : Int) + t) ∧ IsPen wq b g (List.replicate j false ++ (List.range' f t).map (fun j => bt zs j == 1)) ∧ Below w.heap.size w wq ∧ ∀ k, g = some k → w.heap.size ≤ k) (fun i _ => zs.length * 8 - (intOf i).toNat)
        case atStart => exact ⟨0, g, Nat.zero_le _, by simp, by simpa using HPj.out, hbr, HG.out⟩
        case round =>
          clear HPj HG hbr
          obtain ⟨t, g, ht, rfl, hp, hbr, hg⟩ := hrel
          by_cases htl : t < zs.length * 8 - f
          · have hrd := HRd.out _ hbr (f + t) (by omega)
            have hb1 := bt_bool zs (f + t)
            have e1 : readN zs ((f + t : Nat) : Int) 1 = ((bt zs (f + t) == 1).toNat : Int) := by
              unfold readN
              rw [if_neg (by omega), if_neg (by omega), Int.toNat_natCast, hb1]
              simp [num]
            rw [e1, Int.natCast_add] at hrd
            have HRD := Lib.hid hrd
            have HPt := Lib.hid hp
            have HGt := Lib.hid hg
            have hlen : (List.replicate j false ++ (List.range' f t).map (fun j => bt zs j == 1)).length ≤ 600 := by simp; omega
            clear hrd hp hg hb1 e1
            go_wp2_with fail
            refine HRD.out.mono ?_
            rintro e w9 ⟨rfl, rfl⟩
            go_wp2_with fail
            refine (put_bit HPt.out _ (bt zs (f + t) == 1) rfl (by omega)).mono ?_
            rintro e w10 ⟨rfl, hw⟩
            have HW := Lib.hid hw
            clear hw
            go_wp2
            go_roundw
            case rel =>
              have hbb := hbr.trans (HW.out.below hbr.size hs HGt.out)
              obtain ⟨g', hp', _, hg'⟩ := HW.out
              exact ⟨t + 1, g', by omega, by go_num, by rw [shifted_snoc]; exact hp', hbb, fun k e => (hg' k e).elim (HGt.out k) (fun h => Nat.le_trans hbr.size h)⟩
            case measure => simp [intOf]; omega
          · obtain rfl : t = zs.length * 8 - f := by omega
            rw [← HSH.out] at hp
            have HPt := Lib.hid hp
            clear hp hg
            go_wp2_with fail
            refine (bytes_any HPt.out).mono ?_
            rintro e w9 ⟨ys, hpk, u, rfl, hu, hb9⟩
            have hyl : ys.length ≤ 1000 := by
              have h1 := hpk.1
              have h2 := shifted_len zs f j
              omega
            have hst := HShift.out ys hpk
            have hby := byt_own hu (by omega) (n₀ := w9.heap.size) (Nat.le_refl _)
            have hss := starts_any hby 0 (v : Int) ((n : Int) + j) 0 (by omega)
            rw [hst] at hss
            simp only [beq_self_eq_true, Bool.and_self] at hss
            have HSS := Lib.hid hss
            replace hb9 := below_chain hbr (Nat.le_refl _) hb9
            clear hss hst hby hu hpk hbr
            go_wp2_with fail
            refine HSS.out.mono ?_
            rintro e w10 ⟨rfl, hb10⟩
            replace hb10 := below_chain hb9 (Nat.le_refl _) hb10
            clear hb9
            go_wp2
            go_ret
            exact ⟨rfl, hb10⟩

theorem bitsStarts_walk (a : Option Addr) (len cap : Nat) (z : List Int) (x x2 : Int) (w : World) (h : IsRow .u8 w a len cap z) (hx : (Lit.int .i64 x).wf = true) (hx2 : (Lit.int .i64 x2).wf = true) :
    Calls Try.prog 8 #[.slice a len cap, .int .i64 x, .int .i64 x2] w fun e w' => e = .returned (.bool true) ∧ Below w.heap.size w w' := by
  have hm : len ≤ 9223372036854775807 := by
    rcases h with ⟨_, rfl, _⟩ | ⟨_, _, h1, h2, _⟩
    · omega
    · unfold maxLen at h2; omega
  by_cases hl : 60 < len
  · exact starts_long a len cap x x2 w hl hm
  · obtain ⟨zs, rfl, hB⟩ := byt_of_row h (by omega)
    have hm := Int.emod_nonneg x (b := 8 * (zs.length : Int) + 1) (by omega)
    obtain ⟨f, hf⟩ := Int.eq_ofNat_of_zero_le hm
    have e0 : startT zs f = match one zs f with
      | none => (0, 0, 5)
      | some y => if y < f + 15 then (0, 0, 7) else if zs.length * 8 < y + 5 then (0, 0, 5) else (((num zs (y + 1) 4 : Nat) : Int), ((y + 5 - f : Nat) : Int), 0) := by
      unfold startT; rw [if_neg (by omega), Int.toNat_natCast]; cases one zs f <;> rfl
    cases ho : one zs f with
    | none => rw [ho] at e0; exact starts_bad a cap zs x x2 w f 5 (by omega) hB hf e0 (.inl rfl)
    | some y =>
      rw [ho] at e0
      simp only at e0
      by_cases h15 : y < f + 15
      · rw [if_pos h15] at e0; exact starts_bad a cap zs x x2 w f 7 (by omega) hB hf e0 (.inr rfl)
      · by_cases h5 : zs.length * 8 < y + 5
        · rw [if_neg h15, if_pos h5] at e0; exact starts_bad a cap zs x x2 w f 5 (by omega) hB hf e0 (.inl rfl)
        · exact starts_good a cap zs x x2 w f y (by omega) hB hf ho (by omega) (by omega)

end Go.Proofs.Ytfdlaiommpmliaa
