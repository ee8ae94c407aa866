/- block: small functions, the three rules, broken, Check. block: Levels, worth, Residue over the landed code. -/
import Derived.Test.YtbcfiafgolcbpaaGreatDoorYPlain
import Derived.Test.YtbcfiafgolcbpaaGreatDoorZSpread
import Derived.Test.YtbcfiafgolcbpaaGreatDoorZArr
import Derived.Test.YtbcfiafgolcbpaaGreatDoorYLaw
import Derived.Test.YtbcfiafgolcbpaaGreatDoorUBlk
import Derived.Test.YtbcfiafgolcbpaaGreatDoorCInv
import Derived.Deep.RegionWith
/- block: small functions, the three rules, broken, Check. -/
namespace Go.Proofs.YtbcfiafgolcbpaaGreatDoor
open Go.RowKit Go.Shelf
set_option linter.unusedVariables false

theorem yIsCode_any (n : Int) (w : World) : Calls Tryz.prog 82 #[.int .i64 n] w fun e w' => e = .returned (.bool (dcOk n)) ∧ w = w' := by
  by_cases h1 : 1 ≤ n
  · have q1 : decide ((1 : Int) ≤ n) = true := by simpa using h1
    by_cases h2 : n ≤ 255
    · have q2 : decide (n ≤ (255 : Int)) = true := by simpa using h2
      have e : dcOk n = (n != 128) := by
        unfold dcOk
        by_cases h3 : n = 128 <;> simp [h1, h2, h3]
      rw [e]
      go_enter Tryz.func82, Tryz.ntmps82
      go_wp2_with fail
      go_ret
      exact ⟨rfl, rfl⟩
    · have q2 : decide (n ≤ (255 : Int)) = false := by simp; omega
      have e : dcOk n = false := by unfold dcOk; simp; omega
      rw [e]
      go_enter Tryz.func82, Tryz.ntmps82
      go_wp2_with fail
      go_ret
      exact ⟨rfl, rfl⟩
  · have q1 : decide ((1 : Int) ≤ n) = false := by simp; omega
    have e : dcOk n = false := by unfold dcOk; simp; omega
    rw [e]
    go_enter Tryz.func82, Tryz.ntmps82
    go_wp2_with fail
    go_ret
    exact ⟨rfl, rfl⟩
theorem yFirst_any (b : Bool) (w : World) : Calls Tryz.prog 44 #[.bool b] w fun e w' => e = .returned (.int .i64 (fstY b : Nat)) ∧ w = w' := by
  cases b with
  | false =>
    go_enter Tryz.func44, Tryz.ntmps44
    go_wp2_with fail
    go_ret
    exact ⟨rfl, rfl⟩
  | true =>
    go_enter Tryz.func44, Tryz.ntmps44
    go_wp2_with fail
    go_ret
    exact ⟨rfl, rfl⟩
theorem yIsLevel_any (x : Int) (w : World) : Calls Tryz.prog 96 #[.int .i64 x] w fun e w' => e = .returned (.bool (okLv x)) ∧ w = w' := by
  by_cases h0 : x = 0
  · subst h0
    go_enter Tryz.func96, Tryz.ntmps96
    go_wp2
    go_ret
    exact ⟨rfl, rfl⟩
  · have e0 : (x != 0) = true := by simpa using h0
    by_cases h1 : -127 ≤ x
    · have hr : okLv x = decide (x ≤ 127) := by simp [okLv, h0, h1]
      have q1 : decide (-127 ≤ x) = true := by simpa using h1
      rw [hr]
      clear h0 hr
      go_enter Tryz.func96, Tryz.ntmps96
      go_wp2_with fail
      go_ret
      exact ⟨rfl, rfl⟩
    · have hr : okLv x = false := by simp [okLv, h1]
      have q1 : decide (-127 ≤ x) = false := by simpa using h1
      rw [hr]
      clear h0 hr
      go_enter Tryz.func96, Tryz.ntmps96
      go_wp2_with fail
      go_ret
      exact ⟨rfl, rfl⟩
/-- has the block a place there? -/
def fitY (run : Int) (next : Nat) : Bool := decide (0 ≤ run) && decide (run < 64 - (next : Int))
theorem yFits_any (run : Int) (next : Nat) (h : next ≤ 64) (w : World) : Calls Tryz.prog 55 #[.int .i64 run, .int .i64 (next : Nat)] w fun e w' => e = .returned (.bool (fitY run next)) ∧ w = w' := by
  have e1 : IntKind.i64.wrap (64 - (next : Int)) = 64 - (next : Int) := by rw [IntKind.wrap_i64]; omega
  unfold fitY
  by_cases h0 : 0 ≤ run
  · have q : decide (0 ≤ run) = true := by simpa using h0
    rw [q, Bool.true_and]
    go_enter Tryz.func55, Tryz.ntmps55
    go_wp2_with fail
    go_ret
    exact ⟨rfl, rfl⟩
  · have q : decide (0 ≤ run) = false := by simpa using h0
    rw [q, Bool.false_and]
    go_enter Tryz.func55, Tryz.ntmps55
    go_wp2_with fail
    go_ret
    exact ⟨rfl, rfl⟩

/-! ### the rules -/
theorem three_cells (w : World) (a b c : Value) (t : TypeId) : (w.alloc (.cells #[a, b, c] t (0, 0))).cell? ⟨w.heap.size, 0, none⟩ = some a ∧ (w.alloc (.cells #[a, b, c] t (0, 0))).cell? ⟨w.heap.size, 1, none⟩ = some b ∧ (w.alloc (.cells #[a, b, c] t (0, 0))).cell? ⟨w.heap.size, 2, none⟩ = some c := by
  have h := World.alloc_heap_new w (.cells #[a, b, c] t (0, 0))
  generalize w.alloc (.cells #[a, b, c] t (0, 0)) = w' at h ⊢
  simp [World.cell?, h]
/-- what the first rule says -/
def ru1 (dc : Int) (intra : Bool) : Int := if intra then (if dcOk dc then 0 else 10) else (if dc = 0 then 0 else 2)
def ru2 (len : Nat) (intra : Bool) : Int := if intra = false ∧ len = 0 then 2 else 0
theorem yrCode_any (dc : Int) (av : Option Addr) (len cap : Nat) (intra : Bool) (w : World) :
    Calls Tryz.prog 71 #[(.agg #[.int .i64 dc, .slice av len cap, .bool intra])] w fun e w' => e = .returned (.int .i64 (ru1 dc intra)) ∧ Below w.heap.size w w' := by
  have HC := Lib.hid (fun W => yIsCode_any dc W)
  obtain ⟨x0, x1, x2⟩ := three_cells w (.int .i64 dc) (.slice av len cap) (.bool intra) 75
  have hb0 : Below w.heap.size w (w.alloc (.cells #[.int .i64 dc, .slice av len cap, .bool intra] 75 (0, 0))) := (Below.refl _ w).alloc (Nat.le_refl _) _
  cases intra with
  | true =>
    cases hd : dcOk dc with
    | true =>
      have e : ru1 dc true = 0 := by simp [ru1, hd]
      rw [e]
      rw [hd] at HC
      go_enter Tryz.func71, Tryz.ntmps71
      go_wp2_with (go_at_call 82; refine (HC.out _).mono ?_; rintro e w' ⟨rfl, rfl⟩)
      go_ret
      exact ⟨rfl, hb0⟩
    | false =>
      have e : ru1 dc true = 10 := by simp [ru1, hd]
      rw [e]
      rw [hd] at HC
      go_enter Tryz.func71, Tryz.ntmps71
      go_wp2_with (go_at_call 82; refine (HC.out _).mono ?_; rintro e w' ⟨rfl, rfl⟩)
      go_ret
      exact ⟨rfl, hb0⟩
  | false =>
    by_cases h0 : dc = 0
    · have e : ru1 dc false = 0 := by simp [ru1, h0]
      rw [e]
      subst h0
      go_enter Tryz.func71, Tryz.ntmps71
      go_wp2_with fail
      go_ret
      exact ⟨rfl, hb0⟩
    · have e : ru1 dc false = 2 := by simp [ru1, h0]
      have q : (dc != 0) = true := by simpa using h0
      rw [e]
      go_enter Tryz.func71, Tryz.ntmps71
      go_wp2_with fail
      go_ret
      exact ⟨rfl, hb0⟩
theorem yrMany_any (dc : Int) (av : Option Addr) (len cap : Nat) (intra : Bool) (w : World) :
    Calls Tryz.prog 72 #[(.agg #[.int .i64 dc, .slice av len cap, .bool intra])] w fun e w' => e = .returned (.int .i64 (ru2 len intra)) ∧ Below w.heap.size w w' := by
  obtain ⟨x0, x1, x2⟩ := three_cells w (.int .i64 dc) (.slice av len cap) (.bool intra) 75
  have hb0 : Below w.heap.size w (w.alloc (.cells #[.int .i64 dc, .slice av len cap, .bool intra] 75 (0, 0))) := (Below.refl _ w).alloc (Nat.le_refl _) _
  cases intra with
  | true =>
    have e : ru2 len true = 0 := by simp [ru2]
    rw [e]
    go_enter Tryz.func72, Tryz.ntmps72
    go_wp2_with fail
    go_ret
    exact ⟨rfl, hb0⟩
  | false =>
    by_cases h0 : len = 0
    · have e : ru2 len false = 2 := by simp [ru2, h0]
      rw [e]
      subst h0
      go_enter Tryz.func72, Tryz.ntmps72
      go_wp2_with fail
      go_ret
      exact ⟨rfl, hb0⟩
    · have e : ru2 len false = 0 := by simp [ru2, h0]
      have q : ((len : Int) == 0) = false := by simpa using h0
      rw [e]
      go_enter Tryz.func72, Tryz.ntmps72
      go_wp2_with fail
      go_ret
      exact ⟨rfl, hb0⟩

/-- what the third rule says -/
def errP : List (Int × Int) → Nat → Int
  | [], _ => 0
  | (r, l) :: rest, a => if okLv l = false then 10 else if fitY r a = false then 11 else errP rest (a + r.toNat + 1)
theorem spr_errP : ∀ (ps : List (Int × Int)) (a : Nat) (b : List Int), (spr ps a b).1 = errP ps a
  | [], a, b => rfl
  | (r, l) :: rest, a, b => by
    unfold spr errP
    by_cases h1 : okLv l = false
    · rw [if_pos h1, if_pos h1]
    · rw [if_neg h1, if_neg h1]
      by_cases h2 : r < 0 ∨ 64 - (a : Int) ≤ r
      · rw [if_pos h2, if_pos (by unfold fitY; simp; omega)]
      · rw [if_neg h2, if_neg (by unfold fitY; simp; omega)]
        exact spr_errP rest _ _

set_option maxRecDepth 100000 in
set_option maxHeartbeats 2000000 in
theorem yrPairs_any {n₀ : Nat} {w : World} {av : Option Addr} {len cap : Nat} {ps : List (Int × Int)} (hR : RowP n₀ w av len cap ps) (hn : n₀ ≤ w.heap.size) (hlen : len ≤ 1000000) (dc : Int) (intra : Bool) :
    Calls Tryz.prog 73 #[(.agg #[.int .i64 dc, .slice av len cap, .bool intra])] w fun e w' => e = .returned (.int .i64 (errP ps (fstY intra))) ∧ Below w.heap.size w w' := by
  have HF := Lib.hid (fun W => yFirst_any intra W)
  have HL := Lib.hid (fun l W => yIsLevel_any l W)
  have HX := Lib.hid yFits_any
  have hf1 : fstY intra ≤ 1 := by unfold fstY; split <;> omega
  obtain ⟨R, hRes⟩ : ∃ R, errP ps (fstY intra) = R := ⟨_, rfl⟩
  rw [hRes]
  have HRes := Lib.hid hRes
  obtain ⟨x0, x1, x2⟩ := three_cells w (.int .i64 dc) (.slice av len cap) (.bool intra) 75
  have HB0 := Lib.hid (show Below w.heap.size w (w.alloc (.cells #[.int .i64 dc, .slice av len cap, .bool intra] 75 (0, 0))) from (Below.refl _ w).alloc (Nat.le_refl _) _)
  have HR := Lib.hid (hR.mono hn)
  generalize hfst : fstY intra = fst at *
  clear hRes hR hfst
  go_enter Tryz.func73, Tryz.ntmps73
  go_wp2_with (go_at_call 44; refine (HF.out _).mono ?_; rintro e w' ⟨rfl, rfl⟩)
  generalize w.alloc (.cells #[.int .i64 dc, .slice av len cap, .bool intra] 75 (0, 0)) = w0 at *
  clear x0 x1 x2
  go_loopw [3, 13] (fun nx k wr => ∃ (j na : Nat), k = .int .i64 j ∧ j ≤ len ∧ nx = .int .i64 na ∧ na ≤ 64 ∧ errP (ps.drop j) na = R ∧ Below w.heap.size w wr) (fun _ k _ => len - (intOf k).toNat)
  case atStart => exact ⟨0, fst, rfl, by omega, rfl, by omega, HRes.out, HB0.out⟩
  case round =>
    obtain ⟨j, na, rfl, hj, rfl, hna, hsp, hb⟩ := hrel
    have HB := Lib.hid hb
    have HSp := Lib.hid hsp
    clear hsp hb
    by_cases hj2 : j < len
    · have hjp : j < ps.length := by have := HR.out.1; omega
      have hd : ps.drop j = ps[j] :: ps.drop (j + 1) := List.drop_eq_getElem_cons hjp
      rw [hd] at HSp
      have hpj : ps[j]? = some ps[j] := List.getElem?_eq_getElem hjp
      rcases HR.out.2.2.2 with h0 | ⟨b, off, rfl, hb, hc⟩
      · have := HR.out.2.1
        omega
      have hb2 : b < w.heap.size := hb (by omega)
      obtain ⟨x1, x2⟩ := hc.below HB.out hb2 j _ hpj
      clear hd hpj hc hb
      generalize ps[j] = p at *
      obtain ⟨r, l⟩ := p
      simp only at x1 x2
      have q1 : (j : Int) < (len : Int) := by omega
      have q2 : (0 : Int) ≤ (j : Int) := by omega
      have hsz := HB.out.size
      have hb3 : b < wr.heap.size := by omega
      obtain ⟨y0, y1⟩ := two_cells wr (.int .i64 r) (.int .i64 l) 66
      have HSA := Lib.hid (HB.out.alloc (by omega) (.cells #[.int .i64 r, .int .i64 l] 66 (0, 0)))
      have HLl := Lib.hid (fun W => HL.out l W)
      have HXl := Lib.hid (fun W => HX.out r na hna W)
      cases hok : okLv l with
      | false =>
        have HR0 : Hid (R = 10) := by show R = 10; rw [← HSp.out]; unfold errP; rw [if_pos hok]
        rw [hok] at HLl
        clear hok
        go_wp2_with (go_at_call 96; refine (HLl.out _).mono ?_; rintro e w' ⟨rfl, rfl⟩)
        go_ret
        exact ⟨by rw [HR0.out]; rfl, HSA.out⟩
      | true =>
        rw [hok] at HLl
        cases hfit : fitY r na with
        | false =>
          have HR0 : Hid (R = 11) := by show R = 11; rw [← HSp.out]; unfold errP; rw [if_neg (by simp [hok]), if_pos hfit]
          rw [hfit] at HXl
          clear hok hfit
          go_wp2_with (first
            | (go_at_call 96; refine (HLl.out _).mono ?_; rintro e w' ⟨rfl, rfl⟩)
            | (go_at_call 55; refine (HXl.out _).mono ?_; rintro e w' ⟨rfl, rfl⟩))
          go_ret
          exact ⟨by rw [HR0.out]; rfl, HSA.out⟩
        | true =>
          have hfit2 : 0 ≤ r ∧ r < 64 - (na : Int) := by unfold fitY at hfit; simpa using hfit
          obtain ⟨nr, rfl⟩ : ∃ nr : Nat, r = nr := ⟨r.toNat, by omega⟩
          have HSp2 : Hid (errP (ps.drop (j + 1)) (na + nr + 1) = R) := by
            show _ = R
            rw [← HSp.out]
            conv => rhs; unfold errP
            rw [if_neg (by simp [hok]), if_neg (by simp [hfit]), Int.toNat_natCast]
          rw [hfit] at HXl
          have hle : na + nr + 1 ≤ 64 := by omega
          clear hok hfit hfit2
          go_wp2_with (first
            | (go_at_call 96; refine (HLl.out _).mono ?_; rintro e w' ⟨rfl, rfl⟩)
            | (go_at_call 55; refine (HXl.out _).mono ?_; rintro e w' ⟨rfl, rfl⟩))
          go_roundw
          case rel => exact ⟨j + 1, na + nr + 1, by go_num, by omega, by go_num, hle, HSp2.out, HSA.out⟩
          case measure => simp [intOf]; omega
    · obtain rfl : j = len := by omega
      have HR0 : Hid (R = 0) := by
        show R = 0
        rw [← HSp.out, List.drop_eq_nil_of_le (by have := HR.out.1; omega)]
        rfl
      go_wp2_with fail
      go_ret
      exact ⟨by rw [HR0.out]; rfl, HB.out⟩

theorem ix111 (a b c : Value) (w : World) : (Instr.index 111 (.agg #[a, b, c]) (.int .i64 0)).run Tryz.prog w = .ok a w ∧ (Instr.index 111 (.agg #[a, b, c]) (.int .i64 1)).run Tryz.prog w = .ok b w ∧ (Instr.index 111 (.agg #[a, b, c]) (.int .i64 2)).run Tryz.prog w = .ok c w := by
  refine ⟨?_, ?_, ?_⟩ <;> kernel_rfl
/-- the first rule's error that is broken -/
def brkY (dc : Int) (ps : List (Int × Int)) (intra : Bool) : Int := if ru1 dc intra ≠ 0 then ru1 dc intra else if ru2 ps.length intra ≠ 0 then ru2 ps.length intra else errP ps (fstY intra)
theorem brkY_chk (dc : Int) (ps : List (Int × Int)) (intra : Bool) : brkY dc ps intra = chkY dc ps intra := by
  unfold brkY chkY
  rw [spr_errP]
  cases intra with
  | true =>
    cases hd : dcOk dc <;> simp [ru1, ru2, hd]
  | false =>
    by_cases h0 : dc = 0
    · by_cases h1 : ps = []
      · simp [ru1, ru2, h0, h1]
      · have : ps.length ≠ 0 := fun h => h1 (List.eq_nil_of_length_eq_zero h)
        simp [ru1, ru2, h0, h1]
    · simp [ru1, h0]

set_option maxRecDepth 100000 in
set_option maxHeartbeats 2000000 in
theorem yBroken_any {n₀ : Nat} {w : World} {av : Option Addr} {len cap : Nat} {ps : List (Int × Int)} (hR : RowP n₀ w av len cap ps) (hn : n₀ ≤ w.heap.size) (hlen : len ≤ 1000000) (dc : Int) (intra : Bool) :
    Calls Tryz.prog 46 #[(.agg #[.int .i64 dc, .slice av len cap, .bool intra])] w fun e w' => e = .returned (.int .i64 (brkY dc ps intra)) ∧ Below w.heap.size w w' := by
  have hpl := hR.1
  have H1 := Lib.hid (fun W => yrCode_any dc av len cap intra W)
  have H2 := Lib.hid (fun W => yrMany_any dc av len cap intra W)
  have H3 := Lib.hid (fun (W : World) (hb : Below w.heap.size w W) => yrPairs_any (w := W) (hR.below (hb.mono hn)) (Nat.le_trans hn hb.size) hlen dc intra)
  obtain ⟨ix0, ix1, ix2⟩ := (⟨fun W => (ix111 (.func (.func 71) #[(.agg #[.int .i64 dc, .slice av len cap, .bool intra])] #[]) (.func (.func 72) #[(.agg #[.int .i64 dc, .slice av len cap, .bool intra])] #[]) (.func (.func 73) #[(.agg #[.int .i64 dc, .slice av len cap, .bool intra])] #[]) W).1, fun W => (ix111 (.func (.func 71) #[(.agg #[.int .i64 dc, .slice av len cap, .bool intra])] #[]) (.func (.func 72) #[(.agg #[.int .i64 dc, .slice av len cap, .bool intra])] #[]) (.func (.func 73) #[(.agg #[.int .i64 dc, .slice av len cap, .bool intra])] #[]) W).2.1, fun W => (ix111 (.func (.func 71) #[(.agg #[.int .i64 dc, .slice av len cap, .bool intra])] #[]) (.func (.func 72) #[(.agg #[.int .i64 dc, .slice av len cap, .bool intra])] #[]) (.func (.func 73) #[(.agg #[.int .i64 dc, .slice av len cap, .bool intra])] #[]) W).2.2⟩ :
    (∀ W, (Instr.index 111 (.agg #[.func (.func 71) #[(.agg #[.int .i64 dc, .slice av len cap, .bool intra])] #[], .func (.func 72) #[(.agg #[.int .i64 dc, .slice av len cap, .bool intra])] #[], .func (.func 73) #[(.agg #[.int .i64 dc, .slice av len cap, .bool intra])] #[]]) (.int .i64 0)).run Tryz.prog W = .ok (.func (.func 71) #[(.agg #[.int .i64 dc, .slice av len cap, .bool intra])] #[]) W) ∧
    (∀ W, (Instr.index 111 (.agg #[.func (.func 71) #[(.agg #[.int .i64 dc, .slice av len cap, .bool intra])] #[], .func (.func 72) #[(.agg #[.int .i64 dc, .slice av len cap, .bool intra])] #[], .func (.func 73) #[(.agg #[.int .i64 dc, .slice av len cap, .bool intra])] #[]]) (.int .i64 1)).run Tryz.prog W = .ok (.func (.func 72) #[(.agg #[.int .i64 dc, .slice av len cap, .bool intra])] #[]) W) ∧
    (∀ W, (Instr.index 111 (.agg #[.func (.func 71) #[(.agg #[.int .i64 dc, .slice av len cap, .bool intra])] #[], .func (.func 72) #[(.agg #[.int .i64 dc, .slice av len cap, .bool intra])] #[], .func (.func 73) #[(.agg #[.int .i64 dc, .slice av len cap, .bool intra])] #[]]) (.int .i64 2)).run Tryz.prog W = .ok (.func (.func 73) #[(.agg #[.int .i64 dc, .slice av len cap, .bool intra])] #[]) W))
  obtain ⟨x0, x1, x2⟩ := three_cells w (.int .i64 dc) (.slice av len cap) (.bool intra) 75
  have HB0 := Lib.hid (show Below w.heap.size w (w.alloc (.cells #[.int .i64 dc, .slice av len cap, .bool intra] 75 (0, 0))) from (Below.refl _ w).alloc (Nat.le_refl _) _)
  obtain ⟨R, hRes⟩ : ∃ R, brkY dc ps intra = R := ⟨_, rfl⟩
  rw [hRes]
  unfold brkY at hRes
  rw [hpl] at hRes
  have HRes := Lib.hid hRes
  clear hRes hR
  generalize ru1 dc intra = r1 at *
  generalize ru2 len intra = r2 at *
  generalize errP ps (fstY intra) = r3 at *
  clear hpl
  go_enter Tryz.func46, Tryz.ntmps46
  go_wp2_with fail
  generalize w.alloc (.cells #[.int .i64 dc, .slice av len cap, .bool intra] 75 (0, 0)) = w0 at *
  clear x0 x1 x2
  go_loopw [13] (fun k wr => ∃ j : Nat, k = .int .i64 j ∧ j ≤ 3 ∧ (1 ≤ j → r1 = 0) ∧ (2 ≤ j → r2 = 0) ∧ (3 ≤ j → r3 = 0) ∧ Below w.heap.size w wr) (fun k _ => 3 - (intOf k).toNat)
  case atStart => exact ⟨0, rfl, by omega, by omega, by omega, by omega, HB0.out⟩
  case round =>
    obtain ⟨j, rfl, hj, h1, h2, h3, hb⟩ := hrel
    have HB := Lib.hid hb
    have F1 := Lib.hid h1
    have F2 := Lib.hid h2
    have F3 := Lib.hid h3
    clear h1 h2 h3 hb
    obtain rfl | rfl | rfl | rfl : j = 0 ∨ j = 1 ∨ j = 2 ∨ j = 3 := by omega
    · by_cases hz : r1 = 0
      · subst hz
        go_wp2_with (go_at_call 71; refine (H1.out _).mono ?_; rintro e w' ⟨rfl, hb⟩)
        go_roundw
        case rel => exact ⟨1, by go_num, by omega, fun _ => (by trivial), fun h => absurd h (by decide), fun h => absurd h (by decide), below_chain HB.out (Nat.le_refl _) hb⟩
        case measure => simp [intOf]
      · have q : (r1 != 0) = true := by simpa using hz
        have HR0 : Hid (R = r1) := by show R = r1; rw [← HRes.out, if_pos hz]
        clear hz
        go_wp2_with (go_at_call 71; refine (H1.out _).mono ?_; rintro e w' ⟨rfl, hb⟩)
        go_ret
        exact ⟨by rw [HR0.out]; rfl, below_chain HB.out (Nat.le_refl _) hb⟩
    · by_cases hz : r2 = 0
      · subst hz
        go_wp2_with (go_at_call 72; refine (H2.out _).mono ?_; rintro e w' ⟨rfl, hb⟩)
        go_roundw
        case rel => exact ⟨2, by go_num, by omega, fun _ => F1.out (by omega), fun _ => (by trivial), fun h => absurd h (by decide), below_chain HB.out (Nat.le_refl _) hb⟩
        case measure => simp [intOf]
      · have q : (r2 != 0) = true := by simpa using hz
        have HR0 : Hid (R = r2) := by show R = r2; rw [← HRes.out, if_neg (by simpa using F1.out (by omega)), if_pos hz]
        clear hz
        go_wp2_with (go_at_call 72; refine (H2.out _).mono ?_; rintro e w' ⟨rfl, hb⟩)
        go_ret
        exact ⟨by rw [HR0.out]; rfl, below_chain HB.out (Nat.le_refl _) hb⟩
    · by_cases hz : r3 = 0
      · subst hz
        go_wp2_with (go_at_call 73; refine (H3.out _ HB.out).mono ?_; rintro e w' ⟨rfl, hb⟩)
        go_roundw
        case rel => exact ⟨3, by go_num, by omega, fun _ => F1.out (by omega), fun _ => F2.out (by omega), fun _ => (by trivial), below_chain HB.out (Nat.le_refl _) hb⟩
        case measure => simp [intOf]
      · have q : (r3 != 0) = true := by simpa using hz
        have HR0 : Hid (R = r3) := by show R = r3; rw [← HRes.out, if_neg (by simpa using F1.out (by omega)), if_neg (by simpa using F2.out (by omega))]
        clear hz
        go_wp2_with (go_at_call 73; refine (H3.out _ HB.out).mono ?_; rintro e w' ⟨rfl, hb⟩)
        go_ret
        exact ⟨by rw [HR0.out]; rfl, below_chain HB.out (Nat.le_refl _) hb⟩
    · have HR0 : Hid (R = 0) := by show R = 0; rw [← HRes.out, if_neg (by simpa using F1.out (by omega)), if_neg (by simpa using F2.out (by omega)), F3.out (by omega)]
      go_wp2_with fail
      go_ret
      exact ⟨by rw [HR0.out]; rfl, HB.out⟩

set_option maxHeartbeats 1000000 in
theorem yCheck_any {n₀ : Nat} {w : World} {av : Option Addr} {len cap : Nat} {ps : List (Int × Int)} (hR : RowP n₀ w av len cap ps) (hn : n₀ ≤ w.heap.size) (hlen : len ≤ 1000000) (dc : Int) (intra : Bool) :
    Calls Tryz.prog 23 #[.agg #[.int .i64 dc, .slice av len cap], .bool intra] w fun e w' => e = .returned (.int .i64 (chkY dc ps intra)) ∧ Below w.heap.size w w' := by
  obtain ⟨x0, x1⟩ := two_cells w (.int .i64 dc) (.slice av len cap) 27
  have hb0 : Below w.heap.size w (w.alloc (.cells #[.int .i64 dc, .slice av len cap] 27 (0, 0))) := (Below.refl _ w).alloc (Nat.le_refl _) _
  have HB := Lib.hid (yBroken_any (hR.below (hb0.mono hn)) (Nat.le_trans hn hb0.size) hlen dc intra)
  have HB0 := Lib.hid hb0
  rw [brkY_chk] at HB
  generalize chkY dc ps intra = r at *
  clear hR hb0
  go_enter Tryz.func23, Tryz.ntmps23
  go_wp2_with fail
  refine HB.out.mono ?_
  rintro e w1 ⟨rfl, b1⟩
  have B1 := Lib.hid (HB0.out.trans (b1.mono HB0.out.size))
  clear b1
  go_wp2_with fail
  go_ret
  exact ⟨rfl, B1.out⟩

end Go.Proofs.YtbcfiafgolcbpaaGreatDoor

/- block: Levels, worth, Residue over the landed code. -/
namespace Go.Proofs.YtbcfiafgolcbpaaGreatDoor
open Go.RowKit Go.Shelf
set_option linter.unusedVariables false

theorem interY_len (xs : List Int) (q : Int) : (interU xs q).2.length ≤ xs.length := by
  unfold interU
  split
  · simp
  · split <;> simp
theorem intraY_len (xs : List Int) (q c : Int) : (intraU xs q c).2.length ≤ xs.length := by
  have := interY_len xs q
  unfold intraU
  repeat' split
  all_goals simp
  all_goals omega
theorem ownI_base {w : World} {base base' : Nat} {v : Value} {xs : List Int} (h : OwnI w base v xs) (hb : base' ≤ base) : OwnI w base' v xs := by
  obtain ⟨t, h⟩ := h
  exact ⟨t, ownsRow_baseN h hb⟩
theorem sprR_fst (ps : List (Int × Int)) (b : Bool) : sprR ps (fstY b : Nat) = spr ps (fstY b) zeros64 := by
  unfold sprR fstY
  cases b <;> simp

set_option maxRecDepth 100000 in
set_option maxHeartbeats 2000000 in
theorem yLevels_any {n₀ : Nat} {w : World} {av : Option Addr} {len cap : Nat} {ps : List (Int × Int)} (hR : RowP n₀ w av len cap ps) (hn : n₀ ≤ w.heap.size) (hlen : len ≤ 1000000) (dc : Int) (intra : Bool) :
    Calls Tryz.prog 20 #[blkV dc (.slice av len cap), .bool intra] w fun e w' => ∃ v, e = .returned (.tuple #[v, .int .i64 (levelsY dc ps intra).1]) ∧ OwnI w' w.heap.size v (levelsY dc ps intra).2 ∧ Below w.heap.size w w' := by
  have hb0 : Below w.heap.size w (w.alloc (.cells #[.int .i64 dc, .slice av len cap] 27 (0, 0))) := (Below.refl _ w).alloc (Nat.le_refl _) _
  obtain ⟨x0, x1⟩ := two_cells w (.int .i64 dc) (.slice av len cap) 27
  have hlt : w.heap.size < (w.alloc (.cells #[.int .i64 dc, .slice av len cap] 27 (0, 0))).heap.size := by simp
  have HS := Lib.hid (fun (W : World) (hb : Below w.heap.size w W) => spreadZ_any (w := W) (hR.below (hb.mono hn)) (Nat.le_trans hn hb.size) hlen (fstY intra : Nat))
  rw [sprR_fst] at HS
  have HB0 := Lib.hid hb0
  have HC := Lib.hid (yCheck_any (hR.below (hb0.mono hn)) (Nat.le_trans hn hb0.size) hlen dc intra)
  have HF := Lib.hid (yFirst_any intra)
  clear hR hb0
  by_cases hck : chkY dc ps intra = 0
  · have e1 : (spr ps (fstY intra) zeros64).1 = 0 := (okPs_spr _ _ _ (by unfold fstY; split <;> omega)).2 (chkY_ok hck).2.2
    have e2 : levelsY dc ps intra = (0, (spr ps (fstY intra) zeros64).2) := by unfold levelsY; rw [if_neg (by simp [hck])]
    rw [e2]
    rw [e1] at HS
    rw [hck] at HC
    generalize (spr ps (fstY intra) zeros64).2 = ls at *
    clear e1 e2 hck
    go_enter Tryz.func20, Tryz.ntmps20
    go_wp2_with fail
    generalize w.alloc (.cells #[.int .i64 dc, .slice av len cap] 27 (0, 0)) = w0 at *
    refine HC.out.mono ?_
    rintro e w1 ⟨rfl, b1⟩
    have y1 := (b1.cell (p := ⟨w.heap.size, 1, none⟩) hlt).trans x1
    have B1 := Lib.hid (HB0.out.trans (b1.mono HB0.out.size))
    clear b1 x0 x1 HC
    go_wp2_with fail
    go_region_with (first
      | (go_at_call 44; refine (HF.out _).mono ?_; rintro e w' ⟨rfl, rfl⟩)
      | (go_at_call 43; refine (HS.out _ B1.out.drew).mono ?_; rintro e w2 ⟨v, rfl, ho, b2⟩; have B2 := Lib.hid (B1.out.drew.trans (b2.mono B1.out.drew.size)); have HO := Lib.hid ho))
    all_goals
      go_wp2_with fail
      go_ret2
      exact ⟨v, rfl, ownI_base HO.out (by have := B1.out.size; show w.heap.size ≤ w1.heap.size; omega), B2.out⟩
  · have e2 : levelsY dc ps intra = (chkY dc ps intra, []) := by unfold levelsY; rw [if_pos hck]
    rw [e2]
    generalize chkY dc ps intra = er at *
    have q3 : (er != 0) = true := by simpa using hck
    clear HS e2
    go_enter Tryz.func20, Tryz.ntmps20
    go_wp2_with fail
    generalize w.alloc (.cells #[.int .i64 dc, .slice av len cap] 27 (0, 0)) = w0 at *
    refine HC.out.mono ?_
    rintro e w1 ⟨rfl, b1⟩
    have B1 := Lib.hid (HB0.out.trans (b1.mono HB0.out.size))
    clear b1
    go_wp2_with fail
    go_ret2
    exact ⟨_, rfl, ownI_nil _ _, B1.out⟩


theorem yWorth_any {n₀ : Nat} {w : World} {av : Option Addr} {len cap : Nat} {xs : List Int} (hR : RowV n₀ w av len cap (intV xs)) (hn : n₀ ≤ w.heap.size) (hlen : len ≤ 1000000) (dc q : Int) (intra : Bool) :
    Calls Tryz.prog 47 #[.slice av len cap, .int .i64 dc, .int .i64 q, .bool intra] w fun e w' => ∃ v, e = .returned (.tuple #[v, .int .i64 (if intra then intraU xs q dc else interU xs q).1]) ∧ OwnI w' w.heap.size v (if intra then intraU xs q dc else interU xs q).2 ∧ Below w.heap.size w w' := by
  have H1 := Lib.hid (interU_any hR hn hlen q)
  have H2 := Lib.hid (intraU_any hR hn hlen q dc)
  clear hR
  cases intra with
  | false =>
    simp only [Bool.false_eq_true, if_false]
    generalize interU xs q = u at *
    go_enter Tryz.func47, Tryz.ntmps47
    go_wp2_with fail
    refine H1.out.mono ?_
    rintro e w1 ⟨v, rfl, ho, hb⟩
    go_wp2_with fail
    go_ret2
    exact ⟨v, rfl, ho, hb⟩
  | true =>
    simp only [if_true]
    generalize intraU xs q dc = u at *
    go_enter Tryz.func47, Tryz.ntmps47
    go_wp2_with fail
    refine H2.out.mono ?_
    rintro e w1 ⟨v, rfl, ho, hb⟩
    go_wp2_with fail
    go_ret2
    exact ⟨v, rfl, ho, hb⟩

theorem worth_len (xs : List Int) (q dc : Int) (intra : Bool) : (if intra then intraU xs q dc else interU xs q).2.length ≤ xs.length := by
  split
  · exact intraY_len _ _ _
  · exact interY_len _ _

set_option maxRecDepth 100000 in
set_option maxHeartbeats 2000000 in
theorem yResid_any {n₀ : Nat} {w : World} {av : Option Addr} {len cap : Nat} {ps : List (Int × Int)} (hR : RowP n₀ w av len cap ps) (hn : n₀ ≤ w.heap.size) (hlen : len ≤ 1000000) (dc q : Int) (intra : Bool) :
    Calls Tryz.prog 26 #[blkV dc (.slice av len cap), .int .i64 q, .bool intra] w fun e w' => ∃ v, e = .returned (.tuple #[v, .int .i64 (residY dc ps q intra).1]) ∧ OwnI w' w.heap.size v (residY dc ps q intra).2 ∧ Below w.heap.size w w' := by
  have hb0 : Below w.heap.size w (w.alloc (.cells #[.int .i64 dc, .slice av len cap] 27 (0, 0))) := (Below.refl _ w).alloc (Nat.le_refl _) _
  obtain ⟨x0, x1⟩ := two_cells w (.int .i64 dc) (.slice av len cap) 27
  have hlt : w.heap.size < (w.alloc (.cells #[.int .i64 dc, .slice av len cap] 27 (0, 0))).heap.size := by simp
  have HB0 := Lib.hid hb0
  have HC := Lib.hid (yLevels_any (hR.below (hb0.mono hn)) (Nat.le_trans hn hb0.size) hlen dc intra)
  clear hR hb0
  by_cases hck : chkY dc ps intra = 0
  · have e2 : levelsY dc ps intra = (0, (spr ps (fstY intra) zeros64).2) := by unfold levelsY; rw [if_neg (by simp [hck])]
    have e3 : residY dc ps q intra = if (worthY dc ps q intra).1 ≠ 0 then ((worthY dc ps q intra).1, []) else invR (worthY dc ps q intra).2 := by unfold residY; rw [if_neg (by simp [hck])]
    have e4 : worthY dc ps q intra = if intra then intraU (spr ps (fstY intra) zeros64).2 q dc else interU (spr ps (fstY intra) zeros64).2 q := by unfold worthY; rw [e2]
    have h64 : (spr ps (fstY intra) zeros64).2.length ≤ 64 := spr_len_le ps _ zeros64 (by decide)
    rw [e4] at e3
    obtain ⟨re, rl, hre⟩ : ∃ re rl, residY dc ps q intra = (re, rl) := ⟨_, _, rfl⟩
    rw [hre] at e3 ⊢
    rw [e2] at HC
    simp only at HC ⊢
    generalize (spr ps (fstY intra) zeros64).2 = ls at *
    have hwl := worth_len ls q dc intra
    have HWr := Lib.hid (fun (W : World) (n₁ : Nat) (a : Option Addr) (l c : Nat) (hr : RowV n₁ W a l c (intV ls)) (h1 : n₁ ≤ W.heap.size) (h2 : l ≤ 1000000) => yWorth_any hr h1 h2 dc q intra)
    have HE3 := Lib.hid e3
    clear e2 e3 e4 hck hre
    generalize (if intra then intraU ls q dc else interU ls q) = u at *
    obtain ⟨ue, ul⟩ := u
    simp only at hwl
    go_enter Tryz.func26, Tryz.ntmps26
    go_wp2_with fail
    generalize w.alloc (.cells #[.int .i64 dc, .slice av len cap] 27 (0, 0)) = w0 at *
    refine HC.out.mono ?_
    rintro e w1 ⟨lv, rfl, ⟨lt, lo⟩, b1⟩
    have y0 := (b1.cell (p := ⟨w.heap.size, 0, none⟩) hlt).trans x0
    have B1 := Lib.hid (HB0.out.trans (b1.mono HB0.out.size))
    obtain ⟨la, lc, rfl, hr⟩ := rowV_own4 lo
    have hlt1 : w.heap.size < w1.heap.size := by have := b1.size; omega
    clear b1 x0 x1 HC lo
    have HI := Lib.hid (HWr.out w1 _ _ _ _ hr (Nat.le_refl _) (by omega))
    clear hr HWr
    go_wp2_with fail
    refine HI.out.mono ?_
    rintro e w2 ⟨v2, rfl, ⟨t2, o2⟩, b2⟩
    obtain ⟨a2, c2, rfl, hr2⟩ := rowV_own4 o2
    have B2 := Lib.hid (B1.out.trans (b2.mono B1.out.size))
    have HV := Lib.hid (inv11_any hr2 (Nat.le_refl _) (by omega))
    clear b2 y0 o2 hr2
    by_cases hu : ue = 0
    · subst hu
      have hres := HE3.out
      simp only [ne_eq, not_true_eq_false, if_false] at hres
      obtain ⟨hr1, hr2'⟩ := Prod.mk.inj (hres.trans (Prod.eta _).symm)
      go_wp2_with fail
      refine HV.out.mono ?_
      rintro e w3 ⟨v3, rfl, o3, b3⟩
      have B3 := Lib.hid (B2.out.trans (b3.mono B2.out.size))
      have hsz2 := B2.out.size
      go_wp2_with fail
      go_ret2
      exact ⟨_, by first | rfl | (rw [hr1]; rfl), by first | exact ownI_base o3 hsz2 | (rw [hr2']; exact ownI_base o3 hsz2), B3.out⟩
    · have hres := HE3.out
      have q3 : (ue != 0) = true := by simpa using hu
      rw [if_pos hu] at hres
      obtain ⟨hr1, hr2'⟩ := Prod.mk.inj hres
      go_wp2_with fail
      go_ret2
      exact ⟨_, by first | rfl | (rw [hr1]; rfl), by first | exact ownI_nil _ _ | (rw [hr2']; exact ownI_nil _ _), B2.out⟩
  · have e2 : levelsY dc ps intra = (chkY dc ps intra, []) := by unfold levelsY; rw [if_pos hck]
    have e3 : residY dc ps q intra = (chkY dc ps intra, []) := by unfold residY; rw [if_pos hck]
    rw [e3]
    rw [e2] at HC
    generalize chkY dc ps intra = er at *
    have q3 : (er != 0) = true := by simpa using hck
    clear e2 e3
    go_enter Tryz.func26, Tryz.ntmps26
    go_wp2_with fail
    generalize w.alloc (.cells #[.int .i64 dc, .slice av len cap] 27 (0, 0)) = w0 at *
    refine HC.out.mono ?_
    rintro e w1 ⟨lv, rfl, _, b1⟩
    have B1 := Lib.hid (HB0.out.trans (b1.mono HB0.out.size))
    clear b1
    go_wp2_with fail
    go_ret2
    exact ⟨_, rfl, ownI_nil _ _, B1.out⟩

end Go.Proofs.YtbcfiafgolcbpaaGreatDoor
