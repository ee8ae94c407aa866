/- Contracts of prefix's isCode, mayBe and text. -/
import Derived.Test.YtichkoilhnkmkaaDoorBuilder
import Derived.Test.YtichkoilhnkmkaaDoorPMap
import Derived.Shelf.Strings.SlTrimAscii
namespace Go.Proofs.YtichkoilhnkmkaaDoor
open Go.RowKit Go.Shelf
set_option linter.unusedVariables false

theorem dropWhile_nil {p : UInt8 → Bool} (l : List UInt8) : l.dropWhile p = [] ↔ ∀ z ∈ l, p z = true := by
  induction l with
  | nil => simp
  | cons a l ih =>
    rw [List.dropWhile_cons]
    cases h : p a with
    | true => simp [h, ih]
    | false => simp [h]
theorem takeWhile_all {p : UInt8 → Bool} (l : List UInt8) : ∀ z ∈ l.takeWhile p, p z = true := by
  induction l with
  | nil => simp
  | cons a l ih =>
    rw [List.takeWhile_cons]
    cases h : p a with
    | true =>
      intro z hz
      rcases List.mem_cons.1 hz with rfl | hz
      · exact h
      · exact ih z hz
    | false => simp
theorem trim_bits (l : List UInt8) : (Lib.trimS l [48, 49] = []) ↔ l.all (fun z => z == 48 || z == 49) = true := by
  have hp : ∀ z : UInt8, ([48, 49] : List UInt8).contains z = (z == 48 || z == 49) := fun z => by simp [List.contains, List.elem]; cases (z == 48) <;> cases (z == 49) <;> rfl
  constructor
  · intro h
    unfold Lib.trimS Lib.trimLeftS at h
    rw [dropWhile_nil] at h
    rw [List.all_eq_true]
    -- what is left behind the right trim is all bits; what was cut off is too
    intro z hz
    rw [← hp]
    unfold Lib.trimRightS at h
    have e : l.reverse = l.reverse.takeWhile (([48, 49] : List UInt8).contains ·) ++ l.reverse.dropWhile (([48, 49] : List UInt8).contains ·) := List.takeWhile_append_dropWhile.symm
    have hz' : z ∈ l.reverse := by simpa using hz
    rw [e] at hz'
    rcases List.mem_append.1 hz' with h1 | h1
    · exact takeWhile_all _ z h1
    · exact h z (by simpa using h1)
  · intro h
    have hall : ∀ z ∈ l, ([48, 49] : List UInt8).contains z = true := fun z hz => by rw [hp]; exact List.all_eq_true.1 h z hz
    have e : Lib.trimRightS l [48, 49] = [] := by
      unfold Lib.trimRightS
      have : l.reverse.dropWhile (([48, 49] : List UInt8).contains ·) = [] := by
        rw [dropWhile_nil]
        exact fun z hz => hall z (by simpa using hz)
      rw [this]; rfl
    unfold Lib.trimS
    rw [e]
    rfl

set_option maxRecDepth 100000 in
set_option maxHeartbeats 1000000 in
theorem isCode_any (s : ByteArray) (w : World) (hsz : s.size ≤ 9223372036854775807) :
    Calls Tryd.prog 66 #[.string s] w fun e w' => e = .returned (.bool (codeB s)) ∧ Below w.heap.size w w' := by
  have hd : (1 ≤ (s.size : Int)) ↔ 1 ≤ s.size := by omega
  by_cases h1 : 1 ≤ s.size
  · by_cases h2 : s.size ≤ 24
    · have hcon := Any.strings_Trim_laid Tryd.lays160 (by kernel_rfl) s ⟨#[48, 49]⟩ w hsz (by decide) (ascii_of_all (by decide))
      change Calls Tryd.prog 73 _ _ (fun e w' => e = .returned (.string ⟨(Lib.trimS s.data.toList [48, 49]).toArray⟩) ∧ Below w.heap.size w w') at hcon
      have HC := Lib.hid hcon
      clear hcon
      have d1 : decide (1 ≤ (s.size : Int)) = true := decide_eq_true (by omega)
      have d2 : decide ((s.size : Int) ≤ 24) = true := decide_eq_true (by omega)
      have HE : Hid (codeB s = decide ((⟨(Lib.trimS s.data.toList [48, 49]).toArray⟩ : ByteArray) = ⟨#[]⟩)) := by
        show codeB s = _
        unfold codeB
        rw [decide_eq_true h1, decide_eq_true h2, Bool.and_true, Bool.and_true]
        rw [Bool.eq_iff_iff, decide_eq_true_eq]
        unfold allB
        rw [← trim_bits]
        constructor
        · intro e; rw [e]
        · intro e
          have := congrArg (fun x : ByteArray => x.data.toList) e
          simpa using this
      generalize (⟨(Lib.trimS s.data.toList [48, 49]).toArray⟩ : ByteArray) = r at *
      by_cases hr : r = ⟨#[]⟩
      · have HE2 : Hid (codeB s = true) := by
          show codeB s = true
          rw [HE.out, decide_eq_true hr]
        subst hr
        go_enter Tryd.func66, Tryd.ntmps66
        go_wp2_with (go_at_call 73; refine HC.out.mono ?_; rintro e w' ⟨rfl, hb⟩)
        go_ret
        exact ⟨ret_bool HE2.out.symm, hb⟩
      · have HE2 : Hid (codeB s = false) := by
          show codeB s = false
          rw [HE.out, decide_eq_false hr]
        have hz : r.toList ≠ [] := by
          intro e
          rw [ByteArray.toList_eq] at e
          exact hr (ByteArray.ext (Array.toList_inj.1 e))
        have hz1 : r.toList.isEmpty = false := by simpa using hz
        go_enter Tryd.func66, Tryd.ntmps66
        go_wp2_with (go_at_call 73; refine HC.out.mono ?_; rintro e w' ⟨rfl, hb⟩)
        go_ret
        exact ⟨ret_bool HE2.out.symm, hb⟩
    · have HE : Hid (codeB s = false) := by
        show codeB s = false
        unfold codeB; rw [decide_eq_false h2, Bool.and_false]
      have d1 : decide (1 ≤ (s.size : Int)) = true := decide_eq_true (by omega)
      have d2 : decide ((s.size : Int) ≤ 24) = false := decide_eq_false (by omega)
      go_enter Tryd.func66, Tryd.ntmps66
      go_wp2
      go_ret
      exact ⟨ret_bool HE.out.symm, Below.refl _ _⟩
  · have HE : Hid (codeB s = false) := by
      show codeB s = false
      unfold codeB; rw [decide_eq_false h1, Bool.and_false, Bool.false_and]
    have d1 : decide (1 ≤ (s.size : Int)) = false := decide_eq_false (by omega)
    go_enter Tryd.func66, Tryd.ntmps66
    go_wp2
    go_ret
    exact ⟨ret_bool HE.out.symm, Below.refl _ _⟩

/-- may they be? -/
def mayB (codes : List ByteArray) (nums : List Int) : Bool := decide (codes.length = nums.length ∧ codes.length ≠ 0 ∧ codes.length ≤ 300) && codes.all codeB

set_option maxRecDepth 100000 in
set_option maxHeartbeats 2000000 in
theorem mayBe_any {w : World} {a a' : Option Addr} {len cap len' cap' : Nat} {cs : List ByteArray} {ns : List Int} (hC : RowV w.heap.size w a len cap (strV cs)) (hN : RowV w.heap.size w a' len' cap' (intV ns)) (hsz : ∀ s ∈ cs, s.size ≤ 9223372036854775807) :
    Calls Tryd.prog 54 #[.slice a len cap, .slice a' len' cap'] w fun e w' => e = .returned (.bool (mayB cs ns)) ∧ Below w.heap.size w w' := by
  have e1 : cs.length = len := by have := hC.1; simpa using this
  have e2 : ns.length = len' := by have := hN.1; simpa using this
  subst e1
  subst e2
  have hc1 := hC.2.1
  have hc2 := hC.2.2.1
  have hd1 := hN.2.1
  have hd2 := hN.2.2.1
  have HC := Lib.hid hC
  have HSz : Hid (∀ j, j < cs.length → (cs[j]?.getD ⟨#[]⟩).size ≤ 9223372036854775807) := fun j hj => by
    have := hsz cs[j] (List.getElem_mem _)
    simpa [hj] using this
  clear hC hN hsz
  by_cases hbad : cs.length ≠ ns.length ∨ cs.length = 0 ∨ 300 < cs.length
  · have HM : Hid (mayB cs ns = false) := by
      show mayB cs ns = false
      unfold mayB
      rw [decide_eq_false (by omega), Bool.false_and]
    by_cases h1 : cs.length = ns.length
    · have HL := Lib.hid h1
      have t1 : ((cs.length : Int) != (ns.length : Int)) = false := by rw [h1]; simp
      clear h1
      by_cases h2 : cs.length = 0
      · have HL2 := Lib.hid h2
        have t2 : ((cs.length : Int) == 0) = true := by rw [h2]; rfl
        clear h2 hbad
        go_enter Tryd.func54, Tryd.ntmps54
        go_wp2
        go_ret
        exact ⟨ret_bool HM.out.symm, Below.refl _ _⟩
      · have t2 : ((cs.length : Int) == 0) = false := beq_eq_false_iff_ne.2 (by omega)
        have t3 : decide (300 < (cs.length : Int)) = true := by have := HL.out; simp; omega
        clear h2 hbad
        go_enter Tryd.func54, Tryd.ntmps54
        go_wp2
        go_ret
        exact ⟨ret_bool HM.out.symm, Below.refl _ _⟩
    · have t1 : ((cs.length : Int) != (ns.length : Int)) = true := bne_iff_ne.2 (by omega)
      clear hbad h1
      go_enter Tryd.func54, Tryd.ntmps54
      go_wp2
      go_ret
      exact ⟨ret_bool HM.out.symm, Below.refl _ _⟩
  · have HM : Hid (mayB cs ns = cs.all codeB) := by
      show mayB cs ns = _
      unfold mayB
      rw [decide_eq_true (by omega), Bool.true_and]
    have t1 : ((cs.length : Int) != (ns.length : Int)) = false := by
      have : cs.length = ns.length := by omega
      rw [this]; simp
    have t2 : ((cs.length : Int) == 0) = false := beq_eq_false_iff_ne.2 (by omega)
    have t3 : decide (300 < (cs.length : Int)) = false := by simp; omega
    clear hbad
    go_enter Tryd.func54, Tryd.ntmps54
    go_wp2
    go_loopw [24] (fun i wr => ∃ k : Nat, k ≤ cs.length ∧ i = .int .i64 k ∧ (∀ j, j < k → codeB (cs[j]?.getD ⟨#[]⟩) = true) ∧ Below w.heap.size w wr) (fun i _ => cs.length - (intOf i).toNat)
    case atStart => exact ⟨0, by omega, rfl, fun j hj => by omega, Below.refl _ _⟩
    case round =>
      obtain ⟨k, hk, rfl, hall, hb⟩ := hrel
      have HA := Lib.hid hall
      have HB := Lib.hid hb
      clear hall hb
      by_cases hlt : k < cs.length
      · obtain ⟨b, off, rfl, hbl, hc⟩ := HC.out.cells (by omega)
        have hcell : wr.cell? ⟨b, off + k, none⟩ = some (.string (cs[k]?.getD ⟨#[]⟩)) := (HB.out.cell (p := ⟨b, off + k, none⟩) hbl).trans (hc k _ (show (strV cs)[k]? = some (.string (cs[k]?.getD ⟨#[]⟩)) by simp [hlt]))
        have hok := HSz.out k hlt
        have hd1 : decide ((k : Int) < (cs.length : Int)) = true := decide_eq_true (by omega)
        have HBad : Hid (codeB (cs[k]?.getD ⟨#[]⟩) = false → mayB cs ns = false) := by
          intro h
          rw [HM.out]; exact not_all hlt h
        clear hc
        generalize hs : cs[k]?.getD ⟨#[]⟩ = s at *
        have HS := Lib.hid hs
        clear hs
        have HI := Lib.hid (isCode_any s wr hok)
        cases hcb : codeB s with
        | true =>
          have HCb := Lib.hid hcb
          rw [hcb] at HI
          clear hcb HBad
          go_wp2_with (go_at_call 66; refine HI.out.mono ?_; rintro e w' ⟨rfl, hb2⟩)
          go_roundw
          case rel => exact ⟨k + 1, by omega, by go_num, fun j hj => by
            by_cases e : j = k
            · subst e; rw [HS.out]; exact HCb.out
            · exact HA.out j (by omega), HB.out.trans (hb2.mono HB.out.size)⟩
          case measure => simp [intOf]; omega
        | false =>
          have HN : Hid (mayB cs ns = false) := HBad.out hcb
          rw [hcb] at HI
          clear hcb HBad
          go_wp2_with (go_at_call 66; refine HI.out.mono ?_; rintro e w' ⟨rfl, hb2⟩)
          go_ret
          exact ⟨ret_bool HN.out.symm, HB.out.trans (hb2.mono HB.out.size)⟩
      · have hkn : k = cs.length := by omega
        subst hkn
        have HN : Hid (mayB cs ns = true) := by show mayB cs ns = true; rw [HM.out]; exact all_codes HA.out
        go_wp2
        go_ret
        exact ⟨ret_bool HN.out.symm, HB.out⟩

/-! ### text -/
theorem shr_and1 (x m : Nat) (y : Int) (hy : y = 48 + (x / 2 ^ m % 2 : Nat)) : (48 + bits .and .i64 ((x : Int) / 2 ^ m) 1) % 256 = y := by
  rw [i64_and1, hy]
  have e : ((x : Int) / 2 ^ m) = ((x / 2 ^ m : Nat) : Int) := by rw [Int.natCast_ediv, Int.natCast_pow]; rfl
  rw [e]
  omega
theorem bitsL_at {s : ByteArray} (hs : AllBits s) {i : Nat} (hi : i < s.size) : (s[i].toNat : Int) = 48 + (numOf (bitsL s) / 2 ^ (s.size - 1 - i) % 2 : Nat) := by
  have h1 := numOf_bit (bitsL_low hs) i (by rw [bitsL_len]; exact hi)
  have e0 : (bitsL s).length - 1 - i = s.size - 1 - i := by rw [bitsL_len]
  rw [e0] at h1
  rw [h1]
  have e : (bitsL s)[i]'(by rw [bitsL_len]; exact hi) = s[i].toNat - 48 := by
    unfold bitsL
    rw [List.getElem_map]
    have : s.data.toList[i]'(by simpa using hi) = s[i] := by simp; rfl
    rw [this]
  rw [e]
  rcases hs i hi with h | h
  · rw [h]; rfl
  · rw [h]; rfl

end Go.Proofs.YtichkoilhnkmkaaDoor
