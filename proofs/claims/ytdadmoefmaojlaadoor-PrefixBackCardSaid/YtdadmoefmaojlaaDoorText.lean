/- Texts of bits: strings.ContainsFunc at bits.isNoBit; the contract of (*bits.Pen).Code. -/
import Derived.Test.YtdadmoefmaojlaaDoorPen2
import Derived.Lib.OthersKept
import Derived.Laws.RangeAny
import Derived.Deep.LoopGhost
namespace Go.Proofs.YtdadmoefmaojlaaDoor
open Go.RowKit Go.Shelf
set_option linter.unusedVariables false

def noBit (r : Int) : Bool := !(r == 48) && !(r == 49)
set_option maxHeartbeats 400000 in
theorem isNoBit_any (r : Int) (w : World) : Calls Tryd.prog 44 #[.int .i32 r] w fun e w' => e = .returned (.bool (noBit r)) ∧ w = w' := by
  unfold noBit
  by_cases h1 : r = 48
  · subst h1
    go_enter Tryd.func44, Tryd.ntmps44
    go_wp2
    go_ret
    exact ⟨rfl, rfl⟩
  · have h1' : (r == 48) = false := by simpa using h1
    have h1'' : (r != 48) = true := by simpa using h1
    go_enter Tryd.func44, Tryd.ntmps44
    go_wp2
    go_ret
    exact ⟨by simp [h1, bne], rfl⟩

/-- nothing but noughts and ones -/
def AllBits (s : ByteArray) : Prop := ∀ i (h : i < s.size), s[i] = 48 ∨ s[i] = 49
/-- the rune at a place -/
theorem rune_at (s : ByteArray) (i : Nat) (h : i < s.size) : noBit ((Utf8.decode s i).1 : Nat) = !(s[i] == 48 || s[i] == 49) ∧ ((s[i] = 48 ∨ s[i] = 49) → Utf8.decode s i = (s[i].toNat, 1)) := by
  by_cases ha : s[i].toNat < 128
  · rw [decode_ascii s i h ha]
    refine ⟨?_, fun _ => rfl⟩
    have e1 : ((s[i].toNat : Int) == 48) = (s[i] == 48) := by
      rw [Bool.eq_iff_iff]; simp only [beq_iff_eq]; rw [← UInt8.toNat_inj]
      show _ ↔ s[i].toNat = 48; omega
    have e2 : ((s[i].toNat : Int) == 49) = (s[i] == 49) := by
      rw [Bool.eq_iff_iff]; simp only [beq_iff_eq]; rw [← UInt8.toNat_inj]
      show _ ↔ s[i].toNat = 49; omega
    simp [noBit, e1, e2]
  · have hd := (decode_high s i h (by omega)).1
    have n1 : s[i] ≠ 48 := fun e => by rw [e] at ha; exact ha (by decide)
    have n2 : s[i] ≠ 49 := fun e => by rw [e] at ha; exact ha (by decide)
    refine ⟨?_, fun h => by rcases h with h | h <;> contradiction⟩
    have e1 : (((Utf8.decode s i).1 : Int) == 48) = false := by simp; omega
    have e2 : (((Utf8.decode s i).1 : Int) == 49) = false := by simp; omega
    have e3 : (s[i] == 48) = false := by simpa using n1
    have e4 : (s[i] == 49) = false := by simpa using n2
    unfold noBit
    rw [e1, e2, e3, e4]
    rfl

set_option maxRecDepth 100000 in
set_option maxHeartbeats 1000000 in
theorem indexFunc_none (s : ByteArray) (w : World) (hs : AllBits s) :
    Calls Tryd.prog 62 #[.string s, .func (.func 44) #[] #[], .bool true] w fun e w' => e = .returned (.int .i64 (-1)) ∧ Below w.heap.size w w' := by
  have HS := Lib.hid hs
  clear hs
  go_enter Tryd.func62, Tryd.ntmps62
  go_wp2
  go_loopg [] s.size (fun gf wx => ∃ pos : Nat, wx.heap[w.heap.size]? = some (.stringIter s pos) ∧ Below w.heap.size w wx ∧ pos + gf = s.size)
  case atStart => exact ⟨0, World.iter_heap w s 0, (Below.refl _ w).alloc (Nat.le_refl _) _, by omega⟩
  case round =>
    obtain ⟨pos, hit, hbw, hfu⟩ := hrel
    by_cases hps : pos < s.size
    · obtain ⟨g', rfl⟩ : ∃ g', gk = g' + 1 := ⟨gk - 1, by omega⟩
      have hnx : ∀ ty, (Instr.next (.pointer (some ⟨w.heap.size, 0, none⟩)) true ty).run Tryd.prog wr = _ := fun ty => Lib.run_next_any_at wr w.heap.size s pos ty hit hps
      have hr := rune_at s pos hps
      have hd := hr.2 (HS.out pos hps)
      have hb : noBit ((s[pos].toNat : Nat) : Int) = false := by
        have := hr.1; rw [hd] at this; rw [this]; rcases HS.out pos hps with h | h <;> simp [h]
      rw [hd] at hnx
      have hit2 := Lib.iterAt_heap wr w.heap.size s pos (pos + 1) hit
      have hbw2 := Lib.below_iterAt hbw (k := w.heap.size) (Nat.le_refl _) s (pos + 1)
      obtain ⟨W, hWd⟩ : ∃ W, wr.iterAt w.heap.size s (pos + 1) = W := ⟨_, rfl⟩
      simp only at hnx
      rw [hWd] at hnx hit2 hbw2
      have cS := isNoBit_any ((s[pos].toNat : Nat) : Int) W
      rw [hb] at cS
      have HCS := Lib.hid cS
      have HFU := Lib.hid hfu
      clear cS hr hd hb hfu hWd
      generalize s[pos].toNat = R at *
      go_wp2_with (go_at_call 44; refine HCS.out.mono ?_; rintro e W' ⟨rfl, rfl⟩)
      go_roundg g'
      case measure => omega
      case rel => exact ⟨pos + 1, hit2, hbw2, by have := HFU.out; omega⟩
    · have hnx := fun ty => Lib.run_next_end_at (P := Tryd.prog) wr w.heap.size s pos ty hit hps
      go_wp2
      go_ret
      exact ⟨rfl, hbw⟩

set_option maxRecDepth 100000 in
set_option maxHeartbeats 1000000 in
theorem indexFunc_some (s : ByteArray) (w : World) (k : Nat) (hk : k < s.size) (hs : ∀ i (h : i < s.size), i < k → s[i] = 48 ∨ s[i] = 49) (hb : ¬ (s[k] = 48 ∨ s[k] = 49)) :
    Calls Tryd.prog 62 #[.string s, .func (.func 44) #[] #[], .bool true] w fun e w' => e = .returned (.int .i64 k) ∧ Below w.heap.size w w' := by
  have HS := Lib.hid hs
  have HB := Lib.hid hb
  clear hs hb
  go_enter Tryd.func62, Tryd.ntmps62
  go_wp2
  go_loopg [] k (fun gf wx => ∃ pos : Nat, wx.heap[w.heap.size]? = some (.stringIter s pos) ∧ Below w.heap.size w wx ∧ pos + gf = k)
  case atStart => exact ⟨0, World.iter_heap w s 0, (Below.refl _ w).alloc (Nat.le_refl _) _, by omega⟩
  case round =>
    obtain ⟨pos, hit, hbw, hfu⟩ := hrel
    by_cases hps : pos < k
    · have hpk : pos < s.size := Nat.lt_trans hps hk
      obtain ⟨g', rfl⟩ : ∃ g', gk = g' + 1 := ⟨gk - 1, by omega⟩
      have hnx : ∀ ty, (Instr.next (.pointer (some ⟨w.heap.size, 0, none⟩)) true ty).run Tryd.prog wr = _ := fun ty => Lib.run_next_any_at wr w.heap.size s pos ty hit hpk
      have hr := rune_at s pos hpk
      have hd := hr.2 (HS.out pos hpk hps)
      have hb : noBit ((s[pos].toNat : Nat) : Int) = false := by
        have := hr.1; rw [hd] at this; rw [this]; rcases HS.out pos hpk hps with h | h <;> simp [h]
      rw [hd] at hnx
      have hit2 := Lib.iterAt_heap wr w.heap.size s pos (pos + 1) hit
      have hbw2 := Lib.below_iterAt hbw (k := w.heap.size) (Nat.le_refl _) s (pos + 1)
      obtain ⟨W, hWd⟩ : ∃ W, wr.iterAt w.heap.size s (pos + 1) = W := ⟨_, rfl⟩
      simp only at hnx
      rw [hWd] at hnx hit2 hbw2
      have cS := isNoBit_any ((s[pos].toNat : Nat) : Int) W
      rw [hb] at cS
      have HCS := Lib.hid cS
      have HFU := Lib.hid hfu
      clear cS hr hd hb hfu hWd
      generalize s[pos].toNat = R at *
      go_wp2_with (go_at_call 44; refine HCS.out.mono ?_; rintro e W' ⟨rfl, rfl⟩)
      go_roundg g'
      case measure => omega
      case rel => exact ⟨pos + 1, hit2, hbw2, by have := HFU.out; omega⟩
    · obtain rfl : pos = k := by omega
      have hnx : ∀ ty, (Instr.next (.pointer (some ⟨w.heap.size, 0, none⟩)) true ty).run Tryd.prog wr = _ := fun ty => Lib.run_next_any_at wr w.heap.size s pos ty hit hk
      have hr := (rune_at s pos hk).1
      have hb : noBit ((Utf8.decode s pos).1 : Nat) = true := by
        rw [hr]; have := HB.out; simp at this ⊢; exact this
      have hbw2 := Lib.below_iterAt hbw (k := w.heap.size) (Nat.le_refl _) s (pos + (Utf8.decode s pos).2)
      obtain ⟨W, hWd⟩ : ∃ W, wr.iterAt w.heap.size s (pos + (Utf8.decode s pos).2) = W := ⟨_, rfl⟩
      rw [hWd] at hnx hbw2
      have cS := isNoBit_any ((Utf8.decode s pos).1 : Nat) W
      rw [hb] at cS
      have HCS := Lib.hid cS
      clear cS hr hb hfu hWd HB
      generalize (Utf8.decode s pos).1 = R at *
      go_wp2_with (go_at_call 44; refine HCS.out.mono ?_; rintro e W' ⟨rfl, rfl⟩)
      go_ret
      exact ⟨rfl, hbw2⟩

theorem first_bad (s : ByteArray) (h : ¬ AllBits s) : ∃ k, ∃ hk : k < s.size, (∀ i (h : i < s.size), i < k → s[i] = 48 ∨ s[i] = 49) ∧ ¬ (s[k] = 48 ∨ s[k] = 49) := by
  have key : ∀ n, n ≤ s.size → (∀ i (h : i < s.size), i < n → s[i] = 48 ∨ s[i] = 49) ∨ ∃ k, ∃ hk : k < s.size, (∀ i (h : i < s.size), i < k → s[i] = 48 ∨ s[i] = 49) ∧ ¬ (s[k] = 48 ∨ s[k] = 49) := by
    intro n
    induction n with
    | zero => intro _; exact .inl fun i _ h => by omega
    | succ n ih =>
      intro hn
      rcases ih (by omega) with h1 | h1
      · by_cases hb : s[n] = 48 ∨ s[n] = 49
        · refine .inl fun i hi hlt => ?_
          by_cases e : i = n
          · subst e; exact hb
          · exact h1 i hi (by omega)
        · exact .inr ⟨n, by omega, h1, hb⟩
      · exact .inr h1
  rcases key s.size (Nat.le_refl _) with h1 | h1
  · exact absurd (fun i hi => h1 i hi hi) h
  · exact h1

theorem contains_none (s : ByteArray) (w : World) (hs : AllBits s) :
    Calls Tryd.prog 43 #[.string s, .func (.func 44) #[] #[]] w fun e w' => e = .returned (.bool false) ∧ Below w.heap.size w w' := by
  have HS := Lib.hid (indexFunc_none s w hs)
  clear hs
  go_enter Tryd.func43, Tryd.ntmps43
  go_wp2_with (first | (go_at_call 62; refine HS.out.mono ?_; rintro e W' ⟨rfl, hb⟩) | go_in)
  go_ret
  exact ⟨rfl, hb⟩
theorem contains_some (s : ByteArray) (w : World) (hs : ¬ AllBits s) :
    Calls Tryd.prog 43 #[.string s, .func (.func 44) #[] #[]] w fun e w' => e = .returned (.bool true) ∧ Below w.heap.size w w' := by
  obtain ⟨k, hk, h1, h2⟩ := first_bad s hs
  have HS := Lib.hid (indexFunc_some s w k hk h1 h2)
  have h0 : (0 : Int) ≤ (k : Int) := by omega
  clear hs h1 h2
  go_enter Tryd.func43, Tryd.ntmps43
  go_wp2_with (first | (go_at_call 62; refine HS.out.mono ?_; rintro e W' ⟨rfl, hb⟩) | go_in)
  go_ret
  exact ⟨rfl, hb⟩

/-- the bits that a text spells -/
def textBits (s : ByteArray) : List Bool := s.data.toList.map (· == 49)
theorem textBits_len (s : ByteArray) : (textBits s).length = s.size := by simp [textBits]
theorem textBits_take (s : ByteArray) (i : Nat) (h : i < s.size) : (textBits s).take (i + 1) = (textBits s).take i ++ [s[i] == 49] := by
  rw [List.take_add_one, List.getElem?_eq_getElem (by rw [textBits_len]; exact h)]
  simp [textBits]
  rfl
def allB (s : ByteArray) : Bool := s.data.toList.all fun z => z == 48 || z == 49
theorem allB_iff (s : ByteArray) : allB s = true ↔ AllBits s := by
  unfold allB AllBits
  rw [List.all_eq_true]
  constructor
  · intro h i hi
    have := h s[i] (by rw [Array.mem_toList_iff]; exact Array.getElem_mem _)
    simpa using this
  · intro h z hz
    rw [Array.mem_toList_iff] at hz
    obtain ⟨i, hi, rfl⟩ := Array.mem_iff_getElem.1 hz
    have hb : s.data[i] = 48 ∨ s.data[i] = 49 := h i hi
    simpa using hb
def codeE (L : List Bool) (s : ByteArray) : Int := if allB s then (if 16777216 - (L.length : Int) < s.size then 4 else 0) else 14
def codeL (L : List Bool) (s : ByteArray) : List Bool := if codeE L s = 0 then L ++ textBits s else L

theorem IsPen.iter {w : World} {b k pos : Nat} {g : Option Nat} {L : List Bool} {s : ByteArray} (h : IsPen w b g L) (hk : w.heap[k]? = some (.stringIter s pos)) : k ≠ b ∧ g ≠ some k := by
  obtain ⟨v, zs, rfl, hb, hr, _⟩ := h
  refine ⟨fun e => by subst e; rw [hb] at hk; simp [penCells] at hk, fun e => ?_⟩
  rcases hr.2 with ⟨rfl, _⟩ | ⟨g', cap, cur, rfl, _, hg, _⟩
  · simp [Value.ownBlock] at e
  · simp [Value.ownBlock] at e
    subst e
    rw [hg] at hk
    simp at hk
theorem bar_iterAt (w : World) (k : Nat) (s : ByteArray) (pos : Nat) : Bar (fun j => j = k) w (w.iterAt k s pos) :=
  ⟨rfl, rfl, rfl, by rw [Lib.iterAt_size]; exact Nat.le_refl _, fun j _ hn => Lib.iterAt_other w k j s pos hn⟩

set_option maxRecDepth 100000 in
set_option maxHeartbeats 1000000 in
theorem code_form {w : World} {b : Nat} {g : Option Nat} {L : List Bool} (h : IsPen w b g L) (s : ByteArray) (hs : ¬ AllBits s) :
    Calls Tryd.prog 27 #[.pointer (some ⟨b, 0, none⟩), .string s] w fun e w' => e = .returned (.int .i64 14) ∧ Below w.heap.size w w' := by
  have HM := Lib.hid (made_any h)
  have HC := Lib.hid (contains_some s w hs)
  clear h hs
  go_enter Tryd.func27, Tryd.ntmps27
  go_wp2_with (first | (go_at_call 42; refine HM.out.mono ?_; rintro e w' ⟨rfl, rfl⟩) | (go_at_call 43; refine HC.out.mono ?_; rintro e W' ⟨rfl, hb⟩))
  go_ret
  exact ⟨rfl, hb⟩

set_option maxRecDepth 100000 in
set_option maxHeartbeats 1000000 in
theorem code_long {w : World} {b : Nat} {g : Option Nat} {L : List Bool} (h : IsPen w b g L) (s : ByteArray) (hs : AllBits s) (hl : 16777216 - (L.length : Int) < s.size) (hs2 : s.size ≤ 9223372036854775807) :
    Calls Tryd.prog 27 #[.pointer (some ⟨b, 0, none⟩), .string s] w fun e w' => e = .returned (.int .i64 4) ∧ Below w.heap.size w w' := by
  have HM := Lib.hid (made_any h)
  have HC := Lib.hid (contains_none s w hs)
  have HR := Lib.hid (fun W (hb : Below w.heap.size w W) => room_any (h.bar (bar_of_below (S := fun _ => False) hb) (fun e => e) (fun _ _ e => e)))
  clear h hs
  go_enter Tryd.func27, Tryd.ntmps27
  go_wp2_with (first | (go_at_call 42; refine HM.out.mono ?_; rintro e w' ⟨rfl, rfl⟩) | (go_at_call 43; refine HC.out.mono ?_; rintro e W' ⟨rfl, hb⟩) | (go_at_call 45; refine (HR.out _ (by assumption)).mono ?_; rintro e w' ⟨rfl, rfl⟩))
  go_ret
  exact ⟨rfl, by assumption⟩

set_option maxRecDepth 100000 in
set_option maxHeartbeats 1000000 in
theorem code_ok {w : World} {b : Nat} {g : Option Nat} {L : List Bool} (h : IsPen w b g L) (s : ByteArray) (hs : AllBits s) (hl : L.length + s.size ≤ 16777216) :
    Calls Tryd.prog 27 #[.pointer (some ⟨b, 0, none⟩), .string s] w fun e w' => e = .returned (.int .i64 0) ∧ Wrote w w' b g (L ++ textBits s) := by
  have HM := Lib.hid (made_any h)
  have HC := Lib.hid (contains_none s w hs)
  have HP := Lib.hid (fun W (hb : Below w.heap.size w W) => (h.bar (bar_of_below (S := fun _ => False) hb) (fun e => e) (fun _ _ e => e)))
  have HS := Lib.hid hs
  have t4 : decide (16777216 - (L.length : Int) < s.size) = false := by simp; omega
  clear h hs
  go_enter Tryd.func27, Tryd.ntmps27
  go_wp2_with (first | (go_at_call 42; refine HM.out.mono ?_; rintro e w' ⟨rfl, rfl⟩) | (go_at_call 43; refine HC.out.mono ?_; rintro e W' ⟨rfl, hb⟩) | (go_at_call 45; refine (room_any (HP.out _ (by assumption))).mono ?_; rintro e w' ⟨rfl, rfl⟩))
  have hp0 := HP.out W' hb
  have hw := hb.size
  have hpi := hp0.bar (bar_of_below (S := fun _ => False) ((Below.refl _ W').alloc (Nat.le_refl _) (.stringIter s 0))) (fun e => e) (fun _ _ e => e)
  have HI := Lib.hid hpi
  have HW := Lib.hid (bar_of_below (S := fun k => k = b ∨ g = some k) ((hb.trans (((Below.refl _ W').alloc (Nat.le_refl _) (.stringIter s 0)).mono hw))))
  clear hp0 hpi HP HM HC t4
  go_loopg [] s.size (fun gf wx => ∃ (pos : Nat) (g' : Option Nat), wx.heap[W'.heap.size]? = some (.stringIter s pos) ∧ IsPen wx b g' (L ++ (textBits s).take pos) ∧ Bar (fun k => k = b ∨ g = some k) w wx ∧ (∀ k, g' = some k → g = some k ∨ w.heap.size ≤ k) ∧ pos + gf = s.size)
  case atStart => exact ⟨0, g, World.iter_heap W' s 0, by simpa [World.iter] using HI.out, HW.out, fun k e => .inl e, by omega⟩
  case round =>
    obtain ⟨pos, g', hit, hp, hbar, hg', hfu⟩ := hrel
    by_cases hps : pos < s.size
    · obtain ⟨gj, rfl⟩ : ∃ gj, gk = gj + 1 := ⟨gk - 1, by omega⟩
      have hnx : ∀ ty, (Instr.next (.pointer (some ⟨W'.heap.size, 0, none⟩)) true ty).run Tryd.prog wr = _ := fun ty => Lib.run_next_any_at wr W'.heap.size s pos ty hit hps
      have hd := (rune_at s pos hps).2 (HS.out pos hps)
      rw [hd] at hnx
      simp only at hnx
      have hit2 := Lib.iterAt_heap wr W'.heap.size s pos (pos + 1) hit
      have hne := hp.iter hit
      have hp2 := hp.bar (bar_iterAt wr W'.heap.size s (pos + 1)) (fun e => hne.1 e.symm) (fun k e e2 => hne.2 (by rw [e, e2]))
      have hbar2 := hbar.trans (bar_iterAt wr W'.heap.size s (pos + 1)) (fun j hj e => by omega)
      obtain ⟨W, hWd⟩ : ∃ W, wr.iterAt W'.heap.size s (pos + 1) = W := ⟨_, rfl⟩
      rw [hWd] at hnx hit2 hp2 hbar2
      have hr48 : 48 ≤ s[pos].toNat ∧ s[pos].toNat ≤ 49 := by rcases HS.out pos hps with e | e <;> rw [e] <;> decide
      have hy : ((s[pos].toNat : Int) - 48) = ((s[pos] == 49).toNat : Int) := by rcases HS.out pos hps with e | e <;> rw [e] <;> rfl
      have ht := textBits_take s pos hps
      generalize s[pos] = z at *
      generalize hR : z.toNat = R at *
      have hle : ((textBits s).take pos).length ≤ pos := List.length_take_le _ _
      have HY := Lib.hid hy
      have HT := Lib.hid ht
      have HPp := Lib.hid hp2
      have HBb := Lib.hid hbar2
      have HG := Lib.hid hg'
      have HFU := Lib.hid hfu
      have HIT := Lib.hid hit2
      have HNE := Lib.hid hne
      clear hy ht hp hp2 hbar hbar2 hg' hfu hit hit2 hd hWd hR HI HW hne
      go_wp2_with fail
      refine (push_at _ _ HY.out HPp.out (by simp at hle ⊢; omega)).mono ?_
      rintro e w2 ⟨rfl, hw2⟩
      have HW2 := Lib.hid hw2
      clear hw2
      go_wp2
      go_roundg gj
      case measure => omega
      case rel =>
        obtain ⟨g2, hq, hqb, hqg⟩ := Wrote.trans HBb.out HG.out HW2.out
        obtain ⟨g3, hq', hqb', _⟩ := HW2.out
        have hlt : W'.heap.size < W.heap.size := (Array.getElem?_eq_some_iff.1 HIT.out).1
        exact ⟨pos + 1, g2, (hqb'.block _ hlt (fun e => e.elim HNE.out.1 HNE.out.2)).trans HIT.out, by rw [HT.out, ← List.append_assoc]; exact hq, hqb, hqg, by have := HFU.out; omega⟩
    · have hnx := fun ty => Lib.run_next_end_at (P := Tryd.prog) wr W'.heap.size s pos ty hit hps
      rw [List.take_of_length_le (by rw [textBits_len]; omega)] at hp
      have HWr : Hid (Wrote w wr b g (L ++ textBits s)) := ⟨g', hp, hbar, hg'⟩
      clear hp hbar hg' hfu HI HW
      go_wp2
      go_ret
      exact ⟨rfl, HWr.out⟩

theorem wrote_below {w w' : World} {b : Nat} {g : Option Nat} {L : List Bool} (h : IsPen w b g L) (hb : Below w.heap.size w w') : Wrote w w' b g L :=
  ⟨g, h.bar (bar_of_below (S := fun _ => False) hb) (fun e => e) (fun _ _ e => e), bar_of_below hb, fun k e => .inl e⟩

theorem penCode_any {w : World} {b : Nat} {g : Option Nat} {L : List Bool} (h : IsPen w b g L) (s : ByteArray) (hs2 : s.size ≤ 9223372036854775807) :
    Calls Tryd.prog 27 #[.pointer (some ⟨b, 0, none⟩), .string s] w fun e w' => e = .returned (.int .i64 (codeE L s)) ∧ Wrote w w' b g (codeL L s) := by
  by_cases hs : AllBits s
  · by_cases hl : 16777216 - (L.length : Int) < s.size
    · have e : codeE L s = 4 := by unfold codeE; rw [if_pos ((allB_iff s).2 hs), if_pos hl]
      refine (code_long h s hs hl hs2).mono ?_
      rintro _ w' ⟨rfl, hb⟩
      refine ⟨by rw [e], ?_⟩
      unfold codeL; rw [e, if_neg (by omega)]; exact wrote_below h hb
    · have e : codeE L s = 0 := by unfold codeE; rw [if_pos ((allB_iff s).2 hs), if_neg hl]
      refine (code_ok h s hs (by omega)).mono ?_
      rintro _ w' ⟨rfl, hw⟩
      refine ⟨by rw [e], ?_⟩
      unfold codeL; rw [e, if_pos rfl]; exact hw
  · have e : codeE L s = 14 := by unfold codeE; rw [if_neg (fun e => hs ((allB_iff s).1 e))]
    refine (code_form h s hs).mono ?_
    rintro _ w' ⟨rfl, hb⟩
    refine ⟨by rw [e], ?_⟩
    unfold codeL; rw [e, if_neg (by omega)]; exact wrote_below h hb

end Go.Proofs.YtdadmoefmaojlaaDoor
