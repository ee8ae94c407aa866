/- Contracts of bits.NewPen and of a pen's methods made, room, Len, Put. Texts of bits: strings.ContainsFunc at bits.isNoBit; the contract of (*bits.Pen).Code. Contracts of slices.Clone at bytes, of (*bits.Pen).Bytes, of the kit's SameBytes and OverBytes. -/
import Derived.Test.YtichkoilhnkmkaaDoorPen
import Derived.LaidEqlPtr
import Derived.Lib.OthersKept
import Derived.Laws.RangeAny
import Derived.Deep.LoopGhost
import Derived.Laws.BytesArg
import Derived.Lib.LazyBuf
/- Contracts of bits.NewPen and of a pen's methods made, room, Len, Put. -/
namespace Go.Proofs.YtichkoilhnkmkaaDoor
open Go.RowKit Go.Shelf
set_option linter.unusedVariables false

theorem push_at {w : World} {b : Nat} {g : Option Nat} {L : List Bool} (y : Int) (x : Bool) (hy : y = x.toNat) (h : IsPen w b g L) (hl : L.length < 16777216) :
    Calls Tryd.prog 39 #[.pointer (some ⟨b, 0, none⟩), .int .i64 y] w fun e w' => e = .returned (.tuple #[]) ∧ Wrote w w' b g (L ++ [x]) := by
  subst hy; exact push_any h x hl
theorem Wrote.refl {w : World} {b : Nat} {g : Option Nat} {L : List Bool} (h : IsPen w b g L) : Wrote w w b g L := ⟨g, h, Bar.refl _ _, fun k e => .inl e⟩
theorem Wrote.trans {w w1 w2 : World} {b : Nat} {g g' : Option Nat} {L' : List Bool} (hb : Bar (fun k => k = b ∨ g = some k) w w1) (hg : ∀ k, g' = some k → g = some k ∨ w.heap.size ≤ k) (k : Wrote w1 w2 b g' L') : Wrote w w2 b g L' := by
  obtain ⟨g2, hp, hb2, hg2⟩ := k
  refine ⟨g2, hp, hb.trans hb2 (fun j hj e => ?_), fun j e => ?_⟩
  · rcases e with rfl | e
    · exact .inl rfl
    · rcases hg j e with h | h
      · exact .inr h
      · omega
  · rcases hg2 j e with h | h
    · exact hg j h
    · exact .inr (Nat.le_trans hb.size h)

theorem newPen_any (w : World) : Calls Tryd.prog 22 #[] w fun e w' => e = .returned (.pointer (some ⟨w.heap.size, 0, none⟩)) ∧ IsPen w' w.heap.size none [] ∧ Below w.heap.size w w' := by
  go_enter Tryd.func22, Tryd.ntmps22
  go_wp2
  go_ret
  refine ⟨rfl, ⟨.slice none 0 0, [], rfl, World.alloc_heap_new w _, World.ownsRow_nil _ _ _ _, packed_nil, by simp⟩, (Below.refl _ _).alloc (Nat.le_refl _) _⟩

theorem ptr_eq (a : Addr) (w : World) : (binOp .eql 37 (.pointer (some a)) (.pointer (some a))).run Tryd.prog w = .ok (.bool true) w := by
  obtain ⟨j, hj⟩ : ∃ j, Tryd.prog.info? 55 = some j := Option.isSome_iff_exists.1 (by kernel_rfl)
  exact run_eql_ptr_same w a Tryd.underlying37 hj
theorem made_any {w : World} {b : Nat} {g : Option Nat} {L : List Bool} (h : IsPen w b g L) :
    Calls Tryd.prog 35 #[.pointer (some ⟨b, 0, none⟩)] w fun e w' => e = .returned (.bool true) ∧ w = w' := by
  obtain ⟨v, zs, rfl, hb, _⟩ := h
  obtain ⟨c0, c1, c2, f0, f1, f2⟩ := pen_cells hb
  clear hb
  have he := ptr_eq ⟨b, 0, none⟩ w
  go_enter Tryd.func35, Tryd.ntmps35
  go_wp2
  go_ret
  exact ⟨rfl, rfl⟩

theorem room_any {w : World} {b : Nat} {g : Option Nat} {L : List Bool} (h : IsPen w b g L) :
    Calls Tryd.prog 38 #[.pointer (some ⟨b, 0, none⟩)] w fun e w' => e = .returned (.int .i64 (16777216 - L.length)) ∧ w = w' := by
  obtain ⟨v, zs, rfl, hb, _, _, hl⟩ := h
  obtain ⟨c0, c1, c2, f0, f1, f2⟩ := pen_cells hb
  clear hb
  go_enter Tryd.func38, Tryd.ntmps38
  go_wp2
  go_ret
  exact ⟨rfl, rfl⟩

theorem len_any {w : World} {b : Nat} {g : Option Nat} {L : List Bool} (h : IsPen w b g L) :
    Calls Tryd.prog 26 #[.pointer (some ⟨b, 0, none⟩)] w fun e w' => e = .returned (.int .i64 L.length) ∧ w = w' := by
  have HM := Lib.hid (made_any h)
  obtain ⟨v, zs, rfl, hb, _⟩ := h
  obtain ⟨c0, c1, c2, f0, f1, f2⟩ := pen_cells hb
  clear hb
  go_enter Tryd.func26, Tryd.ntmps26
  go_wp2_with (go_at_call 35; refine HM.out.mono ?_; rintro e w' ⟨rfl, rfl⟩)
  go_ret
  exact ⟨rfl, rfl⟩

/-- the bits of a number -/
def numBits (n k : Nat) : List Bool := (List.range k).map fun i => decide (n / 2 ^ (k - 1 - i) % 2 = 1)
def putE (L : List Bool) (n k : Int) : Int :=
  if k < 0 ∨ 32 < k ∨ n < 0 ∨ n / 2 ^ k.toNat ≠ 0 then 3 else if 16777216 - (L.length : Int) < k then 4 else 0
def putL (L : List Bool) (n k : Int) : List Bool := if putE L n k = 0 then L ++ numBits n.toNat k.toNat else L

theorem numBits_take (n k j : Nat) (hj : j < k) : (numBits n k).take (j + 1) = (numBits n k).take j ++ [decide (n / 2 ^ (k - 1 - j) % 2 = 1)] := by
  rw [List.take_add_one]
  simp [numBits, hj]
theorem toNat_decide (m : Nat) : ((m : Int) % 2) = ((decide (m % 2 = 1)).toNat : Int) := by
  by_cases h : m % 2 = 1
  · simp [h]; omega
  · simp [h]; omega

end Go.Proofs.YtichkoilhnkmkaaDoor

/- Texts of bits: strings.ContainsFunc at bits.isNoBit; the contract of (*bits.Pen).Code. -/
namespace Go.Proofs.YtichkoilhnkmkaaDoor
open Go.RowKit Go.Shelf
set_option linter.unusedVariables false

def noBit (r : Int) : Bool := !(r == 48) && !(r == 49)
set_option maxHeartbeats 400000 in
theorem isNoBit_any (r : Int) (w : World) : Calls Tryd.prog 37 #[.int .i32 r] w fun e w' => e = .returned (.bool (noBit r)) ∧ w = w' := by
  unfold noBit
  by_cases h1 : r = 48
  · subst h1
    go_enter Tryd.func37, Tryd.ntmps37
    go_wp2
    go_ret
    exact ⟨rfl, rfl⟩
  · have h1' : (r == 48) = false := by simpa using h1
    have h1'' : (r != 48) = true := by simpa using h1
    go_enter Tryd.func37, Tryd.ntmps37
    go_wp2
    go_ret
    exact ⟨by simp [h1, bne], rfl⟩

/-- nothing but noughts and ones -/
def AllBits (s : ByteArray) : Prop := ∀ i (h : i < s.size), s[i] = 48 ∨ s[i] = 49
/-- the rune at a place -/
theorem rune_at (s : ByteArray) (i : Nat) (h : i < s.size) : noBit ((Utf8.decode s i).1 : Nat) = !(s[i] == 48 || s[i] == 49) ∧ ((s[i] = 48 ∨ s[i] = 49) → Utf8.decode s i = (s[i].toNat, 1)) := by
  by_cases ha : s[i].toNat < 128
  · rw [decode_ascii s i h ha]
    refine ⟨?_, fun _ => rfl⟩
    have e1 : ((s[i].toNat : Int) == 48) = (s[i] == 48) := by
      rw [Bool.eq_iff_iff]; simp only [beq_iff_eq]; rw [← UInt8.toNat_inj]
      show _ ↔ s[i].toNat = 48; omega
    have e2 : ((s[i].toNat : Int) == 49) = (s[i] == 49) := by
      rw [Bool.eq_iff_iff]; simp only [beq_iff_eq]; rw [← UInt8.toNat_inj]
      show _ ↔ s[i].toNat = 49; omega
    simp [noBit, e1, e2]
  · have hd := (decode_high s i h (by omega)).1
    have n1 : s[i] ≠ 48 := fun e => by rw [e] at ha; exact ha (by decide)
    have n2 : s[i] ≠ 49 := fun e => by rw [e] at ha; exact ha (by decide)
    refine ⟨?_, fun h => by rcases h with h | h <;> contradiction⟩
    have e1 : (((Utf8.decode s i).1 : Int) == 48) = false := by simp; omega
    have e2 : (((Utf8.decode s i).1 : Int) == 49) = false := by simp; omega
    have e3 : (s[i] == 48) = false := by simpa using n1
    have e4 : (s[i] == 49) = false := by simpa using n2
    unfold noBit
    rw [e1, e2, e3, e4]
    rfl

set_option maxRecDepth 100000 in
set_option maxHeartbeats 1000000 in
theorem indexFunc_none (s : ByteArray) (w : World) (hs : AllBits s) :
    Calls Tryd.prog 65 #[.string s, .func (.func 37) #[] #[], .bool true] w fun e w' => e = .returned (.int .i64 (-1)) ∧ Below w.heap.size w w' := by
  have HS := Lib.hid hs
  clear hs
  go_enter Tryd.func65, Tryd.ntmps65
  go_wp2
  go_loopg [] s.size (fun gf wx => ∃ pos : Nat, wx.heap[w.heap.size]? = some (.stringIter s pos) ∧ Below w.heap.size w wx ∧ pos + gf = s.size)
  case atStart => exact ⟨0, World.iter_heap w s 0, (Below.refl _ w).alloc (Nat.le_refl _) _, by omega⟩
  case round =>
    obtain ⟨pos, hit, hbw, hfu⟩ := hrel
    by_cases hps : pos < s.size
    · obtain ⟨g', rfl⟩ : ∃ g', gk = g' + 1 := ⟨gk - 1, by omega⟩
      have hnx : ∀ ty, (Instr.next (.pointer (some ⟨w.heap.size, 0, none⟩)) true ty).run Tryd.prog wr = _ := fun ty => Lib.run_next_any_at wr w.heap.size s pos ty hit hps
      have hr := rune_at s pos hps
      have hd := hr.2 (HS.out pos hps)
      have hb : noBit ((s[pos].toNat : Nat) : Int) = false := by
        have := hr.1; rw [hd] at this; rw [this]; rcases HS.out pos hps with h | h <;> simp [h]
      rw [hd] at hnx
      have hit2 := Lib.iterAt_heap wr w.heap.size s pos (pos + 1) hit
      have hbw2 := Lib.below_iterAt hbw (k := w.heap.size) (Nat.le_refl _) s (pos + 1)
      obtain ⟨W, hWd⟩ : ∃ W, wr.iterAt w.heap.size s (pos + 1) = W := ⟨_, rfl⟩
      simp only at hnx
      rw [hWd] at hnx hit2 hbw2
      have cS := isNoBit_any ((s[pos].toNat : Nat) : Int) W
      rw [hb] at cS
      have HCS := Lib.hid cS
      have HFU := Lib.hid hfu
      clear cS hr hd hb hfu hWd
      generalize s[pos].toNat = R at *
      go_wp2_with (go_at_call 37; refine HCS.out.mono ?_; rintro e W' ⟨rfl, rfl⟩)
      go_roundg g'
      case measure => omega
      case rel => exact ⟨pos + 1, hit2, hbw2, by have := HFU.out; omega⟩
    · have hnx := fun ty => Lib.run_next_end_at (P := Tryd.prog) wr w.heap.size s pos ty hit hps
      go_wp2
      go_ret
      exact ⟨rfl, hbw⟩

set_option maxRecDepth 100000 in
set_option maxHeartbeats 1000000 in
theorem indexFunc_some (s : ByteArray) (w : World) (k : Nat) (hk : k < s.size) (hs : ∀ i (h : i < s.size), i < k → s[i] = 48 ∨ s[i] = 49) (hb : ¬ (s[k] = 48 ∨ s[k] = 49)) :
    Calls Tryd.prog 65 #[.string s, .func (.func 37) #[] #[], .bool true] w fun e w' => e = .returned (.int .i64 k) ∧ Below w.heap.size w w' := by
  have HS := Lib.hid hs
  have HB := Lib.hid hb
  clear hs hb
  go_enter Tryd.func65, Tryd.ntmps65
  go_wp2
  go_loopg [] k (fun gf wx => ∃ pos : Nat, wx.heap[w.heap.size]? = some (.stringIter s pos) ∧ Below w.heap.size w wx ∧ pos + gf = k)
  case atStart => exact ⟨0, World.iter_heap w s 0, (Below.refl _ w).alloc (Nat.le_refl _) _, by omega⟩
  case round =>
    obtain ⟨pos, hit, hbw, hfu⟩ := hrel
    by_cases hps : pos < k
    · have hpk : pos < s.size := Nat.lt_trans hps hk
      obtain ⟨g', rfl⟩ : ∃ g', gk = g' + 1 := ⟨gk - 1, by omega⟩
      have hnx : ∀ ty, (Instr.next (.pointer (some ⟨w.heap.size, 0, none⟩)) true ty).run Tryd.prog wr = _ := fun ty => Lib.run_next_any_at wr w.heap.size s pos ty hit hpk
      have hr := rune_at s pos hpk
      have hd := hr.2 (HS.out pos hpk hps)
      have hb : noBit ((s[pos].toNat : Nat) : Int) = false := by
        have := hr.1; rw [hd] at this; rw [this]; rcases HS.out pos hpk hps with h | h <;> simp [h]
      rw [hd] at hnx
      have hit2 := Lib.iterAt_heap wr w.heap.size s pos (pos + 1) hit
      have hbw2 := Lib.below_iterAt hbw (k := w.heap.size) (Nat.le_refl _) s (pos + 1)
      obtain ⟨W, hWd⟩ : ∃ W, wr.iterAt w.heap.size s (pos + 1) = W := ⟨_, rfl⟩
      simp only at hnx
      rw [hWd] at hnx hit2 hbw2
      have cS := isNoBit_any ((s[pos].toNat : Nat) : Int) W
      rw [hb] at cS
      have HCS := Lib.hid cS
      have HFU := Lib.hid hfu
      clear cS hr hd hb hfu hWd
      generalize s[pos].toNat = R at *
      go_wp2_with (go_at_call 37; refine HCS.out.mono ?_; rintro e W' ⟨rfl, rfl⟩)
      go_roundg g'
      case measure => omega
      case rel => exact ⟨pos + 1, hit2, hbw2, by have := HFU.out; omega⟩
    · obtain rfl : pos = k := by omega
      have hnx : ∀ ty, (Instr.next (.pointer (some ⟨w.heap.size, 0, none⟩)) true ty).run Tryd.prog wr = _ := fun ty => Lib.run_next_any_at wr w.heap.size s pos ty hit hk
      have hr := (rune_at s pos hk).1
      have hb : noBit ((Utf8.decode s pos).1 : Nat) = true := by
        rw [hr]; have := HB.out; simp at this ⊢; exact this
      have hbw2 := Lib.below_iterAt hbw (k := w.heap.size) (Nat.le_refl _) s (pos + (Utf8.decode s pos).2)
      obtain ⟨W, hWd⟩ : ∃ W, wr.iterAt w.heap.size s (pos + (Utf8.decode s pos).2) = W := ⟨_, rfl⟩
      rw [hWd] at hnx hbw2
      have cS := isNoBit_any ((Utf8.decode s pos).1 : Nat) W
      rw [hb] at cS
      have HCS := Lib.hid cS
      clear cS hr hb hfu hWd HB
      generalize (Utf8.decode s pos).1 = R at *
      go_wp2_with (go_at_call 37; refine HCS.out.mono ?_; rintro e W' ⟨rfl, rfl⟩)
      go_ret
      exact ⟨rfl, hbw2⟩

theorem first_bad (s : ByteArray) (h : ¬ AllBits s) : ∃ k, ∃ hk : k < s.size, (∀ i (h : i < s.size), i < k → s[i] = 48 ∨ s[i] = 49) ∧ ¬ (s[k] = 48 ∨ s[k] = 49) := by
  have key : ∀ n, n ≤ s.size → (∀ i (h : i < s.size), i < n → s[i] = 48 ∨ s[i] = 49) ∨ ∃ k, ∃ hk : k < s.size, (∀ i (h : i < s.size), i < k → s[i] = 48 ∨ s[i] = 49) ∧ ¬ (s[k] = 48 ∨ s[k] = 49) := by
    intro n
    induction n with
    | zero => intro _; exact .inl fun i _ h => by omega
    | succ n ih =>
      intro hn
      rcases ih (by omega) with h1 | h1
      · by_cases hb : s[n] = 48 ∨ s[n] = 49
        · refine .inl fun i hi hlt => ?_
          by_cases e : i = n
          · subst e; exact hb
          · exact h1 i hi (by omega)
        · exact .inr ⟨n, by omega, h1, hb⟩
      · exact .inr h1
  rcases key s.size (Nat.le_refl _) with h1 | h1
  · exact absurd (fun i hi => h1 i hi hi) h
  · exact h1

theorem contains_none (s : ByteArray) (w : World) (hs : AllBits s) :
    Calls Tryd.prog 36 #[.string s, .func (.func 37) #[] #[]] w fun e w' => e = .returned (.bool false) ∧ Below w.heap.size w w' := by
  have HS := Lib.hid (indexFunc_none s w hs)
  clear hs
  go_enter Tryd.func36, Tryd.ntmps36
  go_wp2_with (first | (go_at_call 65; refine HS.out.mono ?_; rintro e W' ⟨rfl, hb⟩) | go_in)
  go_ret
  exact ⟨rfl, hb⟩
theorem contains_some (s : ByteArray) (w : World) (hs : ¬ AllBits s) :
    Calls Tryd.prog 36 #[.string s, .func (.func 37) #[] #[]] w fun e w' => e = .returned (.bool true) ∧ Below w.heap.size w w' := by
  obtain ⟨k, hk, h1, h2⟩ := first_bad s hs
  have HS := Lib.hid (indexFunc_some s w k hk h1 h2)
  have h0 : (0 : Int) ≤ (k : Int) := by omega
  clear hs h1 h2
  go_enter Tryd.func36, Tryd.ntmps36
  go_wp2_with (first | (go_at_call 65; refine HS.out.mono ?_; rintro e W' ⟨rfl, hb⟩) | go_in)
  go_ret
  exact ⟨rfl, hb⟩

/-- the bits that a text spells -/
def textBits (s : ByteArray) : List Bool := s.data.toList.map (· == 49)
theorem textBits_len (s : ByteArray) : (textBits s).length = s.size := by simp [textBits]
theorem textBits_take (s : ByteArray) (i : Nat) (h : i < s.size) : (textBits s).take (i + 1) = (textBits s).take i ++ [s[i] == 49] := by
  rw [List.take_add_one, List.getElem?_eq_getElem (by rw [textBits_len]; exact h)]
  simp [textBits]
  rfl
def allB (s : ByteArray) : Bool := s.data.toList.all fun z => z == 48 || z == 49
theorem allB_iff (s : ByteArray) : allB s = true ↔ AllBits s := by
  unfold allB AllBits
  rw [List.all_eq_true]
  constructor
  · intro h i hi
    have := h s[i] (by rw [Array.mem_toList_iff]; exact Array.getElem_mem _)
    simpa using this
  · intro h z hz
    rw [Array.mem_toList_iff] at hz
    obtain ⟨i, hi, rfl⟩ := Array.mem_iff_getElem.1 hz
    have hb : s.data[i] = 48 ∨ s.data[i] = 49 := h i hi
    simpa using hb
def codeE (L : List Bool) (s : ByteArray) : Int := if allB s then (if 16777216 - (L.length : Int) < s.size then 4 else 0) else 14
def codeL (L : List Bool) (s : ByteArray) : List Bool := if codeE L s = 0 then L ++ textBits s else L

theorem IsPen.iter {w : World} {b k pos : Nat} {g : Option Nat} {L : List Bool} {s : ByteArray} (h : IsPen w b g L) (hk : w.heap[k]? = some (.stringIter s pos)) : k ≠ b ∧ g ≠ some k := by
  obtain ⟨v, zs, rfl, hb, hr, _⟩ := h
  refine ⟨fun e => by subst e; rw [hb] at hk; simp [penCells] at hk, fun e => ?_⟩
  rcases hr.2 with ⟨rfl, _⟩ | ⟨g', cap, cur, rfl, _, hg, _⟩
  · simp [Value.ownBlock] at e
  · simp [Value.ownBlock] at e
    subst e
    rw [hg] at hk
    simp at hk
theorem bar_iterAt (w : World) (k : Nat) (s : ByteArray) (pos : Nat) : Bar (fun j => j = k) w (w.iterAt k s pos) :=
  ⟨rfl, rfl, rfl, by rw [Lib.iterAt_size]; exact Nat.le_refl _, fun j _ hn => Lib.iterAt_other w k j s pos hn⟩

set_option maxRecDepth 100000 in
set_option maxHeartbeats 1000000 in
theorem code_form {w : World} {b : Nat} {g : Option Nat} {L : List Bool} (h : IsPen w b g L) (s : ByteArray) (hs : ¬ AllBits s) :
    Calls Tryd.prog 24 #[.pointer (some ⟨b, 0, none⟩), .string s] w fun e w' => e = .returned (.int .i64 14) ∧ Below w.heap.size w w' := by
  have HM := Lib.hid (made_any h)
  have HC := Lib.hid (contains_some s w hs)
  clear h hs
  go_enter Tryd.func24, Tryd.ntmps24
  go_wp2_with (first | (go_at_call 35; refine HM.out.mono ?_; rintro e w' ⟨rfl, rfl⟩) | (go_at_call 36; refine HC.out.mono ?_; rintro e W' ⟨rfl, hb⟩))
  go_ret
  exact ⟨rfl, hb⟩

set_option maxRecDepth 100000 in
set_option maxHeartbeats 1000000 in
theorem code_long {w : World} {b : Nat} {g : Option Nat} {L : List Bool} (h : IsPen w b g L) (s : ByteArray) (hs : AllBits s) (hl : 16777216 - (L.length : Int) < s.size) (hs2 : s.size ≤ 9223372036854775807) :
    Calls Tryd.prog 24 #[.pointer (some ⟨b, 0, none⟩), .string s] w fun e w' => e = .returned (.int .i64 4) ∧ Below w.heap.size w w' := by
  have HM := Lib.hid (made_any h)
  have HC := Lib.hid (contains_none s w hs)
  have HR := Lib.hid (fun W (hb : Below w.heap.size w W) => room_any (h.bar (bar_of_below (S := fun _ => False) hb) (fun e => e) (fun _ _ e => e)))
  clear h hs
  go_enter Tryd.func24, Tryd.ntmps24
  go_wp2_with (first | (go_at_call 35; refine HM.out.mono ?_; rintro e w' ⟨rfl, rfl⟩) | (go_at_call 36; refine HC.out.mono ?_; rintro e W' ⟨rfl, hb⟩) | (go_at_call 38; refine (HR.out _ (by assumption)).mono ?_; rintro e w' ⟨rfl, rfl⟩))
  go_ret
  exact ⟨rfl, by assumption⟩

set_option maxRecDepth 100000 in
set_option maxHeartbeats 1000000 in
theorem code_ok {w : World} {b : Nat} {g : Option Nat} {L : List Bool} (h : IsPen w b g L) (s : ByteArray) (hs : AllBits s) (hl : L.length + s.size ≤ 16777216) :
    Calls Tryd.prog 24 #[.pointer (some ⟨b, 0, none⟩), .string s] w fun e w' => e = .returned (.int .i64 0) ∧ Wrote w w' b g (L ++ textBits s) := by
  have HM := Lib.hid (made_any h)
  have HC := Lib.hid (contains_none s w hs)
  have HP := Lib.hid (fun W (hb : Below w.heap.size w W) => (h.bar (bar_of_below (S := fun _ => False) hb) (fun e => e) (fun _ _ e => e)))
  have HS := Lib.hid hs
  have t4 : decide (16777216 - (L.length : Int) < s.size) = false := by simp; omega
  clear h hs
  go_enter Tryd.func24, Tryd.ntmps24
  go_wp2_with (first | (go_at_call 35; refine HM.out.mono ?_; rintro e w' ⟨rfl, rfl⟩) | (go_at_call 36; refine HC.out.mono ?_; rintro e W' ⟨rfl, hb⟩) | (go_at_call 38; refine (room_any (HP.out _ (by assumption))).mono ?_; rintro e w' ⟨rfl, rfl⟩))
  have hp0 := HP.out W' hb
  have hw := hb.size
  have hpi := hp0.bar (bar_of_below (S := fun _ => False) ((Below.refl _ W').alloc (Nat.le_refl _) (.stringIter s 0))) (fun e => e) (fun _ _ e => e)
  have HI := Lib.hid hpi
  have HW := Lib.hid (bar_of_below (S := fun k => k = b ∨ g = some k) ((hb.trans (((Below.refl _ W').alloc (Nat.le_refl _) (.stringIter s 0)).mono hw))))
  clear hp0 hpi HP HM HC t4
  go_loopg [] s.size (fun gf wx => ∃ (pos : Nat) (g' : Option Nat), wx.heap[W'.heap.size]? = some (.stringIter s pos) ∧ IsPen wx b g' (L ++ (textBits s).take pos) ∧ Bar (fun k => k = b ∨ g = some k) w wx ∧ (∀ k, g' = some k → g = some k ∨ w.heap.size ≤ k) ∧ pos + gf = s.size)
  case atStart => exact ⟨0, g, World.iter_heap W' s 0, by simpa [World.iter] using HI.out, HW.out, fun k e => .inl e, by omega⟩
  case round =>
    obtain ⟨pos, g', hit, hp, hbar, hg', hfu⟩ := hrel
    by_cases hps : pos < s.size
    · obtain ⟨gj, rfl⟩ : ∃ gj, gk = gj + 1 := ⟨gk - 1, by omega⟩
      have hnx : ∀ ty, (Instr.next (.pointer (some ⟨W'.heap.size, 0, none⟩)) true ty).run Tryd.prog wr = _ := fun ty => Lib.run_next_any_at wr W'.heap.size s pos ty hit hps
      have hd := (rune_at s pos hps).2 (HS.out pos hps)
      rw [hd] at hnx
      simp only at hnx
      have hit2 := Lib.iterAt_heap wr W'.heap.size s pos (pos + 1) hit
      have hne := hp.iter hit
      have hp2 := hp.bar (bar_iterAt wr W'.heap.size s (pos + 1)) (fun e => hne.1 e.symm) (fun k e e2 => hne.2 (by rw [e, e2]))
      have hbar2 := hbar.trans (bar_iterAt wr W'.heap.size s (pos + 1)) (fun j hj e => by omega)
      obtain ⟨W, hWd⟩ : ∃ W, wr.iterAt W'.heap.size s (pos + 1) = W := ⟨_, rfl⟩
      rw [hWd] at hnx hit2 hp2 hbar2
      have hr48 : 48 ≤ s[pos].toNat ∧ s[pos].toNat ≤ 49 := by rcases HS.out pos hps with e | e <;> rw [e] <;> decide
      have hy : ((s[pos].toNat : Int) - 48) = ((s[pos] == 49).toNat : Int) := by rcases HS.out pos hps with e | e <;> rw [e] <;> rfl
      have ht := textBits_take s pos hps
      generalize s[pos] = z at *
      generalize hR : z.toNat = R at *
      have hle : ((textBits s).take pos).length ≤ pos := List.length_take_le _ _
      have HY := Lib.hid hy
      have HT := Lib.hid ht
      have HPp := Lib.hid hp2
      have HBb := Lib.hid hbar2
      have HG := Lib.hid hg'
      have HFU := Lib.hid hfu
      have HIT := Lib.hid hit2
      have HNE := Lib.hid hne
      clear hy ht hp hp2 hbar hbar2 hg' hfu hit hit2 hd hWd hR HI HW hne
      go_wp2_with fail
      refine (push_at _ _ HY.out HPp.out (by simp at hle ⊢; omega)).mono ?_
      rintro e w2 ⟨rfl, hw2⟩
      have HW2 := Lib.hid hw2
      clear hw2
      go_wp2
      go_roundg gj
      case measure => omega
      case rel =>
        obtain ⟨g2, hq, hqb, hqg⟩ := Wrote.trans HBb.out HG.out HW2.out
        obtain ⟨g3, hq', hqb', _⟩ := HW2.out
        have hlt : W'.heap.size < W.heap.size := (Array.getElem?_eq_some_iff.1 HIT.out).1
        exact ⟨pos + 1, g2, (hqb'.block _ hlt (fun e => e.elim HNE.out.1 HNE.out.2)).trans HIT.out, by rw [HT.out, ← List.append_assoc]; exact hq, hqb, hqg, by have := HFU.out; omega⟩
    · have hnx := fun ty => Lib.run_next_end_at (P := Tryd.prog) wr W'.heap.size s pos ty hit hps
      rw [List.take_of_length_le (by rw [textBits_len]; omega)] at hp
      have HWr : Hid (Wrote w wr b g (L ++ textBits s)) := ⟨g', hp, hbar, hg'⟩
      clear hp hbar hg' hfu HI HW
      go_wp2
      go_ret
      exact ⟨rfl, HWr.out⟩

theorem wrote_below {w w' : World} {b : Nat} {g : Option Nat} {L : List Bool} (h : IsPen w b g L) (hb : Below w.heap.size w w') : Wrote w w' b g L :=
  ⟨g, h.bar (bar_of_below (S := fun _ => False) hb) (fun e => e) (fun _ _ e => e), bar_of_below hb, fun k e => .inl e⟩

theorem penCode_any {w : World} {b : Nat} {g : Option Nat} {L : List Bool} (h : IsPen w b g L) (s : ByteArray) (hs2 : s.size ≤ 9223372036854775807) :
    Calls Tryd.prog 24 #[.pointer (some ⟨b, 0, none⟩), .string s] w fun e w' => e = .returned (.int .i64 (codeE L s)) ∧ Wrote w w' b g (codeL L s) := by
  by_cases hs : AllBits s
  · by_cases hl : 16777216 - (L.length : Int) < s.size
    · have e : codeE L s = 4 := by unfold codeE; rw [if_pos ((allB_iff s).2 hs), if_pos hl]
      refine (code_long h s hs hl hs2).mono ?_
      rintro _ w' ⟨rfl, hb⟩
      refine ⟨by rw [e], ?_⟩
      unfold codeL; rw [e, if_neg (by omega)]; exact wrote_below h hb
    · have e : codeE L s = 0 := by unfold codeE; rw [if_pos ((allB_iff s).2 hs), if_neg hl]
      refine (code_ok h s hs (by omega)).mono ?_
      rintro _ w' ⟨rfl, hw⟩
      refine ⟨by rw [e], ?_⟩
      unfold codeL; rw [e, if_pos rfl]; exact hw
  · have e : codeE L s = 14 := by unfold codeE; rw [if_neg (fun e => hs ((allB_iff s).1 e))]
    refine (code_form h s hs).mono ?_
    rintro _ w' ⟨rfl, hb⟩
    refine ⟨by rw [e], ?_⟩
    unfold codeL; rw [e, if_neg (by omega)]; exact wrote_below h hb

end Go.Proofs.YtichkoilhnkmkaaDoor

/- Contracts of slices.Clone at bytes, of (*bits.Pen).Bytes, of the kit's SameBytes and OverBytes. -/
namespace Go.Proofs.YtichkoilhnkmkaaDoor
open Go.RowKit Go.Shelf
set_option linter.unusedVariables false

theorem byt_own {w : World} {base n₀ : Nat} {v : Value} {zs : List UInt8} (h : w.ownsRow base 5 1 v zs.length (u8s zs)) (hl : zs.length ≤ 1152921504606846975) (hn : w.heap.size ≤ n₀) : Byt n₀ w v zs := by
  rcases id h.2 with ⟨rfl, hz⟩ | ⟨g, cap, cur, rfl, _, hg, _⟩
  · have : zs = [] := List.eq_nil_of_length_eq_zero hz
    subst this
    exact ⟨none, 0, rfl, hl, .inl rfl⟩
  · refine ⟨_, cap, rfl, hl, .inr ⟨g, 0, rfl, Nat.lt_of_lt_of_le (Array.getElem?_eq_some_iff.1 hg).1 hn, fun j hj => ?_⟩⟩
    have := h.cellAt j (by omega)
    simp only [Nat.zero_add]
    rw [this]
    simp [hj]

theorem conv_byt {n₀ : Nat} {w : World} {sv : Value} {zs : List UInt8} (hB : Byt n₀ w sv zs) : (convert 22 9 sv).run Tryd.prog w = .ok (.string ⟨zs.toArray⟩) w := by
  obtain ⟨a, cap, rfl, hl, hz⟩ := hB
  rcases hz with rfl | ⟨b, off, rfl, _, hc⟩
  · cases a with
    | none => exact run_convert_bytes_nil w 22 5 Tryd.underlying22 Tryd.underlying5 0 cap 9 Tryd.underlying9
    | some x =>
      rw [run_convert_bytes_string w 22 9 5 _ _ _ Tryd.underlying22 Tryd.underlying5 Tryd.underlying9]
      have := run_bytesToString (P := Tryd.prog) w x 0 cap [] (by simp [loadCells, loadCellsFrom])
      simp only [List.foldl_nil] at this
      exact this
  · have h := run_convert_bytes_arg (P := Tryd.prog) w 22 5 Tryd.underlying22 Tryd.underlying5 b off zs.length cap (zs.map fun z => (z.toNat : Int)) (by simp)
      (fun i hi => by rw [hc i hi]; simp [hi]) 9 Tryd.underlying9
    rw [h]
    simp [strOfNums, Function.comp_def]

theorem clone_nil (w : World) : Calls Tryd.prog 40 #[.slice none 0 0] w fun e w' => e = .returned (.slice none 0 0) ∧ w = w' := by
  have he := fun (w : World) => Lib.run_eql_slice_nil (P := Tryd.prog) w 22 5 none 0 0 0 0 Tryd.underlying22
  go_enter Tryd.func40, Tryd.ntmps40
  go_wp2
  go_ret
  exact ⟨rfl, rfl⟩

def Cloned (w w' : World) (e : Ending) (zs : List UInt8) : Prop := ∃ v, e = .returned v ∧ w'.ownsRow w.heap.size 5 1 v zs.length (u8s zs) ∧ Below w.heap.size w w'

set_option maxHeartbeats 1000000 in
theorem clone_some {w : World} {b : Nat} {cap : Nat} {zs : List UInt8} (hr : w.ownsRow b 5 1 (.slice (some ⟨b, 0, none⟩) zs.length cap) zs.length (u8s zs)) (hl : zs.length ≤ 2097152) :
    Calls Tryd.prog 40 #[.slice (some ⟨b, 0, none⟩) zs.length cap] w fun e w' => Cloned w w' e zs := by
  have he := fun (w : World) => Lib.run_eql_slice_nil (P := Tryd.prog) w 22 5 (some ⟨b, 0, none⟩) zs.length cap 0 0 Tryd.underlying22
  obtain ⟨i0, hi, hz0, hz1, hz2⟩ := info_parts Tryd.info5
  go_enter Tryd.func40, Tryd.ntmps40
  go_wp2_with (at_builtin; refine wpList_append_where _ rfl _ _ 22 rfl w.heap.size 5 i0 (.int .u8 0) 1 1 Tryd.underlying22 hi hz0 hz1 hz2 rfl (by decide) (.slice (some ⟨w.heap.size, 0, none⟩) 0 0) 0 [] rfl (World.ownsRow_made w #[] 0 (Nat.le_refl _) (by unfold maxLen; omega) rfl) ⟨b, 0, none⟩ zs.length cap (u8s zs) rfl (by simp) ?c1 ?c2 ?c3 ?c4 ?c5 ?_)
  case c1 =>
    intro j u hu
    exact (hr.alloc _).cells rfl j u hu
  case c2 => intro u hu; simp at hu; obtain ⟨z, _, rfl⟩ := hu; rfl
  case c3 => unfold maxLen; omega
  case c4 => omega
  case c5 => simp
  intro v' w1 hown' hgrow hwh
  have hb : Below w.heap.size w w1 := ((Below.refl _ w).alloc (Nat.le_refl _) _).grown hgrow (by simp) (fun k e => by simp [Value.ownBlock] at e; omega)
  clear hr hwh hgrow
  go_wp2
  go_ret
  exact ⟨v', rfl, hown', hb⟩

set_option maxHeartbeats 1000000 in
theorem bytes_any {w : World} {b : Nat} {g : Option Nat} {L : List Bool} (h : IsPen w b g L) :
    Calls Tryd.prog 25 #[.pointer (some ⟨b, 0, none⟩)] w fun e w' => ∃ zs, Packed zs L ∧ Cloned w w' e zs := by
  have HM := Lib.hid (made_any h)
  obtain ⟨v, zs, rfl, hb, hr, hp, hl⟩ := h
  obtain ⟨c0, c1, c2, f0, f1, f2⟩ := pen_cells hb
  have hz := hp.1
  clear hb
  rcases id hr.2 with ⟨rfl, hn⟩ | ⟨g, cap, cur, rfl, _⟩
  · have : zs = [] := List.eq_nil_of_length_eq_zero hn
    subst this
    have HP : Hid (Packed [] L) := hp
    clear hp hz hr hn
    go_enter Tryd.func25, Tryd.ntmps25
    go_wp2_with (first | (go_at_call 35; refine HM.out.mono ?_; rintro e w' ⟨rfl, rfl⟩) | (go_at_call 40; refine (clone_nil _).mono ?_; rintro e w' ⟨rfl, rfl⟩))
    go_ret
    exact ⟨[], HP.out, .slice none 0 0, rfl, World.ownsRow_nil _ _ _ _, Below.refl _ _⟩
  · have hr' : w.ownsRow g 5 1 (.slice (some ⟨g, 0, none⟩) zs.length cap) zs.length (u8s zs) := by
      refine ⟨hr.1, ?_⟩
      rcases hr.2 with ⟨e, _⟩ | ⟨g', cap', cur', e, _, h⟩
      · simp at e
      · simp at e; obtain ⟨rfl, rfl⟩ := e; exact .inr ⟨g, cap, cur', rfl, Nat.le_refl _, h⟩
    have HC := Lib.hid (clone_some hr' (by omega))
    have HP : Hid (Packed zs L) := hp
    clear hp hz hr hr'
    go_enter Tryd.func25, Tryd.ntmps25
    go_wp2_with (first | (go_at_call 35; refine HM.out.mono ?_; rintro e w' ⟨rfl, rfl⟩) | (go_at_call 40; refine HC.out.mono ?_; rintro e w' ⟨v, rfl, hv⟩))
    go_ret
    exact ⟨zs, HP.out, _, rfl, hv⟩

theorem Wrote.below {w w' : World} {b B : Nat} {g : Option Nat} {L : List Bool} (h : Wrote w w' b g L) (hB : B ≤ w.heap.size) (hb : B ≤ b) (hg : ∀ k, g = some k → B ≤ k) : Below B w w' := by
  obtain ⟨_, _, hbar, _⟩ := h
  exact hbar.below hB fun k hk e => by rcases e with rfl | e
                                       · omega
                                       · have := hg k e; omega
theorem IsPen.later {w w' : World} {b : Nat} {g : Option Nat} {L : List Bool} (h : IsPen w b g L) (hb : Below w.heap.size w w') : IsPen w' b g L :=
  h.bar (bar_of_below (S := fun _ => False) hb) (fun e => e) (fun _ _ e => e)

end Go.Proofs.YtichkoilhnkmkaaDoor
