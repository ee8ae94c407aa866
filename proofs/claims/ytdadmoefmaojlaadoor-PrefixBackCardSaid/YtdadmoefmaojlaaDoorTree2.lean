/- The reference's tree (praxinoscoperef03.Tree): what it holds; contracts of its Put and Get. -/
import Derived.Test.YtdadmoefmaojlaaDoorTree
namespace Go.Proofs.YtdadmoefmaojlaaDoor
open Go.RowKit Go.Shelf
set_option linter.unusedVariables false

abbrev strV (xs : List ByteArray) : List Value := xs.map fun s => Value.string s
abbrev intV (xs : List Int) : List Value := xs.map fun n => Value.int .i64 n
abbrev tCells (vc vn : Value) : Obj := .cells #[vc, vn] 75 (0, 0)
/-- the reference's tree in block b: its codes and their numbers -/
def IsT (n₀ : Nat) (w : World) (b : Nat) (codes : List ByteArray) (nums : List Int) : Prop :=
  ∃ vc vn, n₀ ≤ b ∧ w.heap[b]? = some (tCells vc vn) ∧ w.ownsRow n₀ 9 1 vc codes.length (strV codes) ∧ w.ownsRow n₀ 3 1 vn nums.length (intV nums) ∧ nums.length = codes.length ∧ codes.length ≤ 300
theorem IsT.lt {n₀ : Nat} {w : World} {b : Nat} {codes : List ByteArray} {nums : List Int} (h : IsT n₀ w b codes nums) : b < w.heap.size := by
  obtain ⟨_, _, _, hb, _⟩ := h
  exact (Array.getElem?_eq_some_iff.1 hb).1
theorem IsT.later {n₀ : Nat} {w w' : World} {b : Nat} {codes : List ByteArray} {nums : List Int} (h : IsT n₀ w b codes nums) (hb : Below w.heap.size w w') : IsT n₀ w' b codes nums := by
  have hlt := h.lt
  obtain ⟨vc, vn, h1, h2, h3, h4, h5⟩ := h
  exact ⟨vc, vn, h1, (hb.block b hlt).trans h2, ownsRow_bar h3 (bar_of_below (S := fun _ => False) hb) (fun _ _ e => e), ownsRow_bar h4 (bar_of_below (S := fun _ => False) hb) (fun _ _ e => e), h5⟩
theorem t_cells {w : World} {b : Nat} {vc vn : Value} (h : w.heap[b]? = some (tCells vc vn)) : w.cell? ⟨b, 0, none⟩ = some vc ∧ w.cell? ⟨b, 1, none⟩ = some vn := by
  simp [World.cell?, h, tCells]
/-- a row that is not empty lies in a block, cell by cell -/
theorem row_cells {w : World} {base n j : Nat} {e : TypeId} {v : Value} {xs : List Value} (h : w.ownsRow base e 1 v n xs) (hj : j < n) : ∃ g cap, v = .slice (some ⟨g, 0, none⟩) n cap ∧ g < w.heap.size ∧ n ≤ cap ∧ ∀ i u, i < n → xs[i]? = some u → w.cell? ⟨g, i, none⟩ = some u := by
  rcases id h.2 with ⟨rfl, h0⟩ | ⟨g, cap, cur, rfl, _, hg, hc, _⟩
  · omega
  · exact ⟨g, cap, rfl, (Array.getElem?_eq_some_iff.1 hg).1, hc, fun i u hi hu => by rw [h.cellAt i (by omega), hu]⟩

/-! ### Put -/
def putI (nums : List Int) (x : Int) : Option Nat := nums.findIdx? (fun n => n == x)
def putS (codes : List ByteArray) (nums : List Int) (x : Int) : ByteArray := match putI nums x with | some i => codes[i]?.getD ⟨#[]⟩ | none => ⟨#[]⟩
def putE3 (nums : List Int) (x : Int) : Int := match putI nums x with | some _ => 0 | none => 18

set_option maxRecDepth 100000 in
set_option maxHeartbeats 1000000 in
theorem tput_any {n₀ : Nat} {w : World} {b : Nat} {codes : List ByteArray} {nums : List Int} (h : IsT n₀ w b codes nums) (x : Int) :
    Calls Tryd.prog 18 #[.pointer (some ⟨b, 0, none⟩), .int .i64 x] w fun e w' => e = .returned (.tuple #[.string (putS codes nums x), .int .i64 (putE3 nums x)]) ∧ w = w' := by
  obtain ⟨vc, vn, _, hb, hc, hn, hl, h300⟩ := h
  obtain ⟨c0, c1⟩ := t_cells hb
  obtain ⟨ac, cc, rfl⟩ := row_form hc
  obtain ⟨an, cn, rfl⟩ := row_form hn
  have HC := Lib.hid hc
  have HN := Lib.hid hn
  clear hb hc hn
  go_enter Tryd.func18, Tryd.ntmps18
  go_wp2_with fail
  go_loop [6] (fun i => ∃ k : Nat, i = .int .i64 k ∧ k ≤ codes.length ∧ ∀ j, j < k → (nums[j]?.getD 0 == x) = false) (fun i => codes.length - (intOf i).toNat)
  case atStart => exact ⟨0, rfl, by omega, fun j hj => by omega⟩
  case round =>
    obtain ⟨k, rfl, hk, hno⟩ := hrel
    have HNo := Lib.hid hno
    clear hno
    by_cases hk2 : k < codes.length
    · obtain ⟨g1, cp1, e1, _, hcp1, hce⟩ := row_cells HC.out hk2
      obtain ⟨g2, cp2, e2, _, hcp2, hne⟩ := row_cells HN.out (j := k) (by omega)
      cases e1
      cases e2
      have d1 : w.cell? ⟨g1, k, none⟩ = some (.string (codes[k]?.getD ⟨#[]⟩)) := hce k _ hk2 (by simp [hk2])
      have d2 : w.cell? ⟨g2, k, none⟩ = some (.int .i64 (nums[k]?.getD 0)) := hne k _ (by omega) (by simp [show k < nums.length by omega])
      have hk3 : k < nums.length := by omega
      clear hce hne
      by_cases hx : nums[k]?.getD 0 = x
      · have hE : Hid (putI nums x = some k) := by
          show putI nums x = some k
          unfold putI
          rw [List.findIdx?_eq_some_iff_getElem]
          refine ⟨hk3, by simpa [hk3] using hx, fun j hj => ?_⟩
          have := HNo.out j hj
          simpa [show j < nums.length by omega] using this
        have t1 : (nums[k]?.getD 0 == x) = true := by simpa using hx
        clear hx
        generalize nums[k]?.getD 0 = y at *
        have HS : Hid (putS codes nums x = codes[k]?.getD ⟨#[]⟩) := by show putS codes nums x = _; unfold putS; rw [hE.out]
        have HE2 : Hid (putE3 nums x = 0) := by show putE3 nums x = _; unfold putE3; rw [hE.out]
        generalize codes[k]?.getD ⟨#[]⟩ = s at *
        go_wp2
        go_ret2
        exact ⟨by rw [HS.out, HE2.out]; rfl, rfl⟩
      · have t1 : (nums[k]?.getD 0 == x) = false := by simpa using hx
        have HT := Lib.hid t1
        clear hx
        generalize hy : nums[k]?.getD 0 = y at *
        have HY := Lib.hid hy
        clear hy
        go_wp2
        go_round
        case rel => exact ⟨k + 1, by go_num, by omega, fun j hj => by
          by_cases e : j = k
          · subst e; rw [HY.out]; exact HT.out
          · exact HNo.out j (by omega)⟩
        case measure => simp [intOf]; omega
    · have hkn : k = codes.length := by omega
      subst k
      have hE : Hid (putI nums x = none) := by
        show putI nums x = none
        unfold putI
        rw [List.findIdx?_eq_none_iff]
        intro y hy
        obtain ⟨j, hj, rfl⟩ := List.getElem_of_mem hy
        have := HNo.out j (by omega)
        simpa [hj] using this
      have HS : Hid (putS codes nums x = ⟨#[]⟩) := by show putS codes nums x = _; unfold putS; rw [hE.out]
      have HE2 : Hid (putE3 nums x = 18) := by show putE3 nums x = _; unfold putE3; rw [hE.out]
      go_wp2
      go_ret2
      exact ⟨by rw [HS.out, HE2.out]; rfl, rfl⟩

/-! ### Get -/
/-- the bits from a place on, as a text: so many of them -/
def seenL (zs : List UInt8) (at_ n : Nat) : List UInt8 := (List.range n).map fun k => UInt8.ofNat (48 + bt zs (at_ + k))
def seenB (zs : List UInt8) (at_ n : Nat) : ByteArray := ⟨(seenL zs at_ n).toArray⟩
/-- how many bits are looked at -/
def seenN (zs : List UInt8) (at_ : Nat) : Nat := min 24 (8 * zs.length - at_)
def getI (codes : List ByteArray) (s : ByteArray) : Option Nat := codes.findIdx? (fun c => begins s c)
def getMore (codes : List ByteArray) (s : ByteArray) : Bool := codes.any (fun c => begins c s)
def getX (codes : List ByteArray) (nums : List Int) (s : ByteArray) : Int := match getI codes s with | some i => nums[i]?.getD 0 | none => 0
def getN (codes : List ByteArray) (s : ByteArray) : Int := match getI codes s with | some i => (codes[i]?.getD ⟨#[]⟩).size | none => 0
def getE3 (codes : List ByteArray) (s : ByteArray) : Int := match getI codes s with | some _ => 0 | none => if getMore codes s then 5 else 7
/-- what Get answers -/
def getT (codes : List ByteArray) (nums : List Int) (zs : List UInt8) (at_ : Int) : Value :=
  if at_ < 0 then .tuple #[.int .i64 0, .int .i64 0, .int .i64 3]
  else .tuple #[.int .i64 (getX codes nums (seenB zs at_.toNat (seenN zs at_.toNat))), .int .i64 (getN codes (seenB zs at_.toNat (seenN zs at_.toNat))), .int .i64 (getE3 codes (seenB zs at_.toNat (seenN zs at_.toNat)))]
theorem seenB_size (zs : List UInt8) (a n : Nat) : (seenB zs a n).size = n := by
  show (seenL zs a n).toArray.size = n
  simp [seenL]
theorem seenB_succ (zs : List UInt8) (a n : Nat) : seenB zs a n ++ ⟨#[UInt8.ofNat (48 + bt zs (a + n))]⟩ = seenB zs a (n + 1) := by
  apply ByteArray.ext
  apply Array.toList_inj.1
  simp [seenB, seenL, List.range_succ]

end Go.Proofs.YtdadmoefmaojlaaDoor
