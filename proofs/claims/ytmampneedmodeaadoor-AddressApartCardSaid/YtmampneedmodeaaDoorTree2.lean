/- The reference's tree (praxinoscoperef03.Tree): what it holds; contracts of its Put and Get. -/
import Derived.Test.YtmampneedmodeaaDoorTree
namespace Go.Proofs.YtmampneedmodeaaDoor
open Go.RowKit Go.Shelf
set_option linter.unusedVariables false

abbrev strV (xs : List ByteArray) : List Value := xs.map fun s => Value.string s
abbrev intV (xs : List Int) : List Value := xs.map fun n => Value.int .i64 n
abbrev tCells (vc vn : Value) : Obj := .cells #[vc, vn] 64 (0, 0)
/-- the reference's tree in block b: its codes and their numbers -/
def IsT (n₀ : Nat) (w : World) (b : Nat) (codes : List ByteArray) (nums : List Int) : Prop :=
  ∃ vc vn, n₀ ≤ b ∧ w.heap[b]? = some (tCells vc vn) ∧ w.ownsRow n₀ 9 1 vc codes.length (strV codes) ∧ w.ownsRow n₀ 3 1 vn nums.length (intV nums) ∧ nums.length = codes.length ∧ codes.length ≤ 300
theorem IsT.lt {n₀ : Nat} {w : World} {b : Nat} {codes : List ByteArray} {nums : List Int} (h : IsT n₀ w b codes nums) : b < w.heap.size := by
  obtain ⟨_, _, _, hb, _⟩ := h
  exact (Array.getElem?_eq_some_iff.1 hb).1
theorem IsT.later {n₀ : Nat} {w w' : World} {b : Nat} {codes : List ByteArray} {nums : List Int} (h : IsT n₀ w b codes nums) (hb : Below w.heap.size w w') : IsT n₀ w' b codes nums := by
  have hlt := h.lt
  obtain ⟨vc, vn, h1, h2, h3, h4, h5⟩ := h
  exact ⟨vc, vn, h1, (hb.block b hlt).trans h2, ownsRow_bar h3 (bar_of_below (S := fun _ => False) hb) (fun _ _ e => e), ownsRow_bar h4 (bar_of_below (S := fun _ => False) hb) (fun _ _ e => e), h5⟩
theorem t_cells {w : World} {b : Nat} {vc vn : Value} (h : w.heap[b]? = some (tCells vc vn)) : w.cell? ⟨b, 0, none⟩ = some vc ∧ w.cell? ⟨b, 1, none⟩ = some vn := by
  simp [World.cell?, h, tCells]
/-- a row that is not empty lies in a block, cell by cell -/
theorem row_cells {w : World} {base n j : Nat} {e : TypeId} {v : Value} {xs : List Value} (h : w.ownsRow base e 1 v n xs) (hj : j < n) : ∃ g cap, v = .slice (some ⟨g, 0, none⟩) n cap ∧ g < w.heap.size ∧ n ≤ cap ∧ ∀ i u, i < n → xs[i]? = some u → w.cell? ⟨g, i, none⟩ = some u := by
  rcases id h.2 with ⟨rfl, h0⟩ | ⟨g, cap, cur, rfl, _, hg, hc, _⟩
  · omega
  · exact ⟨g, cap, rfl, (Array.getElem?_eq_some_iff.1 hg).1, hc, fun i u hi hu => by rw [h.cellAt i (by omega), hu]⟩

/-! ### Put -/
def putI (nums : List Int) (x : Int) : Option Nat := nums.findIdx? (fun n => n == x)
def putS (codes : List ByteArray) (nums : List Int) (x : Int) : ByteArray := match putI nums x with | some i => codes[i]?.getD ⟨#[]⟩ | none => ⟨#[]⟩
def putE3 (nums : List Int) (x : Int) : Int := match putI nums x with | some _ => 0 | none => 18

/-! ### Get -/
/-- the bits from a place on, as a text: so many of them -/
def seenL (zs : List UInt8) (at_ n : Nat) : List UInt8 := (List.range n).map fun k => UInt8.ofNat (48 + bt zs (at_ + k))
def seenB (zs : List UInt8) (at_ n : Nat) : ByteArray := ⟨(seenL zs at_ n).toArray⟩
/-- how many bits are looked at -/
def seenN (zs : List UInt8) (at_ : Nat) : Nat := min 24 (8 * zs.length - at_)
def getI (codes : List ByteArray) (s : ByteArray) : Option Nat := codes.findIdx? (fun c => begins s c)
def getMore (codes : List ByteArray) (s : ByteArray) : Bool := codes.any (fun c => begins c s)
def getX (codes : List ByteArray) (nums : List Int) (s : ByteArray) : Int := match getI codes s with | some i => nums[i]?.getD 0 | none => 0
def getN (codes : List ByteArray) (s : ByteArray) : Int := match getI codes s with | some i => (codes[i]?.getD ⟨#[]⟩).size | none => 0
def getE3 (codes : List ByteArray) (s : ByteArray) : Int := match getI codes s with | some _ => 0 | none => if getMore codes s then 5 else 7
/-- what Get answers -/
def getT (codes : List ByteArray) (nums : List Int) (zs : List UInt8) (at_ : Int) : Value :=
  if at_ < 0 then .tuple #[.int .i64 0, .int .i64 0, .int .i64 3]
  else .tuple #[.int .i64 (getX codes nums (seenB zs at_.toNat (seenN zs at_.toNat))), .int .i64 (getN codes (seenB zs at_.toNat (seenN zs at_.toNat))), .int .i64 (getE3 codes (seenB zs at_.toNat (seenN zs at_.toNat)))]
theorem seenB_size (zs : List UInt8) (a n : Nat) : (seenB zs a n).size = n := by
  show (seenL zs a n).toArray.size = n
  simp [seenL]
theorem seenB_succ (zs : List UInt8) (a n : Nat) : seenB zs a n ++ ⟨#[UInt8.ofNat (48 + bt zs (a + n))]⟩ = seenB zs a (n + 1) := by
  apply ByteArray.ext
  apply Array.toList_inj.1
  simp [seenB, seenL, List.range_succ]

end Go.Proofs.YtmampneedmodeaaDoor
