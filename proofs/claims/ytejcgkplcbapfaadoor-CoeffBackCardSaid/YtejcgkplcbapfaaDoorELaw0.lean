/- What coeff's functions must answer, as one record. -/
import Derived.Test.YtejcgkplcbapfaaDoorERef4
import Derived.Test.YtejcgkplcbapfaaDoorFld
import Derived.Test.YtejcgkplcbapfaaDoorQActs
namespace Go.Proofs.YtejcgkplcbapfaaDoor
open Go.RowKit Go.Shelf
set_option linter.unusedVariables false

/-- what the library's listed variables hold -/
def Lay8 (w : World) : Prop := Spc w ∧ Tab2 w
theorem Lay8.below {w w' : World} (h : Lay8 w) (hb : Below w.heap.size w w') : Lay8 w' := ⟨h.1.below hb, h.2.below hb⟩

/-- what coeff's functions must answer -/
structure CoeffI : Prop where
  get : ∀ {n₁ : Nat} {w : World} {sv : Value} {zs : List UInt8}, Byt n₁ w sv zs → n₁ ≤ w.heap.size → zs.length ≤ 1099511627776 → Lay8 w → ∀ (x : Int) (first : Bool), x ≤ 9223372036854775807 →
    Calls Tryd.prog 11 #[sv, .int .i64 x, .bool first] w fun e w' => e = .returned (gotV (got first zs x)) ∧ Below w.heap.size w w'
  put : ∀ (r l : Int) (first : Bool) (w : World), Lay8 w → -9223372036854775808 ≤ l → l ≤ 9223372036854775807 → Calls Tryd.prog 14 #[pairV r l, .bool first] w fun e w' => e = .returned (.tuple #[.string (putS8 first r l), .int .i64 (putE8 r l)]) ∧ Below w.heap.size w w'
  esc : ∀ (r l : Int) (w : World), Lay8 w → Calls Tryd.prog 16 #[pairV r l] w fun e w' => e = .returned (.tuple #[.string (escS8 r l), .int .i64 (putE8 r l)]) ∧ Below w.heap.size w w'
  short : ∀ (r l : Int) (w : World), Lay8 w → -9223372036854775808 ≤ l → l ≤ 9223372036854775807 → Calls Tryd.prog 18 #[pairV r l] w fun e w' => e = .returned (.bool (shortB r l)) ∧ Below w.heap.size w w'
  fin : ∀ (w : World), Calls Tryd.prog 20 #[] w fun e w' => e = .returned (.string ⟨#[49, 48]⟩) ∧ w = w'

end Go.Proofs.YtejcgkplcbapfaaDoor
