/- The contract of the law BitsFinds, over arguments as they come in. -/
import Derived.Test.YtfdlaiommpmliaaFinds
import Derived.Test.YtfdlaiommpmliaaRow
namespace Go.Proofs.Ytfdlaiommpmliaa
open Go.RowKit Go.Shelf
set_option linter.unusedVariables false

theorem bitsFinds_walk (a : Option Addr) (len cap : Nat) (z : List Int) (x : Int) (w : World) (h : IsRow .u8 w a len cap z) (hx : (Lit.int .i64 x).wf = true) :
    Calls Try.prog 7 #[.slice a len cap, .int .i64 x] w fun e w' => e = .returned (.bool true) ∧ Below w.heap.size w w' := by
  have hm : len ≤ 9223372036854775807 := by
    rcases h with ⟨_, rfl, _⟩ | ⟨_, _, h1, h2, _⟩
    · omega
    · unfold maxLen at h2; omega
  by_cases hl : 60 < len
  · exact finds_long a len cap x w hl hm
  · obtain ⟨zs, rfl, hB⟩ := byt_of_row h (by omega)
    exact finds_law a cap zs x w (by omega) hB

end Go.Proofs.Ytfdlaiommpmliaa
