/- Contracts of the laws' helpers gets, puts, awake (praxinoscopelaw04); the walks of AddressGets and AddressPuts. -/
import Derived.Test.YtmampneedmodeaaDoorAGet2
import Derived.Test.YtmampneedmodeaaDoorARef2
namespace Go.Proofs.YtmampneedmodeaaDoor
open Go.RowKit Go.Shelf
set_option linter.unusedVariables false

def getsB (zs : List UInt8) (x want bits err : Int) : Bool := ((gN zs x == want) && (gM zs x == bits)) && (gE zs x == err)
set_option maxHeartbeats 1000000 in
theorem gets4_any {n₁ : Nat} {w : World} {sv : Value} {zs : List UInt8} (hB : Byt n₁ w sv zs) (hn : n₁ ≤ w.heap.size) (x want bits err : Int) (hx : x ≤ 9223372036854775807) :
    Calls Tryd.prog 20 #[sv, .int .i64 x, .int .i64 want, .int .i64 bits, .int .i64 err] w fun e w' => e = .returned (.bool (getsB zs x want bits err)) ∧ Below w.heap.size w w' := by
  have HR := Lib.hid (aget_any hB hn x hx)
  unfold getsB
  clear hB
  generalize gN zs x = g1 at *
  generalize gM zs x = g2 at *
  generalize gE zs x = g3 at *
  cases h1 : (g1 == want) with
  | false =>
    go_enter Tryd.func20, Tryd.ntmps20
    go_wp2_with (go_at_call 11; refine HR.out.mono ?_; rintro e w' ⟨rfl, hb⟩)
    go_ret
    exact ⟨rfl, hb⟩
  | true =>
    cases h2 : (g2 == bits) with
    | false =>
      go_enter Tryd.func20, Tryd.ntmps20
      go_wp2_with (go_at_call 11; refine HR.out.mono ?_; rintro e w' ⟨rfl, hb⟩)
      go_ret
      exact ⟨rfl, hb⟩
    | true =>
      go_enter Tryd.func20, Tryd.ntmps20
      go_wp2_with (go_at_call 11; refine HR.out.mono ?_; rintro e w' ⟨rfl, hb⟩)
      go_ret
      exact ⟨rfl, hb⟩
theorem gets4_lit (W : World) (zs : List UInt8) (cs : Array Value) (len cap : Nat) (hcs : cs = (zs.map fun z => Value.int .u8 z.toNat).toArray) (hlen : zs.length = len) (x want bits err : Int) (hi : x ≤ 1000) (hl : len ≤ 1000)
    (h : getsB zs x want bits err = true) (t : TypeId) :
    Calls Tryd.prog 20 #[.slice (some ⟨W.heap.size, 0, none⟩) len cap, .int .i64 x, .int .i64 want, .int .i64 bits, .int .i64 err] (W.alloc (.cells cs t)) fun e w' => e = .returned (.bool true) ∧ Below W.heap.size W w' := by
  subst hlen
  refine (gets4_any (byt_new W zs cs cap hcs (by omega) (W.heap.size + 1) (by omega) t) (by simp) x want bits err (by omega)).mono ?_
  rintro e w' ⟨rfl, hb⟩
  exact ⟨ret_bool h, ((Below.refl _ _).alloc (Nat.le_refl _) _).trans (hb.mono (by simp))⟩

set_option maxHeartbeats 1000000 in
theorem puts4_true (d : Int) (want : ByteArray) (h1 : putS4 d = want) (h2 : putE4 d = 0) (w : World) (hT : Tab2 w) :
    Calls Tryd.prog 21 #[.int .i64 d, .string want] w fun e w' => e = .returned (.bool true) ∧ Below w.heap.size w w' := by
  have HR := Lib.hid (aput_any d w hT)
  rw [h1, h2] at HR
  clear h1 h2 hT
  go_enter Tryd.func21, Tryd.ntmps21
  go_wp2_with (go_at_call 14; refine HR.out.mono ?_; rintro e w' ⟨rfl, hb⟩)
  go_ret
  exact ⟨rfl, hb⟩

set_option maxHeartbeats 1000000 in
theorem awake4_any (w : World) (hT : Tab2 w) : Calls Tryd.prog 9 #[] w fun e w' => e = .returned (.bool true) ∧ Below w.heap.size w w' := by
  have HT := Lib.hid (fun w' (hb : Below w.heap.size w w') => hT.below hb)
  clear hT
  go_enter Tryd.func9, Tryd.ntmps9
  go_wp2_with fail
  refine (gets4_lit w [96] _ 1 1 (by rfl) rfl 0 2 3 0 (by omega) (by omega) (by decide +kernel) _).mono ?_
  rintro e w1 ⟨rfl, h1⟩
  go_wp2_with fail
  refine (gets4_lit w1 [0, 1] _ 2 2 (by rfl) rfl 0 34 0 0 (by omega) (by omega) (by decide +kernel) _).mono ?_
  rintro e w2 ⟨rfl, h2⟩
  go_wp2_with fail
  refine (gets4_lit w2 [2] _ 1 1 (by rfl) rfl 0 0 0 7 (by omega) (by omega) (by decide +kernel) _).mono ?_
  rintro e w3 ⟨rfl, h3⟩
  have b3 := below_chain (below_chain h1 (Nat.le_refl _) h2) (Nat.le_refl _) h3
  go_wp2_with fail
  refine (puts4_true 33 _ (by decide +kernel) (by decide +kernel) w3 (HT.out _ b3)).mono ?_
  rintro e w4 ⟨rfl, h4⟩
  go_wp2
  go_ret
  exact ⟨rfl, below_chain b3 (Nat.le_refl _) h4⟩

end Go.Proofs.YtmampneedmodeaaDoor
