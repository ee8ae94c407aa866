/- motion: what its functions must answer, as a record; the laws' qcif and row. -/
import Derived.Test.YtenplmmongphoaaMRef2
import Derived.Test.YtenplmmongphoaaMCha
namespace Go.Proofs.Ytenplmmongphoaa
open Go.RowKit Go.Shelf Go.Sort
set_option linter.unusedVariables false

/-- what motion's functions must answer -/
structure MotionI : Prop where
  half : ∀ (n : Int) (W : World), I64 n → Calls Try.prog 57 #[.int .i64 n] W fun e W' => e = .returned (.int .i64 (hv n)) ∧ Below W.heap.size W W'
  fits : ∀ (f g a x y : Int) (W : World), I64 f → I64 g → I64 a → I64 x → I64 y → Calls Try.prog 53 #[spotV f g a, .int .i64 x, .int .i64 y] W fun e W' => e = .returned (.int .i64 (fE f g a x y)) ∧ Below W.heap.size W W'
  fetch : ∀ {n₀ : Nat} {W : World} {sv : Value} {zs : List UInt8} (f g a b x y : Int), Byt n₀ W sv zs → n₀ ≤ W.heap.size → Capped sv → I64 f → I64 g → I64 a → I64 b → I64 x → I64 y →
    Calls Try.prog 35 #[sv, spotV f g a, .int .i64 b, .int .i64 x, .int .i64 y] W fun e W' => ∃ v, e = .returned (.tuple #[v, .int .i64 (mE f g a b x y zs.length)]) ∧ W'.ownsRow W.heap.size 5 1 v (mL f g a b x y zs).length (u8s (mL f g a b x y zs)) ∧ Below W.heap.size W W'

theorem byt_take14 {n₀ : Nat} {w : World} {a : Option Addr} {cap : Nat} {zs : List UInt8} (h : Byt n₀ w (.slice a zs.length cap) zs) (e : Nat) (he : e ≤ zs.length) : Byt n₀ w (.slice a e cap) (zs.take e) := by
  obtain ⟨a', cap', e1, hl, hz⟩ := h
  cases e1
  have hte : (zs.take e).length = e := by simp; omega
  refine ⟨a, cap, by rw [hte], by omega, ?_⟩
  rcases hz with rfl | ⟨b, off, rfl, hb, hc⟩
  · left; simp
  · right
    refine ⟨b, off, rfl, hb, fun j hj => ?_⟩
    rw [hte] at hj
    rw [hc j (by omega), List.getElem?_take, if_pos hj]

/-- what row's first region has told -/
structure RowV14 (W1 : World) (cc : List Value) (sp er : Value) (b x y : Int) (Lf : List UInt8) (L : Nat → Bool) (vc vf : Value) (x11 x12 x13 x14 x15 x16 x17 x18 x19 x20 x21 : Value) (Wr : World) : Prop where
  below : Below W1.heap.size W1 Wr
  oc : L 0 = true → Wr.ownsRow W1.heap.size 5 1 vc 38016 cc
  of : L 5 = true → Wr.ownsRow W1.heap.size 5 1 vf Lf.length (u8s Lf)
  l0 : L 0 = true → x14 = vc
  l1 : L 1 = true → x15 = sp
  l2 : L 2 = true → x16 = .int .i64 b
  l3 : L 3 = true → x17 = .int .i64 x
  l4 : L 4 = true → x18 = .int .i64 y
  l5 : L 5 = true → x19 = .tuple #[vf, er]
  l6 : L 6 = true → x13 = .tuple #[vf, er]
  l7 : L 7 = true → x20 = vf
  l8 : L 8 = true → x21 = er
  l9 : L 9 = true → x11 = vf
  l10 : L 10 = true → x12 = er
def RowI14 (fr : Value → Value → Value → Value → Value → Value → Value → Value → Value → Value → Value → Act) (W1 : World) (cc : List Value) (sp er : Value) (b x y : Int) (Lf : List UInt8) (L : Nat → Bool) (ac : Act) (Wr : World) : Prop :=
  ∃ vc vf x11 x12 x13 x14 x15 x16 x17 x18 x19 x20 x21, ac = fr x11 x12 x13 x14 x15 x16 x17 x18 x19 x20 x21 ∧ RowV14 W1 cc sp er b x y Lf L vc vf x11 x12 x13 x14 x15 x16 x17 x18 x19 x20 x21 Wr

end Go.Proofs.Ytenplmmongphoaa
