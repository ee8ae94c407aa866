/- loop: the reference's Soften and Filter (praxinoscoperef15). -/
import Derived.Test.YtdpnmddjhlkbjaaLPlain
import Derived.Test.YtdpnmddjhlkbjaaZArr
import Derived.Test.YtdpnmddjhlkbjaaPTree
import Derived.Test.YtdpnmddjhlkbjaaQTail
namespace Go.Proofs.Ytdpnmddjhlkbjaa
open Go.RowKit Go.Shelf Go.Sort
set_option linter.unusedVariables false

/-- what has come up in Soften's region -/
structure SftC (inp : Value) (q0 q1 q2 b off : Nat) (g0 g1 g2 : Int) (v : Value) (k : Nat) (cs : List Value) (z : Value) (base : Nat) (W0 : World) (L : Nat → Bool) (x35 x36 x37 x38 x39 x40 x41 x42 x43 x44 x45 x46 x47 x48 x49 x50 x51 x52 x53 x54 x5 : Value) (W : World) : Prop where
  bar : Bar (fun j => v.ownBlock = some j) W0 W
  l0 : L 0 = true → x35 = v
  l1 : L 1 = true → x36 = inp
  l2 : L 2 = true → x37 = .int .i64 (q1 : Int)
  l3 : L 3 = true → x38 = .int .i64 (q0 : Int)
  l4 : L 4 = true → x39 = .pointer (some ⟨b, off + q0, none⟩)
  l5 : L 5 = true → x40 = .int .i64 (g0)
  l6 : L 6 = true → x41 = inp
  l7 : L 7 = true → x42 = .int .i64 (q1 : Int)
  l8 : L 8 = true → x43 = .pointer (some ⟨b, off + q1, none⟩)
  l9 : L 9 = true → x44 = .int .i64 (g1)
  l10 : L 10 = true → x45 = .int .i64 (2 * g1)
  l11 : L 11 = true → x46 = .int .i64 (g0 + 2 * g1)
  l12 : L 12 = true → x47 = inp
  l13 : L 13 = true → x48 = .int .i64 (q1 : Int)
  l14 : L 14 = true → x49 = .int .i64 (q2 : Int)
  l15 : L 15 = true → x50 = .pointer (some ⟨b, off + q2, none⟩)
  l16 : L 16 = true → x51 = .int .i64 (g2)
  l17 : L 17 = true → x52 = .int .i64 (g0 + 2 * g1 + g2)
  l18 : L 18 = true → ∃ g, x53 = .slice (some ⟨g, 0, none⟩) 1 1 ∧ W0.heap.size ≤ g ∧ (L 19 = false → W.heap[g]? = some (.cells #[z] 3 (0, 0)))
  n19 : L 19 = false → W.ownsRow base 3 1 v k cs
  l19 : L 19 = true → W.ownsRow base 3 1 x54 (k + 1) (cs ++ [z])
  l20 : x5 = if L 20 = true then x54 else v
def SftI (inp : Value) (q0 q1 q2 b off : Nat) (g0 g1 g2 : Int) (fr : Value → Value → Value → Value → Value → Value → Value → Value → Value → Value → Value → Value → Value → Value → Value → Value → Value → Value → Value → Value → Value → Act) (v : Value) (k : Nat) (cs : List Value) (z : Value) (base : Nat) (W0 : World) (L : Nat → Bool) (ac : Act) (W : World) : Prop :=
  ∃ x35 x36 x37 x38 x39 x40 x41 x42 x43 x44 x45 x46 x47 x48 x49 x50 x51 x52 x53 x54 x5, ac = fr x35 x36 x37 x38 x39 x40 x41 x42 x43 x44 x45 x46 x47 x48 x49 x50 x51 x52 x53 x54 x5 ∧ SftC inp q0 q1 q2 b off g0 g1 g2 v k cs z base W0 L x35 x36 x37 x38 x39 x40 x41 x42 x43 x44 x45 x46 x47 x48 x49 x50 x51 x52 x53 x54 x5 W

set_option maxRecDepth 100000 in
set_option maxHeartbeats 4000000 in
theorem rsoften15_any {n₀ : Nat} {w : World} {av : Option Addr} {len cap : Nat} {xs : List Int} (hR : RowV n₀ w av len cap (intV xs)) (hn : n₀ ≤ w.heap.size) (hlen : len ≤ 1000000) :
    Calls Try.prog 14 #[.slice av len cap] w fun e w' => ∃ v, e = .returned (.tuple #[v, .int .i64 (sfE xs)]) ∧ w'.ownsRow w.heap.size 3 1 v (sfL xs).length (intV (sfL xs)) ∧ Below w.heap.size w w' := by
  have hl : xs.length = len := by have := hR.1; simpa using this
  rcases sfE_cases xs with ⟨h8, he⟩ | ⟨h8, hall, he⟩ | ⟨h8, hall, he⟩
  · rw [sf_none he, he]
    have t1 : ((len : Int) != 8) = true := by rw [hl] at h8; simp; omega
    go_enter Try.func14, Try.ntmps14
    go_wp2
    exact bodyPost_ret (v := .tuple #[.slice none 0 0, .int .i64 2]) (by simp [results, Try.f14, go_sem]) rfl ⟨.slice none 0 0, rfl, World.ownsRow_nil _ _ _ _, Below.refl _ _⟩
  · rw [sf_none he, he]
    obtain rfl : len = 8 := by omega
    obtain ⟨b, off, rfl, hbl, hc⟩ := hR.cells (by omega)
    have HX := Lib.hid (fun j (hj : j < 8) => (hc j (.int .i64 (nthC xs j)) (by simp [nthC, show j < xs.length by omega])))
    have HNo : Hid (¬ ∀ j, j < 8 → -1099511627776 ≤ nthC xs j ∧ nthC xs j ≤ 1099511627776) := fun h => by
      rw [(allC_iff xs _ _).2 (fun j hj => (okNC_iff _ _ _).2 (h j (by omega)))] at hall
      cases hall
    clear hR hc hall he
    go_enter Try.func14, Try.ntmps14
    go_wp2
    go_loopw [4] (fun i wr => ∃ k : Nat, i = .int .i64 k ∧ k ≤ 8 ∧ w = wr ∧ ∀ j, j < k → -1099511627776 ≤ nthC xs j ∧ nthC xs j ≤ 1099511627776) (fun i _ => 8 - (intOf i).toNat)
    case atStart => exact ⟨0, rfl, by omega, rfl, fun j hj => by omega⟩
    case round =>
      obtain ⟨i, rfl, hi, rfl, hok⟩ := hrel
      by_cases hi2 : i < 8
      · have z1 : (i : Int) < 8 := by omega
        have z0 : (0 : Int) ≤ i := by omega
        have x1 := HX.out i hi2
        have HOk : Hid ((-1099511627776 ≤ nthC xs i ∧ nthC xs i ≤ 1099511627776) → ∀ j, j < i + 1 → -1099511627776 ≤ nthC xs j ∧ nthC xs j ≤ 1099511627776) := fun h j hj => by
          by_cases e : j = i
          · rw [e]; exact h
          · exact hok j (by omega)
        clear hok
        generalize nthC xs i = y at *
        by_cases b1 : -1099511627776 ≤ y
        · by_cases b2 : y ≤ 1099511627776
          · have HOk2 := Lib.hid (HOk.out ⟨b1, b2⟩)
            clear HOk
            go_wp2_with fail
            go_roundw
            case rel => exact ⟨i + 1, by go_num, by omega, trivial, HOk2.out⟩
            case measure => simp [intOf]; omega
          · clear HOk
            go_wp2_with fail
            exact bodyPost_ret (v := .tuple #[.slice none 0 0, .int .i64 2]) (by simp [results, Try.f14, go_sem]) rfl ⟨.slice none 0 0, rfl, World.ownsRow_nil _ _ _ _, Below.refl _ _⟩
        · clear HOk
          go_wp2_with fail
          exact bodyPost_ret (v := .tuple #[.slice none 0 0, .int .i64 2]) (by simp [results, Try.f14, go_sem]) rfl ⟨.slice none 0 0, rfl, World.ownsRow_nil _ _ _ _, Below.refl _ _⟩
      · obtain rfl : i = 8 := by omega
        exact absurd hok HNo.out
  · rw [he, (sf_ok h8 (fun j hj => (okNC_iff _ _ _).1 ((allC_iff _ _ _).1 hall j (by omega)))).2]
    have hbd : ∀ j, j < 8 → -1099511627776 ≤ nthC xs j ∧ nthC xs j ≤ 1099511627776 := fun j hj => (okNC_iff _ _ _).1 ((allC_iff _ _ _).1 hall j (by omega))
    obtain rfl : len = 8 := by omega
    obtain ⟨b, off, rfl, hbl, hc⟩ := hR.cells (by omega)
    have HX := Lib.hid (fun W' (h : Below w.heap.size w W') j (hj : j < 8) => (h.cell (p := ⟨b, off + j, none⟩) (by simp; omega)).trans (hc j (.int .i64 (nthC xs j)) (by simp [nthC, show j < xs.length by omega])))
    have HBd := Lib.hid hbd
    clear hR hc hall hbd he
    go_enter Try.func14, Try.ntmps14
    go_wp2
    go_loopw [4] (fun i wr => ∃ k : Nat, i = .int .i64 k ∧ k ≤ 8 ∧ w = wr) (fun i _ => 8 - (intOf i).toNat)
    case atStart => exact ⟨0, rfl, by omega, rfl⟩
    case round =>
      obtain ⟨i, rfl, hi, rfl⟩ := hrel
      by_cases hi2 : i < 8
      · have z1 : (i : Int) < 8 := by omega
        have z0 : (0 : Int) ≤ i := by omega
        have x1 := HX.out _ (Below.refl _ _) i hi2
        obtain ⟨b1, b2⟩ := HBd.out i hi2
        generalize nthC xs i = y at *
        go_wp2_with fail
        go_roundw
        case rel => exact ⟨i + 1, by go_num, by omega, trivial⟩
        case measure => simp [intOf]; omega
      · obtain rfl : i = 8 := by omega
        have x0 := HX.out _ (Below.refl _ _) 0 (by omega)
        obtain ⟨b1, b2⟩ := HBd.out 0 (by omega)
        rw [Nat.add_zero] at x0
        generalize hg0 : nthC xs 0 = y0 at *
        go_wp2_with fail
        have hb1 : Below w.heap.size w (w.alloc (.cells #[.int .i64 (4 * y0)] 3 (0, 0))) := (Below.refl _ w).alloc (Nat.le_refl _) _
        have ho1 : (w.alloc (.cells #[.int .i64 (4 * y0)] 3 (0, 0))).ownsRow w.heap.size 3 1 (.slice (some ⟨w.heap.size, 0, none⟩) 1 1) 1 (intV (ofC 1 (sof (nthC xs)))) :=
          ⟨rfl, .inr ⟨w.heap.size, 1, _, rfl, Nat.le_refl _, World.alloc_heap_new _ _, Nat.le_refl _, by decide, rfl, by simp [ofC, sof, hg0]⟩⟩
        have HO1 := Lib.hid ho1
        have HB1 := Lib.hid hb1
        clear ho1 hb1 x0
        generalize w.alloc (.cells #[.int .i64 (4 * y0)] 3 (0, 0)) = w1 at *
        go_loopw [5, 6] (fun v r wr => ∃ k : Nat, r = .int .i64 (k : Int) ∧ 1 ≤ k ∧ k ≤ 7 ∧ wr.ownsRow w.heap.size 3 1 v k (intV (ofC k (sof (nthC xs)))) ∧ Below w.heap.size w wr) (fun _ r _ => 8 - (intOf r).toNat)
        case atStart => exact ⟨1, rfl, by omega, by omega, HO1.out, HB1.out⟩
        case round =>
          obtain ⟨k, rfl, hk1, hk7, ho, hb⟩ := hrel
          have HO := Lib.hid ho
          have HB := Lib.hid hb
          clear ho hb
          by_cases hk2 : k < 7
          · have z1 : (k : Int) < 7 := by omega
            obtain ⟨q0, q2, hq0, hq2⟩ : ∃ q0 q2 : Nat, k = q0 + 1 ∧ q2 = k + 1 := ⟨k - 1, k + 1, by omega, rfl⟩
            have hst : intV (ofC k (sof (nthC xs))) ++ [.int .i64 (nthC xs q0 + 2 * nthC xs k + nthC xs q2)] = intV (ofC (k + 1) (sof (nthC xs))) := by
              rw [← ofC_snocL]
              unfold sof
              rw [if_neg (by omega), if_neg (by omega), show k - 1 = q0 by omega, ← hq2]
            have HSt := Lib.hid hst
            obtain ⟨d0, d1⟩ := HBd.out q0 (by omega)
            obtain ⟨d2, d3⟩ := HBd.out k (by omega)
            obtain ⟨d4, d5⟩ := HBd.out q2 (by omega)
            have hrd : ∀ Wr, Bar (fun j => u5.ownBlock = some j) wr Wr → Wr.cell? ⟨b, off + q0, none⟩ = some (.int .i64 (nthC xs q0)) ∧ Wr.cell? ⟨b, off + k, none⟩ = some (.int .i64 (nthC xs k)) ∧ Wr.cell? ⟨b, off + q2, none⟩ = some (.int .i64 (nthC xs q2)) := fun Wr hbr => by
              have hbw : Below w.heap.size w Wr := HB.out.trans (hbr.below HB.out.size (fun j hj e => by have := (HO.out.lt j e).1; omega))
              exact ⟨HX.out _ hbw _ (by omega), HX.out _ hbw _ (by omega), HX.out _ hbw _ (by omega)⟩
            have HRd := Lib.hid hrd
            have i0' : (q0 : Int) < 8 := by omega
            have i1' : (k : Int) < 8 := by omega
            have i2' : (q2 : Int) < 8 := by omega
            have e1 : IntKind.i64.wrap ((k : Int) - 1) = (q0 : Int) := by rw [IntKind.wrap_i64]; omega
            have e2 : IntKind.i64.wrap ((k : Int) + 1) = (q2 : Int) := by rw [IntKind.wrap_i64]; omega
            have hzW := HB.out.size
            have HLt := Lib.hid HO.out.lt
            have HQ2 := Lib.hid hq2
            clear hst hrd hq0 hq2
            generalize nthC xs q0 = g0 at *
            generalize nthC xs k = g1 at *
            generalize nthC xs q2 = g2 at *
            generalize intV (ofC k (sof (nthC xs))) = cs at *
            have e3 : IntKind.i64.wrap (2 * g1) = 2 * g1 := by rw [IntKind.wrap_i64]; omega
            have e4 : IntKind.i64.wrap (g0 + 2 * g1) = g0 + 2 * g1 := by rw [IntKind.wrap_i64]; omega
            have e5' : IntKind.i64.wrap (g0 + 2 * g1 + g2) = g0 + 2 * g1 + g2 := by rw [IntKind.wrap_i64]; omega
            go_wp2_with fail
            refine wp_region_inv (by kernel_rfl) (by kernel_rfl) (by kernel_rfl) (SftI (.slice (some ⟨b, off, none⟩) 8 cap) q0 k q2 b off g0 g1 g2 (fun x35 x36 x37 x38 x39 x40 x41 x42 x43 x44 x45 x46 x47 x48 x49 x50 x51 x52 x53 x54 x5 => { tmps := #[.slice (some ⟨b, off, none⟩) 8 cap, undef, u2, u3, .int .i64 ((8 : Nat) : Int), x5, .int .i64 (k : Int), .slice (some ⟨b, off, none⟩) 8 cap, .int .i64 8, .bool false, .int .i64 ((8 : Nat) : Int), .bool false, u12, u13, u14, u15, u16, u17, u18, u19, u20, u21, u22, u23, u24, u25, .slice (some ⟨b, off, none⟩) 8 cap, .pointer (some ⟨b, off, none⟩), .int .i64 y0, .int .i64 (4 * y0), .slice (some ⟨w.heap.size, 0, none⟩) 1 1, .int .i64 (k : Int), .bool true, u33, u34, x35, x36, x37, x38, x39, x40, x41, x42, x43, x44, x45, x46, x47, x48, x49, x50, x51, x52, x53, x54, undef, undef, undef, undef, undef, undef, undef], defers := [] }) u5 k cs (.int .i64 (g0 + 2 * g1 + g2)) w.heap.size wr) ?h0 ?st ?hd
            case h0 =>
              intro L hL
              have e : ∀ i, ¬ L i = true := fun i h => by rw [hL i] at h; cases h
              exact ⟨u35, u36, u37, u38, u39, u40, u41, u42, u43, u44, u45, u46, u47, u48, u49, u50, u51, u52, u53, u54, u5, rfl, ⟨(Bar.refl _ _).drew, fun h => (e _ h).elim, fun h => (e _ h).elim, fun h => (e _ h).elim, fun h => (e _ h).elim, fun h => (e _ h).elim, fun h => (e _ h).elim, fun h => (e _ h).elim, fun h => (e _ h).elim, fun h => (e _ h).elim, fun h => (e _ h).elim, fun h => (e _ h).elim, fun h => (e _ h).elim, fun h => (e _ h).elim, fun h => (e _ h).elim, fun h => (e _ h).elim, fun h => (e _ h).elim, fun h => (e _ h).elim, fun h => (e _ h).elim, fun h => (e _ h).elim, fun _ => HO.out, fun h => (e _ h).elim, by rw [if_neg (e _)]⟩⟩
            case st =>
              refine ⟨?o0, ?o1, ?o2, ?o3, ?o4, ?o5, ?o6, ?o7, ?o8, ?o9, ?o10, ?o11, ?o12, ?o13, ?o14, ?o15, ?o16, ?o17, ?o18, ?o19, ?o20, trivial⟩
              case o0 =>
                rintro L a Wr hL hbe hcl ⟨x35, x36, x37, x38, x39, x40, x41, x42, x43, x44, x45, x46, x47, x48, x49, x50, x51, x52, x53, x54, x5, rfl, hC⟩
                have hE : L 20 = false := by rw [Bool.eq_false_iff]; intro h; have h2 := hcl 20 _ rfl h { on := 19, ground := .data } (by simp) rfl; have h3 := hcl 19 _ rfl h2 { on := 0, ground := .data } (by simp) rfl; rw [hL] at h3; cases h3
                have e5 := hC.l20
                rw [hE] at e5
                obtain rfl : x5 = u5 := e5
                have HC := Lib.hid hC
                clear hC hcl hbe
                go_simp
                exact ⟨_, x36, x37, x38, x39, x40, x41, x42, x43, x44, x45, x46, x47, x48, x49, x50, x51, x52, x53, x54, _, rfl, ⟨HC.out.bar, fun _ => rfl, HC.out.l1, HC.out.l2, HC.out.l3, HC.out.l4, HC.out.l5, HC.out.l6, HC.out.l7, HC.out.l8, HC.out.l9, HC.out.l10, HC.out.l11, HC.out.l12, HC.out.l13, HC.out.l14, HC.out.l15, HC.out.l16, HC.out.l17, HC.out.l18, HC.out.n19, HC.out.l19, HC.out.l20⟩⟩
              case o1 =>
                rintro L a Wr hL hbe hcl ⟨x35, x36, x37, x38, x39, x40, x41, x42, x43, x44, x45, x46, x47, x48, x49, x50, x51, x52, x53, x54, x5, rfl, hC⟩
                have HC := Lib.hid hC
                clear hC hcl hbe
                go_simp
                exact ⟨x35, _, x37, x38, x39, x40, x41, x42, x43, x44, x45, x46, x47, x48, x49, x50, x51, x52, x53, x54, x5, rfl, ⟨HC.out.bar, HC.out.l0, fun _ => rfl, HC.out.l2, HC.out.l3, HC.out.l4, HC.out.l5, HC.out.l6, HC.out.l7, HC.out.l8, HC.out.l9, HC.out.l10, HC.out.l11, HC.out.l12, HC.out.l13, HC.out.l14, HC.out.l15, HC.out.l16, HC.out.l17, HC.out.l18, HC.out.n19, HC.out.l19, HC.out.l20⟩⟩
              case o2 =>
                rintro L a Wr hL hbe hcl ⟨x35, x36, x37, x38, x39, x40, x41, x42, x43, x44, x45, x46, x47, x48, x49, x50, x51, x52, x53, x54, x5, rfl, hC⟩
                have HC := Lib.hid hC
                clear hC hcl hbe
                go_simp
                exact ⟨x35, x36, _, x38, x39, x40, x41, x42, x43, x44, x45, x46, x47, x48, x49, x50, x51, x52, x53, x54, x5, rfl, ⟨HC.out.bar, HC.out.l0, HC.out.l1, fun _ => rfl, HC.out.l3, HC.out.l4, HC.out.l5, HC.out.l6, HC.out.l7, HC.out.l8, HC.out.l9, HC.out.l10, HC.out.l11, HC.out.l12, HC.out.l13, HC.out.l14, HC.out.l15, HC.out.l16, HC.out.l17, HC.out.l18, HC.out.n19, HC.out.l19, HC.out.l20⟩⟩
              case o3 =>
                rintro L a Wr hL hbe hcl ⟨x35, x36, x37, x38, x39, x40, x41, x42, x43, x44, x45, x46, x47, x48, x49, x50, x51, x52, x53, x54, x5, rfl, hC⟩
                obtain rfl := hC.l2 (hbe { on := 2, ground := .data } (by simp) rfl)
                have HC := Lib.hid hC
                clear hC hcl hbe
                go_simp
                exact ⟨x35, x36, _, _, x39, x40, x41, x42, x43, x44, x45, x46, x47, x48, x49, x50, x51, x52, x53, x54, x5, rfl, ⟨HC.out.bar, HC.out.l0, HC.out.l1, HC.out.l2, fun _ => rfl, HC.out.l4, HC.out.l5, HC.out.l6, HC.out.l7, HC.out.l8, HC.out.l9, HC.out.l10, HC.out.l11, HC.out.l12, HC.out.l13, HC.out.l14, HC.out.l15, HC.out.l16, HC.out.l17, HC.out.l18, HC.out.n19, HC.out.l19, HC.out.l20⟩⟩
              case o4 =>
                rintro L a Wr hL hbe hcl ⟨x35, x36, x37, x38, x39, x40, x41, x42, x43, x44, x45, x46, x47, x48, x49, x50, x51, x52, x53, x54, x5, rfl, hC⟩
                obtain rfl := hC.l1 (hbe { on := 1, ground := .data } (by simp) rfl)
                obtain rfl := hC.l3 (hbe { on := 3, ground := .data } (by simp) rfl)
                have HC := Lib.hid hC
                clear hC hcl hbe
                go_simp
                exact ⟨x35, _, x37, _, _, x40, x41, x42, x43, x44, x45, x46, x47, x48, x49, x50, x51, x52, x53, x54, x5, rfl, ⟨HC.out.bar, HC.out.l0, HC.out.l1, HC.out.l2, HC.out.l3, fun _ => rfl, HC.out.l5, HC.out.l6, HC.out.l7, HC.out.l8, HC.out.l9, HC.out.l10, HC.out.l11, HC.out.l12, HC.out.l13, HC.out.l14, HC.out.l15, HC.out.l16, HC.out.l17, HC.out.l18, HC.out.n19, HC.out.l19, HC.out.l20⟩⟩
              case o5 =>
                rintro L a Wr hL hbe hcl ⟨x35, x36, x37, x38, x39, x40, x41, x42, x43, x44, x45, x46, x47, x48, x49, x50, x51, x52, x53, x54, x5, rfl, hC⟩
                obtain rfl := hC.l4 (hbe { on := 4, ground := .data } (by simp) rfl)
                obtain ⟨p0, p1, p2⟩ := HRd.out Wr hC.bar
                have HC := Lib.hid hC
                clear hC hcl hbe
                go_simp
                exact ⟨x35, x36, x37, x38, _, _, x41, x42, x43, x44, x45, x46, x47, x48, x49, x50, x51, x52, x53, x54, x5, rfl, ⟨HC.out.bar, HC.out.l0, HC.out.l1, HC.out.l2, HC.out.l3, HC.out.l4, fun _ => rfl, HC.out.l6, HC.out.l7, HC.out.l8, HC.out.l9, HC.out.l10, HC.out.l11, HC.out.l12, HC.out.l13, HC.out.l14, HC.out.l15, HC.out.l16, HC.out.l17, HC.out.l18, HC.out.n19, HC.out.l19, HC.out.l20⟩⟩
              case o6 =>
                rintro L a Wr hL hbe hcl ⟨x35, x36, x37, x38, x39, x40, x41, x42, x43, x44, x45, x46, x47, x48, x49, x50, x51, x52, x53, x54, x5, rfl, hC⟩
                have HC := Lib.hid hC
                clear hC hcl hbe
                go_simp
                exact ⟨x35, x36, x37, x38, x39, x40, _, x42, x43, x44, x45, x46, x47, x48, x49, x50, x51, x52, x53, x54, x5, rfl, ⟨HC.out.bar, HC.out.l0, HC.out.l1, HC.out.l2, HC.out.l3, HC.out.l4, HC.out.l5, fun _ => rfl, HC.out.l7, HC.out.l8, HC.out.l9, HC.out.l10, HC.out.l11, HC.out.l12, HC.out.l13, HC.out.l14, HC.out.l15, HC.out.l16, HC.out.l17, HC.out.l18, HC.out.n19, HC.out.l19, HC.out.l20⟩⟩
              case o7 =>
                rintro L a Wr hL hbe hcl ⟨x35, x36, x37, x38, x39, x40, x41, x42, x43, x44, x45, x46, x47, x48, x49, x50, x51, x52, x53, x54, x5, rfl, hC⟩
                have HC := Lib.hid hC
                clear hC hcl hbe
                go_simp
                exact ⟨x35, x36, x37, x38, x39, x40, x41, _, x43, x44, x45, x46, x47, x48, x49, x50, x51, x52, x53, x54, x5, rfl, ⟨HC.out.bar, HC.out.l0, HC.out.l1, HC.out.l2, HC.out.l3, HC.out.l4, HC.out.l5, HC.out.l6, fun _ => rfl, HC.out.l8, HC.out.l9, HC.out.l10, HC.out.l11, HC.out.l12, HC.out.l13, HC.out.l14, HC.out.l15, HC.out.l16, HC.out.l17, HC.out.l18, HC.out.n19, HC.out.l19, HC.out.l20⟩⟩
              case o8 =>
                rintro L a Wr hL hbe hcl ⟨x35, x36, x37, x38, x39, x40, x41, x42, x43, x44, x45, x46, x47, x48, x49, x50, x51, x52, x53, x54, x5, rfl, hC⟩
                obtain rfl := hC.l6 (hbe { on := 6, ground := .data } (by simp) rfl)
                obtain rfl := hC.l7 (hbe { on := 7, ground := .data } (by simp) rfl)
                have HC := Lib.hid hC
                clear hC hcl hbe
                go_simp
                exact ⟨x35, x36, x37, x38, x39, x40, _, _, _, x44, x45, x46, x47, x48, x49, x50, x51, x52, x53, x54, x5, rfl, ⟨HC.out.bar, HC.out.l0, HC.out.l1, HC.out.l2, HC.out.l3, HC.out.l4, HC.out.l5, HC.out.l6, HC.out.l7, fun _ => rfl, HC.out.l9, HC.out.l10, HC.out.l11, HC.out.l12, HC.out.l13, HC.out.l14, HC.out.l15, HC.out.l16, HC.out.l17, HC.out.l18, HC.out.n19, HC.out.l19, HC.out.l20⟩⟩
              case o9 =>
                rintro L a Wr hL hbe hcl ⟨x35, x36, x37, x38, x39, x40, x41, x42, x43, x44, x45, x46, x47, x48, x49, x50, x51, x52, x53, x54, x5, rfl, hC⟩
                obtain rfl := hC.l8 (hbe { on := 8, ground := .data } (by simp) rfl)
                obtain ⟨p0, p1, p2⟩ := HRd.out Wr hC.bar
                have HC := Lib.hid hC
                clear hC hcl hbe
                go_simp
                exact ⟨x35, x36, x37, x38, x39, x40, x41, x42, _, _, x45, x46, x47, x48, x49, x50, x51, x52, x53, x54, x5, rfl, ⟨HC.out.bar, HC.out.l0, HC.out.l1, HC.out.l2, HC.out.l3, HC.out.l4, HC.out.l5, HC.out.l6, HC.out.l7, HC.out.l8, fun _ => rfl, HC.out.l10, HC.out.l11, HC.out.l12, HC.out.l13, HC.out.l14, HC.out.l15, HC.out.l16, HC.out.l17, HC.out.l18, HC.out.n19, HC.out.l19, HC.out.l20⟩⟩
              case o10 =>
                rintro L a Wr hL hbe hcl ⟨x35, x36, x37, x38, x39, x40, x41, x42, x43, x44, x45, x46, x47, x48, x49, x50, x51, x52, x53, x54, x5, rfl, hC⟩
                obtain rfl := hC.l9 (hbe { on := 9, ground := .data } (by simp) rfl)
                have HC := Lib.hid hC
                clear hC hcl hbe
                go_simp
                exact ⟨x35, x36, x37, x38, x39, x40, x41, x42, x43, _, _, x46, x47, x48, x49, x50, x51, x52, x53, x54, x5, rfl, ⟨HC.out.bar, HC.out.l0, HC.out.l1, HC.out.l2, HC.out.l3, HC.out.l4, HC.out.l5, HC.out.l6, HC.out.l7, HC.out.l8, HC.out.l9, fun _ => rfl, HC.out.l11, HC.out.l12, HC.out.l13, HC.out.l14, HC.out.l15, HC.out.l16, HC.out.l17, HC.out.l18, HC.out.n19, HC.out.l19, HC.out.l20⟩⟩
              case o11 =>
                rintro L a Wr hL hbe hcl ⟨x35, x36, x37, x38, x39, x40, x41, x42, x43, x44, x45, x46, x47, x48, x49, x50, x51, x52, x53, x54, x5, rfl, hC⟩
                obtain rfl := hC.l5 (hbe { on := 5, ground := .data } (by simp) rfl)
                obtain rfl := hC.l10 (hbe { on := 10, ground := .data } (by simp) rfl)
                have HC := Lib.hid hC
                clear hC hcl hbe
                go_simp
                exact ⟨x35, x36, x37, x38, x39, _, x41, x42, x43, x44, _, _, x47, x48, x49, x50, x51, x52, x53, x54, x5, rfl, ⟨HC.out.bar, HC.out.l0, HC.out.l1, HC.out.l2, HC.out.l3, HC.out.l4, HC.out.l5, HC.out.l6, HC.out.l7, HC.out.l8, HC.out.l9, HC.out.l10, fun _ => rfl, HC.out.l12, HC.out.l13, HC.out.l14, HC.out.l15, HC.out.l16, HC.out.l17, HC.out.l18, HC.out.n19, HC.out.l19, HC.out.l20⟩⟩
              case o12 =>
                rintro L a Wr hL hbe hcl ⟨x35, x36, x37, x38, x39, x40, x41, x42, x43, x44, x45, x46, x47, x48, x49, x50, x51, x52, x53, x54, x5, rfl, hC⟩
                have HC := Lib.hid hC
                clear hC hcl hbe
                go_simp
                exact ⟨x35, x36, x37, x38, x39, x40, x41, x42, x43, x44, x45, x46, _, x48, x49, x50, x51, x52, x53, x54, x5, rfl, ⟨HC.out.bar, HC.out.l0, HC.out.l1, HC.out.l2, HC.out.l3, HC.out.l4, HC.out.l5, HC.out.l6, HC.out.l7, HC.out.l8, HC.out.l9, HC.out.l10, HC.out.l11, fun _ => rfl, HC.out.l13, HC.out.l14, HC.out.l15, HC.out.l16, HC.out.l17, HC.out.l18, HC.out.n19, HC.out.l19, HC.out.l20⟩⟩
              case o13 =>
                rintro L a Wr hL hbe hcl ⟨x35, x36, x37, x38, x39, x40, x41, x42, x43, x44, x45, x46, x47, x48, x49, x50, x51, x52, x53, x54, x5, rfl, hC⟩
                have HC := Lib.hid hC
                clear hC hcl hbe
                go_simp
                exact ⟨x35, x36, x37, x38, x39, x40, x41, x42, x43, x44, x45, x46, x47, _, x49, x50, x51, x52, x53, x54, x5, rfl, ⟨HC.out.bar, HC.out.l0, HC.out.l1, HC.out.l2, HC.out.l3, HC.out.l4, HC.out.l5, HC.out.l6, HC.out.l7, HC.out.l8, HC.out.l9, HC.out.l10, HC.out.l11, HC.out.l12, fun _ => rfl, HC.out.l14, HC.out.l15, HC.out.l16, HC.out.l17, HC.out.l18, HC.out.n19, HC.out.l19, HC.out.l20⟩⟩
              case o14 =>
                rintro L a Wr hL hbe hcl ⟨x35, x36, x37, x38, x39, x40, x41, x42, x43, x44, x45, x46, x47, x48, x49, x50, x51, x52, x53, x54, x5, rfl, hC⟩
                obtain rfl := hC.l13 (hbe { on := 13, ground := .data } (by simp) rfl)
                have HC := Lib.hid hC
                clear hC hcl hbe
                go_simp
                exact ⟨x35, x36, x37, x38, x39, x40, x41, x42, x43, x44, x45, x46, x47, _, _, x50, x51, x52, x53, x54, x5, rfl, ⟨HC.out.bar, HC.out.l0, HC.out.l1, HC.out.l2, HC.out.l3, HC.out.l4, HC.out.l5, HC.out.l6, HC.out.l7, HC.out.l8, HC.out.l9, HC.out.l10, HC.out.l11, HC.out.l12, HC.out.l13, fun _ => rfl, HC.out.l15, HC.out.l16, HC.out.l17, HC.out.l18, HC.out.n19, HC.out.l19, HC.out.l20⟩⟩
              case o15 =>
                rintro L a Wr hL hbe hcl ⟨x35, x36, x37, x38, x39, x40, x41, x42, x43, x44, x45, x46, x47, x48, x49, x50, x51, x52, x53, x54, x5, rfl, hC⟩
                obtain rfl := hC.l12 (hbe { on := 12, ground := .data } (by simp) rfl)
                obtain rfl := hC.l14 (hbe { on := 14, ground := .data } (by simp) rfl)
                have HC := Lib.hid hC
                clear hC hcl hbe
                go_simp
                exact ⟨x35, x36, x37, x38, x39, x40, x41, x42, x43, x44, x45, x46, _, x48, _, _, x51, x52, x53, x54, x5, rfl, ⟨HC.out.bar, HC.out.l0, HC.out.l1, HC.out.l2, HC.out.l3, HC.out.l4, HC.out.l5, HC.out.l6, HC.out.l7, HC.out.l8, HC.out.l9, HC.out.l10, HC.out.l11, HC.out.l12, HC.out.l13, HC.out.l14, fun _ => rfl, HC.out.l16, HC.out.l17, HC.out.l18, HC.out.n19, HC.out.l19, HC.out.l20⟩⟩
              case o16 =>
                rintro L a Wr hL hbe hcl ⟨x35, x36, x37, x38, x39, x40, x41, x42, x43, x44, x45, x46, x47, x48, x49, x50, x51, x52, x53, x54, x5, rfl, hC⟩
                obtain rfl := hC.l15 (hbe { on := 15, ground := .data } (by simp) rfl)
                obtain ⟨p0, p1, p2⟩ := HRd.out Wr hC.bar
                have HC := Lib.hid hC
                clear hC hcl hbe
                go_simp
                exact ⟨x35, x36, x37, x38, x39, x40, x41, x42, x43, x44, x45, x46, x47, x48, x49, _, _, x52, x53, x54, x5, rfl, ⟨HC.out.bar, HC.out.l0, HC.out.l1, HC.out.l2, HC.out.l3, HC.out.l4, HC.out.l5, HC.out.l6, HC.out.l7, HC.out.l8, HC.out.l9, HC.out.l10, HC.out.l11, HC.out.l12, HC.out.l13, HC.out.l14, HC.out.l15, fun _ => rfl, HC.out.l17, HC.out.l18, HC.out.n19, HC.out.l19, HC.out.l20⟩⟩
              case o17 =>
                rintro L a Wr hL hbe hcl ⟨x35, x36, x37, x38, x39, x40, x41, x42, x43, x44, x45, x46, x47, x48, x49, x50, x51, x52, x53, x54, x5, rfl, hC⟩
                obtain rfl := hC.l11 (hbe { on := 11, ground := .data } (by simp) rfl)
                obtain rfl := hC.l16 (hbe { on := 16, ground := .data } (by simp) rfl)
                have HC := Lib.hid hC
                clear hC hcl hbe
                go_simp
                exact ⟨x35, x36, x37, x38, x39, x40, x41, x42, x43, x44, x45, _, x47, x48, x49, x50, _, _, x53, x54, x5, rfl, ⟨HC.out.bar, HC.out.l0, HC.out.l1, HC.out.l2, HC.out.l3, HC.out.l4, HC.out.l5, HC.out.l6, HC.out.l7, HC.out.l8, HC.out.l9, HC.out.l10, HC.out.l11, HC.out.l12, HC.out.l13, HC.out.l14, HC.out.l15, HC.out.l16, fun _ => rfl, HC.out.l18, HC.out.n19, HC.out.l19, HC.out.l20⟩⟩
              case o18 =>
                rintro L a Wr hL hbe hcl ⟨x35, x36, x37, x38, x39, x40, x41, x42, x43, x44, x45, x46, x47, x48, x49, x50, x51, x52, x53, x54, x5, rfl, hC⟩
                obtain rfl := hC.l17 (hbe { on := 17, ground := .data } (by simp) rfl)
                have HC := Lib.hid hC
                clear hC hcl hbe
                go_simp
                exact ⟨x35, x36, x37, x38, x39, x40, x41, x42, x43, x44, x45, x46, x47, x48, x49, x50, x51, _, _, x54, x5, rfl, ⟨HC.out.bar.alloc _, HC.out.l0, HC.out.l1, HC.out.l2, HC.out.l3, HC.out.l4, HC.out.l5, HC.out.l6, HC.out.l7, HC.out.l8, HC.out.l9, HC.out.l10, HC.out.l11, HC.out.l12, HC.out.l13, HC.out.l14, HC.out.l15, HC.out.l16, HC.out.l17, fun _ => ⟨Wr.heap.size, rfl, HC.out.bar.size, fun _ => World.alloc_heap_new _ _⟩, fun h => (HC.out.n19 h).alloc _, fun h => (HC.out.l19 h).alloc _, HC.out.l20⟩⟩
              case o19 =>
                rintro L a Wr hL hbe hcl ⟨x35, x36, x37, x38, x39, x40, x41, x42, x43, x44, x45, x46, x47, x48, x49, x50, x51, x52, x53, x54, x5, rfl, hC⟩
                have hE : L 20 = false := by rw [Bool.eq_false_iff]; intro h; have h2 := hcl 20 _ rfl h { on := 19, ground := .data } (by simp) rfl; rw [hL] at h2; cases h2
                have e5 := hC.l20
                rw [hE] at e5
                obtain rfl : x5 = u5 := e5
                obtain rfl := hC.l0 (hbe { on := 0, ground := .data } (by simp) rfl)
                obtain ⟨g, rfl, hg1, hg2⟩ := hC.l18 (hbe { on := 18, ground := .data } (by simp) rfl)
                have hgh := hg2 hL
                obtain ⟨i0, hi0, hz0, hz1, hz2⟩ := info_parts Try.info3y
                have hown := hC.n19 hL
                have hsz := hC.bar.size
                refine operIn_append_v (.tmp 35) (.tmp 53) 23 3 i0 (.int .i64 0) 8 rfl Try.underlying23y hi0 hz0 hz1 hz2 rfl (w.heap.size) _ k _ rfl hown (some ⟨g, 0, none⟩) 1 1 [.int .i64 (g0 + 2 * g1 + g2)] rfl (src_at hgh) (fun e => by cases e) (by simp [Value.oneCell']) (by omega) (by omega) (by omega) (fun v' w2 hap => ?_)
                obtain ⟨ha1, ha2, ha3⟩ := hap
                exact ⟨_, x36, x37, x38, x39, x40, x41, x42, x43, x44, x45, x46, x47, x48, x49, x50, x51, x52, _, v', _, rfl, ⟨hC.bar.trans (bar_of_grown (S := fun j => Value.ownBlock _ = some j) ha2 (fun k e => e)) (fun j _ e => e), hC.l0, hC.l1, hC.l2, hC.l3, hC.l4, hC.l5, hC.l6, hC.l7, hC.l8, hC.l9, hC.l10, hC.l11, hC.l12, hC.l13, hC.l14, hC.l15, hC.l16, hC.l17, fun _ => ⟨g, rfl, hg1, fun h => by cases h⟩, fun h => by (cases h), fun _ => ha1, by (show _ = if L 20 = true then _ else _; rw [hE]; rfl)⟩⟩
              case o20 =>
                rintro L a Wr hL hbe hcl ⟨x35, x36, x37, x38, x39, x40, x41, x42, x43, x44, x45, x46, x47, x48, x49, x50, x51, x52, x53, x54, x5, rfl, hC⟩
                have hAt : L 19 = true := hbe { on := 19, ground := .data } (by simp) rfl
                have HC := Lib.hid hC
                clear hC hcl hbe
                go_simp
                exact ⟨x35, x36, x37, x38, x39, x40, x41, x42, x43, x44, x45, x46, x47, x48, x49, x50, x51, x52, x53, x54, _, rfl, ⟨HC.out.bar, HC.out.l0, HC.out.l1, HC.out.l2, HC.out.l3, HC.out.l4, HC.out.l5, HC.out.l6, HC.out.l7, HC.out.l8, HC.out.l9, HC.out.l10, HC.out.l11, HC.out.l12, HC.out.l13, HC.out.l14, HC.out.l15, HC.out.l16, HC.out.l17, HC.out.l18, HC.out.n19, HC.out.l19, by simp [setB]⟩⟩
            case hd =>
              rintro L a Wr hL ⟨x35, x36, x37, x38, x39, x40, x41, x42, x43, x44, x45, x46, x47, x48, x49, x50, x51, x52, x53, x54, x5, rfl, hC⟩
              have h5 := hC.l20
              rw [if_pos (hL 20 (by decide))] at h5
              subst h5
              have hrow := hC.l19 (hL 19 (by decide))
              rw [HSt.out] at hrow
              have hbw : Below w.heap.size w Wr := HB.out.trans (hC.bar.below HB.out.size (fun j hj e => by have := (HLt.out j e).1; omega))
              have HRow := Lib.hid hrow
              have HBw := Lib.hid hbw
              clear hC hrow hbw hL
              go_wp2_with fail
              go_roundw
              all_goals have hq2 := HQ2.out
              case rel => exact ⟨k + 1, by rw [hq2], by omega, by omega, HRow.out, HBw.out⟩
              case measure => simp [intOf, hq2]; omega
          · obtain rfl : k = 7 := by omega
            have x7 := HX.out _ HB.out 7 (by omega)
            obtain ⟨c1, c2⟩ := HBd.out 7 (by omega)
            have hst : intV (ofC 7 (sof (nthC xs))) ++ [.int .i64 (4 * nthC xs 7)] = intV (ofC 8 (sof (nthC xs))) := ofC_snocL 7 (sof (nthC xs))
            generalize hg7 : nthC xs 7 = y7 at *
            have hlen8 : (ofC 8 (sof (nthC xs))).length = 8 := ofC_length _ _
            generalize intV (ofC 7 (sof (nthC xs))) = cs7 at *
            obtain ⟨i2, hi2', hz20, hz21, hz22⟩ := info_parts Try.info3y
            have hz := HB.out.size
            have HSt := Lib.hid hst
            clear hst
            go_wp2_with (at_builtin; go_loud (refine wpList_append_v rfl _ _ 23 3 i2 (.int .i64 0) 8 rfl Try.underlying23y hi2' hz20 hz21 hz22 rfl w.heap.size _ 7 _ rfl (HO.out.alloc _) (some ⟨wr.heap.size, 0, none⟩) 1 1 [.int .i64 (4 * y7)] rfl (src_one _ _ _) (fun e => nomatch e) (by simp [Value.oneCell']) (by omega) (by omega) (by simp; omega) ?_); intro v1 w1 hap; have HA := Lib.hid hap; clear hap)
            have ho := HA.out.1
            rw [HSt.out] at ho
            exact bodyPost_ret (v := .tuple #[v1, .int .i64 0]) (by simp [results, Try.f14, go_sem]) rfl ⟨v1, rfl, by rw [hlen8]; exact ho, (HB.out.alloc (by omega) _).grown HA.out.2.1 (by simp; omega) (fun k e => (HO.out.lt k e).1)⟩

end Go.Proofs.Ytdpnmddjhlkbjaa
