/-
  Walks of the exact laws on FromRunners (made by genlaw2.py).
-/
import Derived.Test.YtnhjofcmaodamaaFrnS
import Derived.Test.YtnhjofcmaodamaaArgSS
import Derived.Test.YtnhjofcmaodamaaCB
import Derived.Deep.RegionHeld3
namespace Go.Proofs.Ytnhjofcmaodamaa
open Go.RowKit
set_option maxRecDepth 100000 in
set_option maxHeartbeats 2000000 in
theorem walkFromRunners (A0 : Option Addr) (c0 : Nat) (rs0 : List (List Int)) (w : World) (hc0 : Cells2 w A0 rs0) (hn0 : rs0.length ≤ 9223372036854775807 ∧ ∀ j, j < rs0.length → (rs0.getD j []).length ≤ 9223372036854775807) :
    Calls Try.prog 9 #[.slice A0 rs0.length c0] w fun e w' => e = .returned (.bool true) ∧ Below w.heap.size w w' := by
  have B0 : Below w.heap.size w w := Below.refl _ _
  by_cases hbhl0 : rs0.length + tot rs0 ≤ 1048576
  case neg =>
    go_enter Try.func9, Try.ntmps9
    go_wp2_with fail
    refine (szIntSS_any _ _ _ _ hn0.1 hn0.2 hc0).mono ?_
    rw [if_neg hbhl0]
    rintro e w1 ⟨rfl, rfl⟩
    go_wp2_with fail
    go_ret
    exact ⟨rfl, Below.refl _ _⟩
  have hl0 : rs0.length ≤ 1048576 ∧ tot rs0 ≤ 1048576 := by omega
  have hlen := bound_FromRunners rs0
  go_enter Try.func9, Try.ntmps9
  go_wp2_with fail
  refine (szIntSS_any _ _ _ _ hn0.1 hn0.2 hc0).mono ?_
  rw [if_pos hbhl0]
  rintro e w1 ⟨rfl, rfl⟩
  go_wp2_with fail
  refine (toIntSS_any _ _ _ _ hl0 (hc0.later B0)).mono ?_
  rintro e w1 ⟨At0, ct0, rfl, ot0_1, b1⟩
  have z1 : w.heap.size ≤ w1.heap.size := b1.size
  have B1 : Below w.heap.size w w1 := Below.next B0 b1
  go_wp2_with fail
  refine (spec_FromRunners _ _ _ _ hl0 ot0_1.cells).mono ?_
  rintro e w2 ⟨Aw0, cw0, rfl, ow0_2, b2⟩
  have z2 : w1.heap.size ≤ w2.heap.size := b2.size
  have B2 : Below w.heap.size w w2 := Below.next B1 b2
  have ot0_2 := ot0_1.below b2
  have kw0 := ow0_2.block
  go_wp2_with fail
  obtain ⟨w3, hw3⟩ : ∃ w', w' = w2.alloc (.cells #[.int .i64 (frT rs0), .slice Aw0 (frF rs0).length cw0] 26) := ⟨_, rfl⟩
  have b3 : Below w2.heap.size w2 w3 := by rw [hw3]; exact (Below.refl _ _).alloc (Nat.le_refl _) _
  have z3 : w2.heap.size + 1 = w3.heap.size := by rw [hw3]; simp
  have B3 : Below w.heap.size w w3 := Below.next B2 b3
  have ow0_3 := ow0_2.below b3
  have xw0_3 : Box2 w3 w2.heap.size 26 (.int .i64 (frT rs0)) (.slice Aw0 (frF rs0).length cw0) := by rw [hw3]; exact Box2.new _ _ _ _
  rw [← hw3]
  clear hw3
  refine (toIntSS_any _ _ _ _ hl0 (hc0.later B3)).mono ?_
  rintro e w4 ⟨Ax0, cx0, rfl, ox0_4, b4⟩
  have z4 : w3.heap.size ≤ w4.heap.size := b4.size
  have B4 : Below w.heap.size w w4 := Below.next B3 b4
  have ow0_4 := ow0_3.below b4
  have xw0_4 := xw0_3.next b4
  have pw0 := xw0_4.cell0
  have qw0 := xw0_4.cell1
  go_wp2_with fail
  clear pw0 qw0
  refine (impl_FromRunners _ _ _ _ hl0 ox0_4.cells).mono ?_
  rintro e w5 ⟨Ag0, cg0, rfl, og0_5, b5⟩
  have z5 : w4.heap.size ≤ w5.heap.size := b5.size
  have B5 : Below w.heap.size w w5 := Below.next B4 b5
  have ow0_5 := ow0_4.below b5
  have ox0_5 := ox0_4.below b5
  have xw0_5 := xw0_4.next b5
  have kg0 := og0_5.block
  have pw0 := xw0_5.cell0
  have qw0 := xw0_5.cell1
  have pbw0 := (xw0_5.alloc (.cells #[.int .i64 (frT rs0), .slice Ag0 (frF rs0).length cg0] 26)).cell0
  have qbw0 := (xw0_5.alloc (.cells #[.int .i64 (frT rs0), .slice Ag0 (frF rs0).length cg0] 26)).cell1
  go_wp2_with fail
  clear pw0 qw0 pbw0 qbw0
  obtain ⟨w6, hw6⟩ : ∃ w', w' = w5.alloc (.cells #[.int .i64 (frT rs0), .slice Ag0 (frF rs0).length cg0] 26) := ⟨_, rfl⟩
  have b6 : Below w5.heap.size w5 w6 := by rw [hw6]; exact (Below.refl _ _).alloc (Nat.le_refl _) _
  have z6 : w5.heap.size + 1 = w6.heap.size := by rw [hw6]; simp
  have B6 : Below w.heap.size w w6 := Below.next B5 b6
  have ow0_6 := ow0_5.below b6
  have ox0_6 := ox0_5.below b6
  have og0_6 := og0_5.below b6
  have xw0_6 := xw0_5.next b6
  have xg0_6 : Box2 w6 w5.heap.size 26 (.int .i64 (frT rs0)) (.slice Ag0 (frF rs0).length cg0) := by rw [hw6]; exact Box2.new _ _ _ _
  rw [← hw6]
  clear hw6
  refine (eqAbacus_t _ _ _ _ _ _ _ hlen og0_6.cells ow0_6.cells).mono ?_
  rintro e w7 ⟨rfl, b7⟩
  have z7 : w6.heap.size ≤ w7.heap.size := b7.size
  have B7 : Below w.heap.size w w7 := Below.next B6 b7
  have ow0_7 := ow0_6.below b7
  have ox0_7 := ox0_6.below b7
  have og0_7 := og0_6.below b7
  have xw0_7 := xw0_6.next b7
  have xg0_7 := xg0_6.next b7
  have pw0 := xw0_7.cell0
  have qw0 := xw0_7.cell1
  have pg0 := xg0_7.cell0
  have qg0 := xg0_7.cell1
  go_wp2_with fail
  clear pw0 qw0 pg0 qg0
  refine (toIntSS_any _ _ _ _ hl0 (hc0.later B7)).mono ?_
  rintro e w8 ⟨Ay0, cy0, rfl, oy0_8, b8⟩
  have z8 : w7.heap.size ≤ w8.heap.size := b8.size
  have B8 : Below w.heap.size w w8 := Below.next B7 b8
  have ow0_8 := ow0_7.below b8
  have ox0_8 := ox0_7.below b8
  have og0_8 := og0_7.below b8
  have xw0_8 := xw0_7.next b8
  have xg0_8 := xg0_7.next b8
  have pw0 := xw0_8.cell0
  have qw0 := xw0_8.cell1
  have pg0 := xg0_8.cell0
  have qg0 := xg0_8.cell1
  go_wp2_with fail
  clear pw0 qw0 pg0 qg0
  refine (eqIntSS_t _ _ _ _ _ _ hl0 ox0_8.cells oy0_8.cells).mono ?_
  rintro e w9 ⟨rfl, b9⟩
  have z9 : w8.heap.size ≤ w9.heap.size := b9.size
  have B9 : Below w.heap.size w w9 := Below.next B8 b9
  have ow0_9 := ow0_8.below b9
  have ox0_9 := ox0_8.below b9
  have og0_9 := og0_8.below b9
  have oy0_9 := oy0_8.below b9
  have xw0_9 := xw0_8.next b9
  have xg0_9 := xg0_8.next b9
  have pw0 := xw0_9.cell0
  have qw0 := xw0_9.cell1
  have pg0 := xg0_9.cell0
  have qg0 := xg0_9.cell1
  go_wp2_with fail
  clear pw0 qw0 pg0 qg0
  refine (markIntSS_any _ _ _ _ _ _ _ hl0 (by omega) (by omega) ox0_9).mono ?_
  rintro e w10 ⟨rfl, om10, on10⟩
  have z10 : w9.heap.size ≤ w10.heap.size := on10.size
  have B10 : Below w.heap.size w w10 := Below.only B9 on10 (by omega) B9.size
  have ow0_10 := ow0_9.only kw0 on10 (by omega)
  have og0_10 := og0_9.only kg0 on10 (by omega)
  have xw0_10 := xw0_9.only on10.block (by omega)
  have xg0_10 := xg0_9.only on10.block (by omega)
  have pw0 := xw0_10.cell0
  have qw0 := xw0_10.cell1
  have pg0 := xg0_10.cell0
  have qg0 := xg0_10.cell1
  go_wp2_with fail
  clear pw0 qw0 pg0 qg0
  refine (eqAbacus_t _ _ _ _ _ _ _ hlen og0_10.cells ow0_10.cells).mono ?_
  rintro e w11 ⟨rfl, b11⟩
  have z11 : w10.heap.size ≤ w11.heap.size := b11.size
  have B11 : Below w.heap.size w w11 := Below.next B10 b11
  have ow0_11 := ow0_10.below b11
  have ox0_11 := om10.below b11
  have og0_11 := og0_10.below b11
  have xw0_11 := xw0_10.next b11
  have xg0_11 := xg0_10.next b11
  have pw0 := xw0_11.cell0
  have qw0 := xw0_11.cell1
  have pg0 := xg0_11.cell0
  have qg0 := xg0_11.cell1
  go_wp2_with fail
  clear pw0 qw0 pg0 qg0
  refine (markAbacus_any _ _ _ _ _ _ _ _ hlen (by omega) (by omega) og0_11 kg0).mono ?_
  rintro e w12 ⟨rfl, om12, on12⟩
  have z12 : w11.heap.size ≤ w12.heap.size := on12.size
  have B12 : Below w.heap.size w w12 := Below.only B11 on12 (by omega) B11.size
  have ow0_12 := ow0_11.only kw0 on12 (by omega)
  have xw0_12 := xw0_11.only on12.block (by omega)
  have xg0_12 := xg0_11.only on12.block (by omega)
  have pw0 := xw0_12.cell0
  have qw0 := xw0_12.cell1
  have pg0 := xg0_12.cell0
  have qg0 := xg0_12.cell1
  go_wp2_with fail
  clear pw0 qw0 pg0 qg0
  refine (heldAbacus_t _ _ _ _ _ _ hlen (by omega) (by omega) om12.cells).mono ?_
  rintro e w13 ⟨rfl, b13⟩
  have z13 : w12.heap.size ≤ w13.heap.size := b13.size
  have B13 : Below w.heap.size w w13 := Below.next B12 b13
  have ow0_13 := ow0_12.below b13
  have og0_13 := om12.below b13
  have xw0_13 := xw0_12.next b13
  have xg0_13 := xg0_12.next b13
  have pw0 := xw0_13.cell0
  have qw0 := xw0_13.cell1
  have pg0 := xg0_13.cell0
  have qg0 := xg0_13.cell1
  go_wp2_with fail
  clear pw0 qw0 pg0 qg0
  refine (toIntSS_any _ _ _ _ hl0 (hc0.later B13)).mono ?_
  rintro e w14 ⟨Au0, cu0, rfl, ou0_14, b14⟩
  have z14 : w13.heap.size ≤ w14.heap.size := b14.size
  have B14 : Below w.heap.size w w14 := Below.next B13 b14
  have ow0_14 := ow0_13.below b14
  have og0_14 := og0_13.below b14
  have xw0_14 := xw0_13.next b14
  have xg0_14 := xg0_13.next b14
  have pw0 := xw0_14.cell0
  have qw0 := xw0_14.cell1
  have pg0 := xg0_14.cell0
  have qg0 := xg0_14.cell1
  go_wp2_with fail
  clear pw0 qw0 pg0 qg0
  refine (impl_FromRunners _ _ _ _ hl0 ou0_14.cells).mono ?_
  rintro e w15 ⟨Ah0, ch0, rfl, oh0_15, b15⟩
  have z15 : w14.heap.size ≤ w15.heap.size := b15.size
  have B15 : Below w.heap.size w w15 := Below.next B14 b15
  have ow0_15 := ow0_14.below b15
  have og0_15 := og0_14.below b15
  have ou0_15 := ou0_14.below b15
  have xw0_15 := xw0_14.next b15
  have xg0_15 := xg0_14.next b15
  have kh0 := oh0_15.block
  have pw0 := xw0_15.cell0
  have qw0 := xw0_15.cell1
  have pg0 := xg0_15.cell0
  have qg0 := xg0_15.cell1
  have pbw0 := (xw0_15.alloc (.cells #[.int .i64 (frT rs0), .slice Ah0 (frF rs0).length ch0] 26)).cell0
  have qbw0 := (xw0_15.alloc (.cells #[.int .i64 (frT rs0), .slice Ah0 (frF rs0).length ch0] 26)).cell1
  have pbg0 := (xg0_15.alloc (.cells #[.int .i64 (frT rs0), .slice Ah0 (frF rs0).length ch0] 26)).cell0
  have qbg0 := (xg0_15.alloc (.cells #[.int .i64 (frT rs0), .slice Ah0 (frF rs0).length ch0] 26)).cell1
  go_wp2_with fail
  clear pw0 qw0 pg0 qg0 pbw0 qbw0 pbg0 qbg0
  obtain ⟨w16, hw16⟩ : ∃ w', w' = w15.alloc (.cells #[.int .i64 (frT rs0), .slice Ah0 (frF rs0).length ch0] 26) := ⟨_, rfl⟩
  have b16 : Below w15.heap.size w15 w16 := by rw [hw16]; exact (Below.refl _ _).alloc (Nat.le_refl _) _
  have z16 : w15.heap.size + 1 = w16.heap.size := by rw [hw16]; simp
  have B16 : Below w.heap.size w w16 := Below.next B15 b16
  have ow0_16 := ow0_15.below b16
  have og0_16 := og0_15.below b16
  have oh0_16 := oh0_15.below b16
  have xw0_16 := xw0_15.next b16
  have xg0_16 := xg0_15.next b16
  have xh0_16 : Box2 w16 w15.heap.size 26 (.int .i64 (frT rs0)) (.slice Ah0 (frF rs0).length ch0) := by rw [hw16]; exact Box2.new _ _ _ _
  rw [← hw16]
  clear hw16
  refine (eqAbacus_t _ _ _ _ _ _ _ hlen oh0_16.cells ow0_16.cells).mono ?_
  rintro e w17 ⟨rfl, b17⟩
  have z17 : w16.heap.size ≤ w17.heap.size := b17.size
  have B17 : Below w.heap.size w w17 := Below.next B16 b17
  have ow0_17 := ow0_16.below b17
  have og0_17 := og0_16.below b17
  have oh0_17 := oh0_16.below b17
  have xw0_17 := xw0_16.next b17
  have xg0_17 := xg0_16.next b17
  have xh0_17 := xh0_16.next b17
  have pw0 := xw0_17.cell0
  have qw0 := xw0_17.cell1
  have pg0 := xg0_17.cell0
  have qg0 := xg0_17.cell1
  have ph0 := xh0_17.cell0
  have qh0 := xh0_17.cell1
  go_wp2_with fail
  clear pw0 qw0 pg0 qg0 ph0 qh0
  refine (heldAbacus_t _ _ _ _ _ _ hlen (by omega) (by omega) og0_17.cells).mono ?_
  rintro e w18 ⟨rfl, b18⟩
  have z18 : w17.heap.size ≤ w18.heap.size := b18.size
  have B18 : Below w.heap.size w w18 := Below.next B17 b18
  have ow0_18 := ow0_17.below b18
  have og0_18 := og0_17.below b18
  have oh0_18 := oh0_17.below b18
  have xw0_18 := xw0_17.next b18
  have xg0_18 := xg0_17.next b18
  have xh0_18 := xh0_17.next b18
  have pw0 := xw0_18.cell0
  have qw0 := xw0_18.cell1
  have pg0 := xg0_18.cell0
  have qg0 := xg0_18.cell1
  have ph0 := xh0_18.cell0
  have qh0 := xh0_18.cell1
  go_wp2_with fail
  go_ret
  exact ⟨rfl, B18⟩
end Go.Proofs.Ytnhjofcmaodamaa
