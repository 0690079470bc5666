/-
  Walks of the exact laws on PushDown (made by genlaw2.py).
-/
import Derived.Test.YtnhjofcmaodamaaPushS
import Derived.Test.YtnhjofcmaodamaaCB
import Derived.Deep.RegionHeld3
namespace Go.Proofs.Ytnhjofcmaodamaa
open Go.RowKit
set_option maxRecDepth 100000 in
set_option maxHeartbeats 2000000 in
theorem walkPushDown (rr0 : Int) (A0 : Option Addr) (c0 : Nat) (xs0 : List Int) (w : World) (hc0 : Cells w A0 xs0) (hn0 : xs0.length ≤ 9223372036854775807) :
    Calls Try.prog 4 #[.agg #[.int .i64 rr0, .slice A0 xs0.length c0]] w fun e w' => e = .returned (.bool true) ∧ Below w.heap.size w w' := by
  have B0 : Below w.heap.size w w := Below.refl _ _
  by_cases hl0 : xs0.length ≤ 1048576
  case neg =>
    have b0 : Below w.heap.size w (w.alloc (.cells #[.int .i64 rr0, .slice A0 xs0.length c0] 24)) := (Below.refl _ _).alloc (Nat.le_refl _) _
    go_enter Try.func4, Try.ntmps4
    go_wp2_with fail
    refine (szAbacus_any _ _ _ _ _ hn0).mono ?_
    rw [if_neg hl0]
    rintro e w1 ⟨rfl, b1⟩
    go_wp2_with fail
    go_ret
    exact ⟨rfl, Below.next b0 b1⟩
  have hlen := bound_PushDown rr0 xs0
  go_enter Try.func4, Try.ntmps4
  go_wp2_with fail
  obtain ⟨w1, hw1⟩ : ∃ w', w' = w.alloc (.cells #[.int .i64 rr0, .slice A0 xs0.length c0] 24) := ⟨_, rfl⟩
  have b1 : Below w.heap.size w w1 := by rw [hw1]; exact (Below.refl _ _).alloc (Nat.le_refl _) _
  have z1 : w.heap.size + 1 = w1.heap.size := by rw [hw1]; simp
  have B1 : Below w.heap.size w w1 := Below.next B0 b1
  have xaa_1 : Box2 w1 w.heap.size 24 (.int .i64 rr0) (.slice A0 xs0.length c0) := by rw [hw1]; exact Box2.new _ _ _ _
  rw [← hw1]
  clear hw1
  refine (szAbacus_any _ _ _ _ _ hn0).mono ?_
  rw [if_pos hl0]
  rintro e w2 ⟨rfl, b2⟩
  have z2 : w1.heap.size ≤ w2.heap.size := b2.size
  have B2 : Below w.heap.size w w2 := Below.next B1 b2
  have xaa_2 := xaa_1.next b2
  have paa := xaa_2.cell0
  have qaa := xaa_2.cell1
  go_wp2_with fail
  clear paa qaa
  refine (toAbacus_any _ _ _ _ _ hl0 (hc0.later B2)).mono ?_
  rintro e w3 ⟨At0, ct0, rfl, ot0_3, b3⟩
  have z3 : w2.heap.size ≤ w3.heap.size := b3.size
  have B3 : Below w.heap.size w w3 := Below.next B2 b3
  have xaa_3 := xaa_2.next b3
  have kt0 := ot0_3.block
  have paa := xaa_3.cell0
  have qaa := xaa_3.cell1
  go_wp2_with fail
  clear paa qaa
  refine (spec_PushDown _ _ _ _ _ hl0 ot0_3.cells).mono ?_
  rintro e w4 ⟨Aw0, cw0, rfl, ow0_4, b4⟩
  have z4 : w3.heap.size ≤ w4.heap.size := b4.size
  have B4 : Below w.heap.size w w4 := Below.next B3 b4
  have ot0_4 := ot0_3.below b4
  have xaa_4 := xaa_3.next b4
  have kw0 := ow0_4.block
  have paa := xaa_4.cell0
  have qaa := xaa_4.cell1
  have pbaa := (xaa_4.alloc (.cells #[.int .i64 (psR rr0 xs0), .slice Aw0 (psF rr0 xs0).length cw0] 26)).cell0
  have qbaa := (xaa_4.alloc (.cells #[.int .i64 (psR rr0 xs0), .slice Aw0 (psF rr0 xs0).length cw0] 26)).cell1
  go_wp2_with fail
  clear paa qaa pbaa qbaa
  obtain ⟨w5, hw5⟩ : ∃ w', w' = w4.alloc (.cells #[.int .i64 (psR rr0 xs0), .slice Aw0 (psF rr0 xs0).length cw0] 26) := ⟨_, rfl⟩
  have b5 : Below w4.heap.size w4 w5 := by rw [hw5]; exact (Below.refl _ _).alloc (Nat.le_refl _) _
  have z5 : w4.heap.size + 1 = w5.heap.size := by rw [hw5]; simp
  have B5 : Below w.heap.size w w5 := Below.next B4 b5
  have ow0_5 := ow0_4.below b5
  have xaa_5 := xaa_4.next b5
  have xw0_5 : Box2 w5 w4.heap.size 26 (.int .i64 (psR rr0 xs0)) (.slice Aw0 (psF rr0 xs0).length cw0) := by rw [hw5]; exact Box2.new _ _ _ _
  rw [← hw5]
  clear hw5
  refine (toAbacus_any _ _ _ _ _ hl0 (hc0.later B5)).mono ?_
  rintro e w6 ⟨Ax0, cx0, rfl, ox0_6, b6⟩
  have z6 : w5.heap.size ≤ w6.heap.size := b6.size
  have B6 : Below w.heap.size w w6 := Below.next B5 b6
  have ow0_6 := ow0_5.below b6
  have xaa_6 := xaa_5.next b6
  have xw0_6 := xw0_5.next b6
  have kx0 := ox0_6.block
  have paa := xaa_6.cell0
  have qaa := xaa_6.cell1
  have pw0 := xw0_6.cell0
  have qw0 := xw0_6.cell1
  have pbaa := (xaa_6.alloc (.cells #[.int .i64 rr0, .slice Ax0 xs0.length cx0] 26)).cell0
  have qbaa := (xaa_6.alloc (.cells #[.int .i64 rr0, .slice Ax0 xs0.length cx0] 26)).cell1
  have pbw0 := (xw0_6.alloc (.cells #[.int .i64 rr0, .slice Ax0 xs0.length cx0] 26)).cell0
  have qbw0 := (xw0_6.alloc (.cells #[.int .i64 rr0, .slice Ax0 xs0.length cx0] 26)).cell1
  go_wp2_with fail
  clear paa qaa pw0 qw0 pbaa qbaa pbw0 qbw0
  obtain ⟨w7, hw7⟩ : ∃ w', w' = w6.alloc (.cells #[.int .i64 rr0, .slice Ax0 xs0.length cx0] 26) := ⟨_, rfl⟩
  have b7 : Below w6.heap.size w6 w7 := by rw [hw7]; exact (Below.refl _ _).alloc (Nat.le_refl _) _
  have z7 : w6.heap.size + 1 = w7.heap.size := by rw [hw7]; simp
  have B7 : Below w.heap.size w w7 := Below.next B6 b7
  have ow0_7 := ow0_6.below b7
  have ox0_7 := ox0_6.below b7
  have xaa_7 := xaa_6.next b7
  have xw0_7 := xw0_6.next b7
  have xx0_7 : Box2 w7 w6.heap.size 26 (.int .i64 rr0) (.slice Ax0 xs0.length cx0) := by rw [hw7]; exact Box2.new _ _ _ _
  rw [← hw7]
  clear hw7
  refine (impl_PushDown _ _ _ _ _ hl0 ox0_7.cells).mono ?_
  rintro e w8 ⟨Ag0, cg0, rfl, og0_8, b8⟩
  have z8 : w7.heap.size ≤ w8.heap.size := b8.size
  have B8 : Below w.heap.size w w8 := Below.next B7 b8
  have ow0_8 := ow0_7.below b8
  have ox0_8 := ox0_7.below b8
  have xaa_8 := xaa_7.next b8
  have xw0_8 := xw0_7.next b8
  have xx0_8 := xx0_7.next b8
  have kg0 := og0_8.block
  have paa := xaa_8.cell0
  have qaa := xaa_8.cell1
  have pw0 := xw0_8.cell0
  have qw0 := xw0_8.cell1
  have px0 := xx0_8.cell0
  have qx0 := xx0_8.cell1
  have pbaa := (xaa_8.alloc (.cells #[.int .i64 (psR rr0 xs0), .slice Ag0 (psF rr0 xs0).length cg0] 26)).cell0
  have qbaa := (xaa_8.alloc (.cells #[.int .i64 (psR rr0 xs0), .slice Ag0 (psF rr0 xs0).length cg0] 26)).cell1
  have pbw0 := (xw0_8.alloc (.cells #[.int .i64 (psR rr0 xs0), .slice Ag0 (psF rr0 xs0).length cg0] 26)).cell0
  have qbw0 := (xw0_8.alloc (.cells #[.int .i64 (psR rr0 xs0), .slice Ag0 (psF rr0 xs0).length cg0] 26)).cell1
  have pbx0 := (xx0_8.alloc (.cells #[.int .i64 (psR rr0 xs0), .slice Ag0 (psF rr0 xs0).length cg0] 26)).cell0
  have qbx0 := (xx0_8.alloc (.cells #[.int .i64 (psR rr0 xs0), .slice Ag0 (psF rr0 xs0).length cg0] 26)).cell1
  go_wp2_with fail
  clear paa qaa pw0 qw0 px0 qx0 pbaa qbaa pbw0 qbw0 pbx0 qbx0
  obtain ⟨w9, hw9⟩ : ∃ w', w' = w8.alloc (.cells #[.int .i64 (psR rr0 xs0), .slice Ag0 (psF rr0 xs0).length cg0] 26) := ⟨_, rfl⟩
  have b9 : Below w8.heap.size w8 w9 := by rw [hw9]; exact (Below.refl _ _).alloc (Nat.le_refl _) _
  have z9 : w8.heap.size + 1 = w9.heap.size := by rw [hw9]; simp
  have B9 : Below w.heap.size w w9 := Below.next B8 b9
  have ow0_9 := ow0_8.below b9
  have ox0_9 := ox0_8.below b9
  have og0_9 := og0_8.below b9
  have xaa_9 := xaa_8.next b9
  have xw0_9 := xw0_8.next b9
  have xx0_9 := xx0_8.next b9
  have xg0_9 : Box2 w9 w8.heap.size 26 (.int .i64 (psR rr0 xs0)) (.slice Ag0 (psF rr0 xs0).length cg0) := by rw [hw9]; exact Box2.new _ _ _ _
  rw [← hw9]
  clear hw9
  refine (eqAbacus_t _ _ _ _ _ _ _ hlen og0_9.cells ow0_9.cells).mono ?_
  rintro e w10 ⟨rfl, b10⟩
  have z10 : w9.heap.size ≤ w10.heap.size := b10.size
  have B10 : Below w.heap.size w w10 := Below.next B9 b10
  have ow0_10 := ow0_9.below b10
  have ox0_10 := ox0_9.below b10
  have og0_10 := og0_9.below b10
  have xaa_10 := xaa_9.next b10
  have xw0_10 := xw0_9.next b10
  have xx0_10 := xx0_9.next b10
  have xg0_10 := xg0_9.next b10
  have xd1 : Box2 w10.drew w6.heap.size 26 (.int .i64 rr0) (.slice Ax0 xs0.length cx0) := xx0_10
  have xd2 : Box2 w10.drew w.heap.size 24 (.int .i64 rr0) (.slice A0 xs0.length c0) := xaa_10
  have od : Own w10.drew _ Ax0 cx0 xs0 := ox0_10
  have paa := xaa_10.cell0
  have qaa := xaa_10.cell1
  have pw0 := xw0_10.cell0
  have qw0 := xw0_10.cell1
  have px0 := xx0_10.cell0
  have qx0 := xx0_10.cell1
  have pg0 := xg0_10.cell0
  have qg0 := xg0_10.cell1
  go_wp2_with fail
  go_region_held3 (fun w' => w'.cell? ⟨w6.heap.size, 0, none⟩ = some (.int .i64 rr0) ∧ w'.cell? ⟨w6.heap.size, 1, none⟩ = some (.slice Ax0 xs0.length cx0) ∧ w'.cell? ⟨w.heap.size, 0, none⟩ = some (.int .i64 rr0) ∧ w'.cell? ⟨w.heap.size, 1, none⟩ = some (.slice A0 xs0.length c0)) (first | exact ⟨px0, qx0, paa, qaa⟩ | exact ⟨xe1.cell0, xe1.cell1, xe2.cell0, xe2.cell1⟩ | exact ⟨xf1.cell0, xf1.cell1, xf2.cell0, xf2.cell1⟩) (first | (go_at_call 26; refine (toAbacus_any _ _ _ _ _ hl0 (hc0.later (below_drewN B10 1))).mono ?_; rintro e w11 ⟨Ay, cy, rfl, oy, b11⟩; have xe1 := xd1.next b11; have xe2 := xd2.next b11; have oe := od.below b11) | (go_at_call 28; refine (eqAbacus_t _ _ _ _ _ _ _ hl0 oe.cells oy.cells).mono ?_; rintro e w12 ⟨rfl, b12⟩; have xf1 := xe1.next b12; have xf2 := xe2.next b12))
  clear paa qaa pw0 qw0 px0 qx0 pg0 qg0
  have bd : Below w10.heap.size w10 w10.drew := below_drew' w10 1
  have z11 : w10.heap.size ≤ w11.heap.size := b11.size
  have z12 : w11.heap.size ≤ w12.heap.size := b12.size
  have B11 : Below w.heap.size w w11 := Below.next (below_drewN B10 1) b11
  have B12 : Below w.heap.size w w12 := Below.next B11 b12
  have ow0_12 := ((ow0_10.below bd).below b11).below b12
  have ox0_12 := ((ox0_10.below bd).below b11).below b12
  have og0_12 := ((og0_10.below bd).below b11).below b12
  have xaa_12 := ((xaa_10.next bd).next b11).next b12
  have xw0_12 := ((xw0_10.next bd).next b11).next b12
  have xx0_12 := ((xx0_10.next bd).next b11).next b12
  have xg0_12 := ((xg0_10.next bd).next b11).next b12
  have paa := xaa_12.cell0
  have qaa := xaa_12.cell1
  have pw0 := xw0_12.cell0
  have qw0 := xw0_12.cell1
  have px0 := xx0_12.cell0
  have qx0 := xx0_12.cell1
  have pg0 := xg0_12.cell0
  have qg0 := xg0_12.cell1
  go_wp2_with fail
  clear paa qaa pw0 qw0 px0 qx0 pg0 qg0
  refine (markAbacus_any _ _ _ _ _ _ _ _ hl0 (by omega) (by omega) ox0_12 kx0).mono ?_
  rintro e w13 ⟨rfl, om13, on13⟩
  have z13 : w12.heap.size ≤ w13.heap.size := on13.size
  have B13 : Below w.heap.size w w13 := Below.only B12 on13 (by omega) B12.size
  have ow0_13 := ow0_12.only kw0 on13 (by omega)
  have og0_13 := og0_12.only kg0 on13 (by omega)
  have xaa_13 := xaa_12.only on13.block (by omega)
  have xw0_13 := xw0_12.only on13.block (by omega)
  have xx0_13 := xx0_12.only on13.block (by omega)
  have xg0_13 := xg0_12.only on13.block (by omega)
  have paa := xaa_13.cell0
  have qaa := xaa_13.cell1
  have pw0 := xw0_13.cell0
  have qw0 := xw0_13.cell1
  have px0 := xx0_13.cell0
  have qx0 := xx0_13.cell1
  have pg0 := xg0_13.cell0
  have qg0 := xg0_13.cell1
  go_wp2_with fail
  clear paa qaa pw0 qw0 px0 qx0 pg0 qg0
  refine (eqAbacus_t _ _ _ _ _ _ _ hlen og0_13.cells ow0_13.cells).mono ?_
  rintro e w14 ⟨rfl, b14⟩
  have z14 : w13.heap.size ≤ w14.heap.size := b14.size
  have B14 : Below w.heap.size w w14 := Below.next B13 b14
  have ow0_14 := ow0_13.below b14
  have ox0_14 := om13.below b14
  have og0_14 := og0_13.below b14
  have xaa_14 := xaa_13.next b14
  have xw0_14 := xw0_13.next b14
  have xx0_14 := xx0_13.next b14
  have xg0_14 := xg0_13.next b14
  have paa := xaa_14.cell0
  have qaa := xaa_14.cell1
  have pw0 := xw0_14.cell0
  have qw0 := xw0_14.cell1
  have px0 := xx0_14.cell0
  have qx0 := xx0_14.cell1
  have pg0 := xg0_14.cell0
  have qg0 := xg0_14.cell1
  go_wp2_with fail
  clear paa qaa pw0 qw0 px0 qx0 pg0 qg0
  refine (markAbacus_any _ _ _ _ _ _ _ _ hlen (by omega) (by omega) og0_14 kg0).mono ?_
  rintro e w15 ⟨rfl, om15, on15⟩
  have z15 : w14.heap.size ≤ w15.heap.size := on15.size
  have B15 : Below w.heap.size w w15 := Below.only B14 on15 (by omega) B14.size
  have ow0_15 := ow0_14.only kw0 on15 (by omega)
  have xaa_15 := xaa_14.only on15.block (by omega)
  have xw0_15 := xw0_14.only on15.block (by omega)
  have xx0_15 := xx0_14.only on15.block (by omega)
  have xg0_15 := xg0_14.only on15.block (by omega)
  have paa := xaa_15.cell0
  have qaa := xaa_15.cell1
  have pw0 := xw0_15.cell0
  have qw0 := xw0_15.cell1
  have px0 := xx0_15.cell0
  have qx0 := xx0_15.cell1
  have pg0 := xg0_15.cell0
  have qg0 := xg0_15.cell1
  go_wp2_with fail
  clear paa qaa pw0 qw0 px0 qx0 pg0 qg0
  refine (heldAbacus_t _ _ _ _ _ _ hlen (by omega) (by omega) om15.cells).mono ?_
  rintro e w16 ⟨rfl, b16⟩
  have z16 : w15.heap.size ≤ w16.heap.size := b16.size
  have B16 : Below w.heap.size w w16 := Below.next B15 b16
  have ow0_16 := ow0_15.below b16
  have og0_16 := om15.below b16
  have xaa_16 := xaa_15.next b16
  have xw0_16 := xw0_15.next b16
  have xx0_16 := xx0_15.next b16
  have xg0_16 := xg0_15.next b16
  have paa := xaa_16.cell0
  have qaa := xaa_16.cell1
  have pw0 := xw0_16.cell0
  have qw0 := xw0_16.cell1
  have px0 := xx0_16.cell0
  have qx0 := xx0_16.cell1
  have pg0 := xg0_16.cell0
  have qg0 := xg0_16.cell1
  go_wp2_with fail
  clear paa qaa pw0 qw0 px0 qx0 pg0 qg0
  refine (toAbacus_any _ _ _ _ _ hl0 (hc0.later B16)).mono ?_
  rintro e w17 ⟨Au0, cu0, rfl, ou0_17, b17⟩
  have z17 : w16.heap.size ≤ w17.heap.size := b17.size
  have B17 : Below w.heap.size w w17 := Below.next B16 b17
  have ow0_17 := ow0_16.below b17
  have og0_17 := og0_16.below b17
  have xaa_17 := xaa_16.next b17
  have xw0_17 := xw0_16.next b17
  have xx0_17 := xx0_16.next b17
  have xg0_17 := xg0_16.next b17
  have ku0 := ou0_17.block
  have paa := xaa_17.cell0
  have qaa := xaa_17.cell1
  have pw0 := xw0_17.cell0
  have qw0 := xw0_17.cell1
  have px0 := xx0_17.cell0
  have qx0 := xx0_17.cell1
  have pg0 := xg0_17.cell0
  have qg0 := xg0_17.cell1
  go_wp2_with fail
  clear paa qaa pw0 qw0 px0 qx0 pg0 qg0
  refine (impl_PushDown _ _ _ _ _ hl0 ou0_17.cells).mono ?_
  rintro e w18 ⟨Ah0, ch0, rfl, oh0_18, b18⟩
  have z18 : w17.heap.size ≤ w18.heap.size := b18.size
  have B18 : Below w.heap.size w w18 := Below.next B17 b18
  have ow0_18 := ow0_17.below b18
  have og0_18 := og0_17.below b18
  have ou0_18 := ou0_17.below b18
  have xaa_18 := xaa_17.next b18
  have xw0_18 := xw0_17.next b18
  have xx0_18 := xx0_17.next b18
  have xg0_18 := xg0_17.next b18
  have kh0 := oh0_18.block
  have paa := xaa_18.cell0
  have qaa := xaa_18.cell1
  have pw0 := xw0_18.cell0
  have qw0 := xw0_18.cell1
  have px0 := xx0_18.cell0
  have qx0 := xx0_18.cell1
  have pg0 := xg0_18.cell0
  have qg0 := xg0_18.cell1
  have pbaa := (xaa_18.alloc (.cells #[.int .i64 (psR rr0 xs0), .slice Ah0 (psF rr0 xs0).length ch0] 26)).cell0
  have qbaa := (xaa_18.alloc (.cells #[.int .i64 (psR rr0 xs0), .slice Ah0 (psF rr0 xs0).length ch0] 26)).cell1
  have pbw0 := (xw0_18.alloc (.cells #[.int .i64 (psR rr0 xs0), .slice Ah0 (psF rr0 xs0).length ch0] 26)).cell0
  have qbw0 := (xw0_18.alloc (.cells #[.int .i64 (psR rr0 xs0), .slice Ah0 (psF rr0 xs0).length ch0] 26)).cell1
  have pbx0 := (xx0_18.alloc (.cells #[.int .i64 (psR rr0 xs0), .slice Ah0 (psF rr0 xs0).length ch0] 26)).cell0
  have qbx0 := (xx0_18.alloc (.cells #[.int .i64 (psR rr0 xs0), .slice Ah0 (psF rr0 xs0).length ch0] 26)).cell1
  have pbg0 := (xg0_18.alloc (.cells #[.int .i64 (psR rr0 xs0), .slice Ah0 (psF rr0 xs0).length ch0] 26)).cell0
  have qbg0 := (xg0_18.alloc (.cells #[.int .i64 (psR rr0 xs0), .slice Ah0 (psF rr0 xs0).length ch0] 26)).cell1
  go_wp2_with fail
  clear paa qaa pw0 qw0 px0 qx0 pg0 qg0 pbaa qbaa pbw0 qbw0 pbx0 qbx0 pbg0 qbg0
  obtain ⟨w19, hw19⟩ : ∃ w', w' = w18.alloc (.cells #[.int .i64 (psR rr0 xs0), .slice Ah0 (psF rr0 xs0).length ch0] 26) := ⟨_, rfl⟩
  have b19 : Below w18.heap.size w18 w19 := by rw [hw19]; exact (Below.refl _ _).alloc (Nat.le_refl _) _
  have z19 : w18.heap.size + 1 = w19.heap.size := by rw [hw19]; simp
  have B19 : Below w.heap.size w w19 := Below.next B18 b19
  have ow0_19 := ow0_18.below b19
  have og0_19 := og0_18.below b19
  have oh0_19 := oh0_18.below b19
  have xaa_19 := xaa_18.next b19
  have xw0_19 := xw0_18.next b19
  have xx0_19 := xx0_18.next b19
  have xg0_19 := xg0_18.next b19
  have xh0_19 : Box2 w19 w18.heap.size 26 (.int .i64 (psR rr0 xs0)) (.slice Ah0 (psF rr0 xs0).length ch0) := by rw [hw19]; exact Box2.new _ _ _ _
  rw [← hw19]
  clear hw19
  refine (eqAbacus_t _ _ _ _ _ _ _ hlen oh0_19.cells ow0_19.cells).mono ?_
  rintro e w20 ⟨rfl, b20⟩
  have z20 : w19.heap.size ≤ w20.heap.size := b20.size
  have B20 : Below w.heap.size w w20 := Below.next B19 b20
  have ow0_20 := ow0_19.below b20
  have og0_20 := og0_19.below b20
  have oh0_20 := oh0_19.below b20
  have xaa_20 := xaa_19.next b20
  have xw0_20 := xw0_19.next b20
  have xx0_20 := xx0_19.next b20
  have xg0_20 := xg0_19.next b20
  have xh0_20 := xh0_19.next b20
  have paa := xaa_20.cell0
  have qaa := xaa_20.cell1
  have pw0 := xw0_20.cell0
  have qw0 := xw0_20.cell1
  have px0 := xx0_20.cell0
  have qx0 := xx0_20.cell1
  have pg0 := xg0_20.cell0
  have qg0 := xg0_20.cell1
  have ph0 := xh0_20.cell0
  have qh0 := xh0_20.cell1
  go_wp2_with fail
  clear paa qaa pw0 qw0 px0 qx0 pg0 qg0 ph0 qh0
  refine (heldAbacus_t _ _ _ _ _ _ hlen (by omega) (by omega) og0_20.cells).mono ?_
  rintro e w21 ⟨rfl, b21⟩
  have z21 : w20.heap.size ≤ w21.heap.size := b21.size
  have B21 : Below w.heap.size w w21 := Below.next B20 b21
  have ow0_21 := ow0_20.below b21
  have og0_21 := og0_20.below b21
  have oh0_21 := oh0_20.below b21
  have xaa_21 := xaa_20.next b21
  have xw0_21 := xw0_20.next b21
  have xx0_21 := xx0_20.next b21
  have xg0_21 := xg0_20.next b21
  have xh0_21 := xh0_20.next b21
  have paa := xaa_21.cell0
  have qaa := xaa_21.cell1
  have pw0 := xw0_21.cell0
  have qw0 := xw0_21.cell1
  have px0 := xx0_21.cell0
  have qx0 := xx0_21.cell1
  have pg0 := xg0_21.cell0
  have qg0 := xg0_21.cell1
  have ph0 := xh0_21.cell0
  have qh0 := xh0_21.cell1
  go_wp2_with fail
  go_ret
  exact ⟨rfl, B21⟩
end Go.Proofs.Ytnhjofcmaodamaa
