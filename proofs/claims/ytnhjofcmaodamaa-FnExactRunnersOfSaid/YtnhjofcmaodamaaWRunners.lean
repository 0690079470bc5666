/-
  Walks of the exact laws on RunnersOf (made by genlaw2.py).
-/
import Derived.Test.YtnhjofcmaodamaaRnO
import Derived.Test.YtnhjofcmaodamaaAba2
import Derived.Deep.RegionHeld3
namespace Go.Proofs.Ytnhjofcmaodamaa
open Go.RowKit
set_option maxRecDepth 100000 in
set_option maxHeartbeats 2000000 in
theorem walkRunnersOf (rr0 : Int) (A0 : Option Addr) (c0 : Nat) (xs0 : List Int) (w : World) (hc0 : Cells w A0 xs0) (hn0 : xs0.length ≤ 9223372036854775807) :
    Calls Try.prog 8 #[.agg #[.int .i64 rr0, .slice A0 xs0.length c0]] w fun e w' => e = .returned (.bool true) ∧ Below w.heap.size w w' := by
  have B0 : Below w.heap.size w w := Below.refl _ _
  by_cases hl0 : xs0.length ≤ 1048576
  case neg =>
    have b0 : Below w.heap.size w (w.alloc (.cells #[.int .i64 rr0, .slice A0 xs0.length c0] 24)) := (Below.refl _ _).alloc (Nat.le_refl _) _
    go_enter Try.func8, Try.ntmps8
    go_wp2_with fail
    refine (szAbacus_any _ _ _ _ _ hn0).mono ?_
    rw [if_neg hl0]
    rintro e w1 ⟨rfl, b1⟩
    go_wp2_with fail
    go_ret
    exact ⟨rfl, Below.next b0 b1⟩
  have hlen := bound_RunnersOf rr0 xs0
  go_enter Try.func8, Try.ntmps8
  go_wp2_with fail
  obtain ⟨w1, hw1⟩ : ∃ w', w' = w.alloc (.cells #[.int .i64 rr0, .slice A0 xs0.length c0] 24) := ⟨_, rfl⟩
  have b1 : Below w.heap.size w w1 := by rw [hw1]; exact (Below.refl _ _).alloc (Nat.le_refl _) _
  have z1 : w.heap.size + 1 = w1.heap.size := by rw [hw1]; simp
  have B1 : Below w.heap.size w w1 := Below.next B0 b1
  have xaa_1 : Box2 w1 w.heap.size 24 (.int .i64 rr0) (.slice A0 xs0.length c0) := by rw [hw1]; exact Box2.new _ _ _ _
  rw [← hw1]
  clear hw1
  refine (szAbacus_any _ _ _ _ _ hn0).mono ?_
  rw [if_pos hl0]
  rintro e w2 ⟨rfl, b2⟩
  have z2 : w1.heap.size ≤ w2.heap.size := b2.size
  have B2 : Below w.heap.size w w2 := Below.next B1 b2
  have xaa_2 := xaa_1.next b2
  have paa := xaa_2.cell0
  have qaa := xaa_2.cell1
  go_wp2_with fail
  clear paa qaa
  refine (toAbacus_any _ _ _ _ _ hl0 (hc0.later B2)).mono ?_
  rintro e w3 ⟨At0, ct0, rfl, ot0_3, b3⟩
  have z3 : w2.heap.size ≤ w3.heap.size := b3.size
  have B3 : Below w.heap.size w w3 := Below.next B2 b3
  have xaa_3 := xaa_2.next b3
  have kt0 := ot0_3.block
  have paa := xaa_3.cell0
  have qaa := xaa_3.cell1
  go_wp2_with fail
  clear paa qaa
  refine (spec_RunnersOf _ _ _ _ _ hl0 ot0_3.cells).mono ?_
  rintro e w4 ⟨Aw0, cw0, rfl, ow0_4, b4⟩
  have z4 : w3.heap.size ≤ w4.heap.size := b4.size
  have B4 : Below w.heap.size w w4 := Below.next B3 b4
  have ot0_4 := ot0_3.below b4
  have xaa_4 := xaa_3.next b4
  have paa := xaa_4.cell0
  have qaa := xaa_4.cell1
  go_wp2_with fail
  clear paa qaa
  refine (toAbacus_any _ _ _ _ _ hl0 (hc0.later B4)).mono ?_
  rintro e w5 ⟨Ax0, cx0, rfl, ox0_5, b5⟩
  have z5 : w4.heap.size ≤ w5.heap.size := b5.size
  have B5 : Below w.heap.size w w5 := Below.next B4 b5
  have ow0_5 := ow0_4.below b5
  have xaa_5 := xaa_4.next b5
  have kx0 := ox0_5.block
  have paa := xaa_5.cell0
  have qaa := xaa_5.cell1
  have pbaa := (xaa_5.alloc (.cells #[.int .i64 rr0, .slice Ax0 xs0.length cx0] 26)).cell0
  have qbaa := (xaa_5.alloc (.cells #[.int .i64 rr0, .slice Ax0 xs0.length cx0] 26)).cell1
  go_wp2_with fail
  clear paa qaa pbaa qbaa
  obtain ⟨w6, hw6⟩ : ∃ w', w' = w5.alloc (.cells #[.int .i64 rr0, .slice Ax0 xs0.length cx0] 26) := ⟨_, rfl⟩
  have b6 : Below w5.heap.size w5 w6 := by rw [hw6]; exact (Below.refl _ _).alloc (Nat.le_refl _) _
  have z6 : w5.heap.size + 1 = w6.heap.size := by rw [hw6]; simp
  have B6 : Below w.heap.size w w6 := Below.next B5 b6
  have ow0_6 := ow0_5.below b6
  have ox0_6 := ox0_5.below b6
  have xaa_6 := xaa_5.next b6
  have xx0_6 : Box2 w6 w5.heap.size 26 (.int .i64 rr0) (.slice Ax0 xs0.length cx0) := by rw [hw6]; exact Box2.new _ _ _ _
  rw [← hw6]
  clear hw6
  refine (impl_RunnersOf _ _ _ _ _ hl0 ox0_6.cells).mono ?_
  rintro e w7 ⟨Ag0, cg0, rfl, og0_7, b7⟩
  have z7 : w6.heap.size ≤ w7.heap.size := b7.size
  have B7 : Below w.heap.size w w7 := Below.next B6 b7
  have ow0_7 := ow0_6.below b7
  have ox0_7 := ox0_6.below b7
  have xaa_7 := xaa_6.next b7
  have xx0_7 := xx0_6.next b7
  have paa := xaa_7.cell0
  have qaa := xaa_7.cell1
  have px0 := xx0_7.cell0
  have qx0 := xx0_7.cell1
  go_wp2_with fail
  clear paa qaa px0 qx0
  refine (eqIntSS_t _ _ _ _ _ _ hlen og0_7.cells ow0_7.cells).mono ?_
  rintro e w8 ⟨rfl, b8⟩
  have z8 : w7.heap.size ≤ w8.heap.size := b8.size
  have B8 : Below w.heap.size w w8 := Below.next B7 b8
  have ow0_8 := ow0_7.below b8
  have ox0_8 := ox0_7.below b8
  have og0_8 := og0_7.below b8
  have xaa_8 := xaa_7.next b8
  have xx0_8 := xx0_7.next b8
  have xd1 : Box2 w8.drew w5.heap.size 26 (.int .i64 rr0) (.slice Ax0 xs0.length cx0) := xx0_8
  have xd2 : Box2 w8.drew w.heap.size 24 (.int .i64 rr0) (.slice A0 xs0.length c0) := xaa_8
  have od : Own w8.drew _ Ax0 cx0 xs0 := ox0_8
  have paa := xaa_8.cell0
  have qaa := xaa_8.cell1
  have px0 := xx0_8.cell0
  have qx0 := xx0_8.cell1
  go_wp2_with fail
  go_region_held3 (fun w' => w'.cell? ⟨w5.heap.size, 0, none⟩ = some (.int .i64 rr0) ∧ w'.cell? ⟨w5.heap.size, 1, none⟩ = some (.slice Ax0 xs0.length cx0) ∧ w'.cell? ⟨w.heap.size, 0, none⟩ = some (.int .i64 rr0) ∧ w'.cell? ⟨w.heap.size, 1, none⟩ = some (.slice A0 xs0.length c0)) (first | exact ⟨px0, qx0, paa, qaa⟩ | exact ⟨xe1.cell0, xe1.cell1, xe2.cell0, xe2.cell1⟩ | exact ⟨xf1.cell0, xf1.cell1, xf2.cell0, xf2.cell1⟩) (first | (go_at_call 26; refine (toAbacus_any _ _ _ _ _ hl0 (hc0.later (below_drewN B8 1))).mono ?_; rintro e w9 ⟨Ay, cy, rfl, oy, b9⟩; have xe1 := xd1.next b9; have xe2 := xd2.next b9; have oe := od.below b9) | (go_at_call 28; refine (eqAbacus_t _ _ _ _ _ _ _ hl0 oe.cells oy.cells).mono ?_; rintro e w10 ⟨rfl, b10⟩; have xf1 := xe1.next b10; have xf2 := xe2.next b10))
  clear paa qaa px0 qx0
  have bd : Below w8.heap.size w8 w8.drew := below_drew' w8 1
  have z9 : w8.heap.size ≤ w9.heap.size := b9.size
  have z10 : w9.heap.size ≤ w10.heap.size := b10.size
  have B9 : Below w.heap.size w w9 := Below.next (below_drewN B8 1) b9
  have B10 : Below w.heap.size w w10 := Below.next B9 b10
  have ow0_10 := ((ow0_8.below bd).below b9).below b10
  have ox0_10 := ((ox0_8.below bd).below b9).below b10
  have og0_10 := ((og0_8.below bd).below b9).below b10
  have xaa_10 := ((xaa_8.next bd).next b9).next b10
  have xx0_10 := ((xx0_8.next bd).next b9).next b10
  have paa := xaa_10.cell0
  have qaa := xaa_10.cell1
  have px0 := xx0_10.cell0
  have qx0 := xx0_10.cell1
  go_wp2_with fail
  clear paa qaa px0 qx0
  refine (markAbacus_any _ _ _ _ _ _ _ _ hl0 (by omega) (by omega) ox0_10 kx0).mono ?_
  rintro e w11 ⟨rfl, om11, on11⟩
  have z11 : w10.heap.size ≤ w11.heap.size := on11.size
  have B11 : Below w.heap.size w w11 := Below.only B10 on11 (by omega) B10.size
  have ow0_11 := ow0_10.only on11 (by omega)
  have og0_11 := og0_10.only on11 (by omega)
  have xaa_11 := xaa_10.only on11.block (by omega)
  have xx0_11 := xx0_10.only on11.block (by omega)
  have paa := xaa_11.cell0
  have qaa := xaa_11.cell1
  have px0 := xx0_11.cell0
  have qx0 := xx0_11.cell1
  go_wp2_with fail
  clear paa qaa px0 qx0
  refine (eqIntSS_t _ _ _ _ _ _ hlen og0_11.cells ow0_11.cells).mono ?_
  rintro e w12 ⟨rfl, b12⟩
  have z12 : w11.heap.size ≤ w12.heap.size := b12.size
  have B12 : Below w.heap.size w w12 := Below.next B11 b12
  have ow0_12 := ow0_11.below b12
  have ox0_12 := om11.below b12
  have og0_12 := og0_11.below b12
  have xaa_12 := xaa_11.next b12
  have xx0_12 := xx0_11.next b12
  have paa := xaa_12.cell0
  have qaa := xaa_12.cell1
  have px0 := xx0_12.cell0
  have qx0 := xx0_12.cell1
  go_wp2_with fail
  clear paa qaa px0 qx0
  refine (markIntSS_any _ _ _ _ _ _ _ hlen (by omega) (by omega) og0_12).mono ?_
  rintro e w13 ⟨rfl, om13, on13⟩
  have z13 : w12.heap.size ≤ w13.heap.size := on13.size
  have B13 : Below w.heap.size w w13 := Below.only B12 on13 (by omega) B12.size
  have ow0_13 := ow0_12.only on13 (by omega)
  have xaa_13 := xaa_12.only on13.block (by omega)
  have xx0_13 := xx0_12.only on13.block (by omega)
  have paa := xaa_13.cell0
  have qaa := xaa_13.cell1
  have px0 := xx0_13.cell0
  have qx0 := xx0_13.cell1
  go_wp2_with fail
  clear paa qaa px0 qx0
  refine (heldIntSS_t _ _ _ _ _ hlen (by omega) (by omega) om13.cells).mono ?_
  rintro e w14 ⟨rfl, b14⟩
  have z14 : w13.heap.size ≤ w14.heap.size := b14.size
  have B14 : Below w.heap.size w w14 := Below.next B13 b14
  have ow0_14 := ow0_13.below b14
  have og0_14 := om13.below b14
  have xaa_14 := xaa_13.next b14
  have xx0_14 := xx0_13.next b14
  have paa := xaa_14.cell0
  have qaa := xaa_14.cell1
  have px0 := xx0_14.cell0
  have qx0 := xx0_14.cell1
  go_wp2_with fail
  clear paa qaa px0 qx0
  refine (toAbacus_any _ _ _ _ _ hl0 (hc0.later B14)).mono ?_
  rintro e w15 ⟨Au0, cu0, rfl, ou0_15, b15⟩
  have z15 : w14.heap.size ≤ w15.heap.size := b15.size
  have B15 : Below w.heap.size w w15 := Below.next B14 b15
  have ow0_15 := ow0_14.below b15
  have og0_15 := og0_14.below b15
  have xaa_15 := xaa_14.next b15
  have xx0_15 := xx0_14.next b15
  have ku0 := ou0_15.block
  have paa := xaa_15.cell0
  have qaa := xaa_15.cell1
  have px0 := xx0_15.cell0
  have qx0 := xx0_15.cell1
  go_wp2_with fail
  clear paa qaa px0 qx0
  refine (impl_RunnersOf _ _ _ _ _ hl0 ou0_15.cells).mono ?_
  rintro e w16 ⟨Ah0, ch0, rfl, oh0_16, b16⟩
  have z16 : w15.heap.size ≤ w16.heap.size := b16.size
  have B16 : Below w.heap.size w w16 := Below.next B15 b16
  have ow0_16 := ow0_15.below b16
  have og0_16 := og0_15.below b16
  have ou0_16 := ou0_15.below b16
  have xaa_16 := xaa_15.next b16
  have xx0_16 := xx0_15.next b16
  have paa := xaa_16.cell0
  have qaa := xaa_16.cell1
  have px0 := xx0_16.cell0
  have qx0 := xx0_16.cell1
  go_wp2_with fail
  clear paa qaa px0 qx0
  refine (eqIntSS_t _ _ _ _ _ _ hlen oh0_16.cells ow0_16.cells).mono ?_
  rintro e w17 ⟨rfl, b17⟩
  have z17 : w16.heap.size ≤ w17.heap.size := b17.size
  have B17 : Below w.heap.size w w17 := Below.next B16 b17
  have ow0_17 := ow0_16.below b17
  have og0_17 := og0_16.below b17
  have oh0_17 := oh0_16.below b17
  have xaa_17 := xaa_16.next b17
  have xx0_17 := xx0_16.next b17
  have paa := xaa_17.cell0
  have qaa := xaa_17.cell1
  have px0 := xx0_17.cell0
  have qx0 := xx0_17.cell1
  go_wp2_with fail
  clear paa qaa px0 qx0
  refine (heldIntSS_t _ _ _ _ _ hlen (by omega) (by omega) og0_17.cells).mono ?_
  rintro e w18 ⟨rfl, b18⟩
  have z18 : w17.heap.size ≤ w18.heap.size := b18.size
  have B18 : Below w.heap.size w w18 := Below.next B17 b18
  have ow0_18 := ow0_17.below b18
  have og0_18 := og0_17.below b18
  have oh0_18 := oh0_17.below b18
  have xaa_18 := xaa_17.next b18
  have xx0_18 := xx0_17.next b18
  have paa := xaa_18.cell0
  have qaa := xaa_18.cell1
  have px0 := xx0_18.cell0
  have qx0 := xx0_18.cell1
  go_wp2_with fail
  go_ret
  exact ⟨rfl, B18⟩
end Go.Proofs.Ytnhjofcmaodamaa
