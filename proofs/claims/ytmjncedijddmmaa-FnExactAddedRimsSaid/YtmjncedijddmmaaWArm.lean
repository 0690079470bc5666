/-
  Walks of the exact laws on AddedRims (made by genlaw.py).
-/
import Derived.Test.YtmjncedijddmmaaR15
import Derived.Test.YtmjncedijddmmaaR29
import Derived.Test.YtmjncedijddmmaaCB
namespace Go.Proofs.Ytmjncedijddmmaa
open Go.RowKit
set_option maxRecDepth 100000 in
set_option maxHeartbeats 1000000 in
theorem walkAddedRims (A0 : Option Addr) (c0 : Nat) (xs0 : List Int) (r1 : Int) (w : World) (hc0 : Cells w A0 xs0) (hr1 : I64 r1) :
    Calls Try.prog 5 #[.slice A0 xs0.length c0, .int .i64 r1] w fun e w' => e = .returned (.bool true) ∧ Below w.heap.size w w' := by
  by_cases hbig : 1048576 < xs0.length
  · go_enter Try.func5, Try.ntmps5
    go_wp2_with fail
    go_ret
    exact ⟨rfl, Below.refl _ _⟩
  have hl0 : xs0.length ≤ 1048576 := by omega
  clear hbig
  go_enter Try.func5, Try.ntmps5
  have B0 : Below w.heap.size w w := Below.refl _ _
  have hlen := bound_AddedRims xs0 r1
  go_wp2_with fail
  refine (toIntS_any _ _ _ _ hl0 (hc0.later B0)).mono ?_
  rintro e w1 ⟨At0, ct0, rfl, ot0_1, b1⟩
  have z1 : w.heap.size ≤ w1.heap.size := b1.size
  have B1 : Below w.heap.size w w1 := Below.next B0 b1
  have kt0 := ot0_1.block
  go_wp2_with fail
  refine (spec_AddedRims _ _ _ _ _ hl0 ot0_1.cells hr1).mono ?_
  rintro e w2 ⟨Aw0, cw0, rfl, ow0_2, b2⟩
  have z2 : w1.heap.size ≤ w2.heap.size := b2.size
  have B2 : Below w.heap.size w w2 := Below.next B1 b2
  have ot0_2 := ot0_1.below b2
  go_wp2_with fail
  refine (toIntS_any _ _ _ _ hl0 (hc0.later B2)).mono ?_
  rintro e w3 ⟨Ax0, cx0, rfl, ox0_3, b3⟩
  have z3 : w2.heap.size ≤ w3.heap.size := b3.size
  have B3 : Below w.heap.size w w3 := Below.next B2 b3
  have ow0_3 := ow0_2.below b3
  have kx0 := ox0_3.block
  go_wp2_with fail
  refine (impl_AddedRims _ _ _ _ _ hl0 ox0_3.cells hr1).mono ?_
  rintro e w4 ⟨Ag0, cg0, rfl, og0_4, b4⟩
  have z4 : w3.heap.size ≤ w4.heap.size := b4.size
  have B4 : Below w.heap.size w w4 := Below.next B3 b4
  have ow0_4 := ow0_3.below b4
  have ox0_4 := ox0_3.below b4
  go_wp2_with fail
  refine (eqIntSS_t _ _ _ _ _ _ hlen og0_4.cells ow0_4.cells).mono ?_
  rintro e w5 ⟨rfl, b5⟩
  have z5 : w4.heap.size ≤ w5.heap.size := b5.size
  have B5 : Below w.heap.size w w5 := Below.next B4 b5
  have ow0_5 := ow0_4.below b5
  have ox0_5 := ox0_4.below b5
  have og0_5 := og0_4.below b5
  go_wp2_with fail
  refine (toIntS_any _ _ _ _ hl0 (hc0.later B5)).mono ?_
  rintro e w6 ⟨Ay0, cy0, rfl, oy0_6, b6⟩
  have z6 : w5.heap.size ≤ w6.heap.size := b6.size
  have B6 : Below w.heap.size w w6 := Below.next B5 b6
  have ow0_6 := ow0_5.below b6
  have ox0_6 := ox0_5.below b6
  have og0_6 := og0_5.below b6
  have ky0 := oy0_6.block
  go_wp2_with fail
  refine (eqIntS_t _ _ _ _ _ _ hl0 ox0_6.cells oy0_6.cells).mono ?_
  rintro e w7 ⟨rfl, b7⟩
  have z7 : w6.heap.size ≤ w7.heap.size := b7.size
  have B7 : Below w.heap.size w w7 := Below.next B6 b7
  have ow0_7 := ow0_6.below b7
  have ox0_7 := ox0_6.below b7
  have og0_7 := og0_6.below b7
  have oy0_7 := oy0_6.below b7
  go_wp2_with fail
  refine (markIntS_any _ _ _ _ _ _ hl0 (by omega) (by omega) ox0_7).mono ?_
  rintro e w8 ⟨rfl, om8, gr8, -⟩
  have on8 := Only.of_grown gr8 kx0
  have z8 : w7.heap.size ≤ w8.heap.size := on8.size
  have B8 : Below w.heap.size w w8 := Below.only B7 on8 (by omega) B7.size
  have ow0_8 := ow0_7.only on8 (by omega)
  have og0_8 := og0_7.only on8 (by omega)
  go_wp2_with fail
  refine (eqIntSS_t _ _ _ _ _ _ hlen og0_8.cells ow0_8.cells).mono ?_
  rintro e w9 ⟨rfl, b9⟩
  have z9 : w8.heap.size ≤ w9.heap.size := b9.size
  have B9 : Below w.heap.size w w9 := Below.next B8 b9
  have ow0_9 := ow0_8.below b9
  have ox0_9 := om8.below b9
  have og0_9 := og0_8.below b9
  go_wp2_with fail
  refine (markIntSS_any _ _ _ _ _ _ _ hlen (by omega) (by omega) og0_9).mono ?_
  rintro e w10 ⟨rfl, om10, on10⟩
  have z10 : w9.heap.size ≤ w10.heap.size := on10.size
  have B10 : Below w.heap.size w w10 := Below.only B9 on10 (by omega) B9.size
  have ow0_10 := ow0_9.only on10 (by omega)
  go_wp2_with fail
  refine (heldIntSS_t _ _ _ _ _ hlen (by omega) (by omega) om10.cells).mono ?_
  rintro e w11 ⟨rfl, b11⟩
  have z11 : w10.heap.size ≤ w11.heap.size := b11.size
  have B11 : Below w.heap.size w w11 := Below.next B10 b11
  have ow0_11 := ow0_10.below b11
  have og0_11 := om10.below b11
  go_wp2_with fail
  refine (toIntS_any _ _ _ _ hl0 (hc0.later B11)).mono ?_
  rintro e w12 ⟨Au0, cu0, rfl, ou0_12, b12⟩
  have z12 : w11.heap.size ≤ w12.heap.size := b12.size
  have B12 : Below w.heap.size w w12 := Below.next B11 b12
  have ow0_12 := ow0_11.below b12
  have og0_12 := og0_11.below b12
  have ku0 := ou0_12.block
  go_wp2_with fail
  refine (impl_AddedRims _ _ _ _ _ hl0 ou0_12.cells hr1).mono ?_
  rintro e w13 ⟨Ah0, ch0, rfl, oh0_13, b13⟩
  have z13 : w12.heap.size ≤ w13.heap.size := b13.size
  have B13 : Below w.heap.size w w13 := Below.next B12 b13
  have ow0_13 := ow0_12.below b13
  have og0_13 := og0_12.below b13
  have ou0_13 := ou0_12.below b13
  go_wp2_with fail
  refine (eqIntSS_t _ _ _ _ _ _ hlen oh0_13.cells ow0_13.cells).mono ?_
  rintro e w14 ⟨rfl, b14⟩
  have z14 : w13.heap.size ≤ w14.heap.size := b14.size
  have B14 : Below w.heap.size w w14 := Below.next B13 b14
  have ow0_14 := ow0_13.below b14
  have og0_14 := og0_13.below b14
  have oh0_14 := oh0_13.below b14
  go_wp2_with fail
  refine (heldIntSS_t _ _ _ _ _ hlen (by omega) (by omega) og0_14.cells).mono ?_
  rintro e w15 ⟨rfl, b15⟩
  have z15 : w14.heap.size ≤ w15.heap.size := b15.size
  have B15 : Below w.heap.size w w15 := Below.next B14 b15
  have ow0_15 := ow0_14.below b15
  have og0_15 := og0_14.below b15
  have oh0_15 := oh0_14.below b15
  go_wp2_with fail
  go_ret
  exact ⟨rfl, B15⟩
end Go.Proofs.Ytmjncedijddmmaa
