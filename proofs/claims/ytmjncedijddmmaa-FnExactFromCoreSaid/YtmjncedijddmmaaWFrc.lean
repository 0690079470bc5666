/-
  Walks of the exact laws on FromCore (made by genlaw2.py).
-/
import Derived.Test.YtmjncedijddmmaaFrcS
import Derived.Test.YtmjncedijddmmaaR30
import Derived.Test.YtmjncedijddmmaaCB
import Derived.Deep.RegionHeld3
namespace Go.Proofs.Ytmjncedijddmmaa
open Go.RowKit
set_option maxRecDepth 100000 in
set_option maxHeartbeats 2000000 in
theorem walkFromCore (A0 : Option Addr) (c0 : Nat) (xs0 : List Int) (A1 : Option Addr) (c1 : Nat) (rs1 : List (List Int)) (w : World) (hc0 : Cells w A0 xs0) (hc1 : Cells2 w A1 rs1) (hn1 : rs1.length ≤ 9223372036854775807 ∧ ∀ j, j < rs1.length → (rs1.getD j []).length ≤ 9223372036854775807) :
    Calls Try.prog 7 #[.slice A0 xs0.length c0, .slice A1 rs1.length c1] w fun e w' => e = .returned (.bool true) ∧ Below w.heap.size w w' := by
  have B0 : Below w.heap.size w w := Below.refl _ _
  by_cases hbig : 1048576 < xs0.length
  · go_enter Try.func7, Try.ntmps7
    go_wp2_with fail
    go_ret
    exact ⟨rfl, Below.refl _ _⟩
  have hl0 : xs0.length ≤ 1048576 := by omega
  clear hbig
  by_cases hbhl1 : rs1.length + tot rs1 ≤ 1048576
  case neg =>
    go_enter Try.func7, Try.ntmps7
    go_wp2_with fail
    refine (szIntSS_any _ _ _ _ hn1.1 hn1.2 hc1).mono ?_
    rw [if_neg hbhl1]
    rintro e w1 ⟨rfl, rfl⟩
    go_wp2_with fail
    go_ret
    exact ⟨rfl, Below.refl _ _⟩
  have hl1 : rs1.length ≤ 1048576 ∧ tot rs1 ≤ 1048576 := by omega
  have hlen := bound_FromCore xs0 rs1
  go_enter Try.func7, Try.ntmps7
  go_wp2_with fail
  refine (szIntSS_any _ _ _ _ hn1.1 hn1.2 hc1).mono ?_
  rw [if_pos hbhl1]
  rintro e w1 ⟨rfl, rfl⟩
  go_wp2_with fail
  refine (toIntS_any _ _ _ _ hl0 (hc0.later B0)).mono ?_
  rintro e w1 ⟨At0, ct0, rfl, ot0_1, b1⟩
  have z1 : w.heap.size ≤ w1.heap.size := b1.size
  have B1 : Below w.heap.size w w1 := Below.next B0 b1
  have kt0 := ot0_1.block
  go_wp2_with fail
  refine (toIntSS_any _ _ _ _ hl1 (hc1.later B1)).mono ?_
  rintro e w2 ⟨At1, ct1, rfl, ot1_2, b2⟩
  have z2 : w1.heap.size ≤ w2.heap.size := b2.size
  have B2 : Below w.heap.size w w2 := Below.next B1 b2
  have ot0_2 := ot0_1.below b2
  go_wp2_with fail
  refine (spec_FromCore _ _ _ _ _ _ _ hl0 ot0_2.cells hl1 ot1_2.cells).mono ?_
  rintro e w3 ⟨Aw0, cw0, rfl, ow0_3, b3⟩
  have z3 : w2.heap.size ≤ w3.heap.size := b3.size
  have B3 : Below w.heap.size w w3 := Below.next B2 b3
  have ot0_3 := ot0_2.below b3
  have ot1_3 := ot1_2.below b3
  have kw0 := ow0_3.block
  go_wp2_with fail
  refine (toIntS_any _ _ _ _ hl0 (hc0.later B3)).mono ?_
  rintro e w4 ⟨Ax0, cx0, rfl, ox0_4, b4⟩
  have z4 : w3.heap.size ≤ w4.heap.size := b4.size
  have B4 : Below w.heap.size w w4 := Below.next B3 b4
  have ow0_4 := ow0_3.below b4
  have kx0 := ox0_4.block
  go_wp2_with fail
  refine (toIntSS_any _ _ _ _ hl1 (hc1.later B4)).mono ?_
  rintro e w5 ⟨Ax1, cx1, rfl, ox1_5, b5⟩
  have z5 : w4.heap.size ≤ w5.heap.size := b5.size
  have B5 : Below w.heap.size w w5 := Below.next B4 b5
  have ow0_5 := ow0_4.below b5
  have ox0_5 := ox0_4.below b5
  go_wp2_with fail
  refine (impl_FromCore _ _ _ _ _ _ _ hl0 ox0_5.cells hl1 ox1_5.cells).mono ?_
  rintro e w6 ⟨Ag0, cg0, rfl, og0_6, b6⟩
  have z6 : w5.heap.size ≤ w6.heap.size := b6.size
  have B6 : Below w.heap.size w w6 := Below.next B5 b6
  have ow0_6 := ow0_5.below b6
  have ox0_6 := ox0_5.below b6
  have ox1_6 := ox1_5.below b6
  have kg0 := og0_6.block
  go_wp2_with fail
  refine (eqIntS_t _ _ _ _ _ _ hlen og0_6.cells ow0_6.cells).mono ?_
  rintro e w7 ⟨rfl, b7⟩
  have z7 : w6.heap.size ≤ w7.heap.size := b7.size
  have B7 : Below w.heap.size w w7 := Below.next B6 b7
  have ow0_7 := ow0_6.below b7
  have ox0_7 := ox0_6.below b7
  have ox1_7 := ox1_6.below b7
  have og0_7 := og0_6.below b7
  go_wp2_with fail
  refine (toIntS_any _ _ _ _ hl0 (hc0.later B7)).mono ?_
  rintro e w8 ⟨Ay0, cy0, rfl, oy0_8, b8⟩
  have z8 : w7.heap.size ≤ w8.heap.size := b8.size
  have B8 : Below w.heap.size w w8 := Below.next B7 b8
  have ow0_8 := ow0_7.below b8
  have ox0_8 := ox0_7.below b8
  have ox1_8 := ox1_7.below b8
  have og0_8 := og0_7.below b8
  have ky0 := oy0_8.block
  go_wp2_with fail
  refine (eqIntS_t _ _ _ _ _ _ hl0 ox0_8.cells oy0_8.cells).mono ?_
  rintro e w9 ⟨rfl, b9⟩
  have z9 : w8.heap.size ≤ w9.heap.size := b9.size
  have B9 : Below w.heap.size w w9 := Below.next B8 b9
  have ow0_9 := ow0_8.below b9
  have ox0_9 := ox0_8.below b9
  have ox1_9 := ox1_8.below b9
  have og0_9 := og0_8.below b9
  have oy0_9 := oy0_8.below b9
  go_wp2_with fail
  refine (toIntSS_any _ _ _ _ hl1 (hc1.later B9)).mono ?_
  rintro e w10 ⟨Ay1, cy1, rfl, oy1_10, b10⟩
  have z10 : w9.heap.size ≤ w10.heap.size := b10.size
  have B10 : Below w.heap.size w w10 := Below.next B9 b10
  have ow0_10 := ow0_9.below b10
  have ox0_10 := ox0_9.below b10
  have ox1_10 := ox1_9.below b10
  have og0_10 := og0_9.below b10
  go_wp2_with fail
  refine (eqIntSS_t _ _ _ _ _ _ hl1 ox1_10.cells oy1_10.cells).mono ?_
  rintro e w11 ⟨rfl, b11⟩
  have z11 : w10.heap.size ≤ w11.heap.size := b11.size
  have B11 : Below w.heap.size w w11 := Below.next B10 b11
  have ow0_11 := ow0_10.below b11
  have ox0_11 := ox0_10.below b11
  have ox1_11 := ox1_10.below b11
  have og0_11 := og0_10.below b11
  have oy1_11 := oy1_10.below b11
  go_wp2_with fail
  refine (markIntS_any _ _ _ _ _ _ hl0 (by omega) (by omega) ox0_11).mono ?_
  rintro e w12 ⟨rfl, om12, gr12, -⟩
  have on12 := Only.of_grown gr12 kx0
  have z12 : w11.heap.size ≤ w12.heap.size := on12.size
  have B12 : Below w.heap.size w w12 := Below.only B11 on12 (by omega) B11.size
  have ow0_12 := ow0_11.only kw0 on12 (by omega)
  have ox1_12 := ox1_11.only on12 (by omega)
  have og0_12 := og0_11.only kg0 on12 (by omega)
  go_wp2_with fail
  refine (markIntSS_any _ _ _ _ _ _ _ hl1 (by omega) (by omega) ox1_12).mono ?_
  rintro e w13 ⟨rfl, om13, on13⟩
  have z13 : w12.heap.size ≤ w13.heap.size := on13.size
  have B13 : Below w.heap.size w w13 := Below.only B12 on13 (by omega) B12.size
  have ow0_13 := ow0_12.only kw0 on13 (by omega)
  have ox0_13 := om12.only kx0 on13 (by omega)
  have og0_13 := og0_12.only kg0 on13 (by omega)
  go_wp2_with fail
  refine (eqIntS_t _ _ _ _ _ _ hlen og0_13.cells ow0_13.cells).mono ?_
  rintro e w14 ⟨rfl, b14⟩
  have z14 : w13.heap.size ≤ w14.heap.size := b14.size
  have B14 : Below w.heap.size w w14 := Below.next B13 b14
  have ow0_14 := ow0_13.below b14
  have ox0_14 := ox0_13.below b14
  have ox1_14 := om13.below b14
  have og0_14 := og0_13.below b14
  go_wp2_with fail
  refine (markIntS_any _ _ _ _ _ _ hlen (by omega) (by omega) og0_14).mono ?_
  rintro e w15 ⟨rfl, om15, gr15, -⟩
  have on15 := Only.of_grown gr15 kg0
  have z15 : w14.heap.size ≤ w15.heap.size := on15.size
  have B15 : Below w.heap.size w w15 := Below.only B14 on15 (by omega) B14.size
  have ow0_15 := ow0_14.only kw0 on15 (by omega)
  go_wp2_with fail
  refine (heldIntS_t _ _ _ _ _ hlen (by omega) (by omega) om15.cells).mono ?_
  rintro e w16 ⟨rfl, b16⟩
  have z16 : w15.heap.size ≤ w16.heap.size := b16.size
  have B16 : Below w.heap.size w w16 := Below.next B15 b16
  have ow0_16 := ow0_15.below b16
  have og0_16 := om15.below b16
  go_wp2_with fail
  refine (toIntS_any _ _ _ _ hl0 (hc0.later B16)).mono ?_
  rintro e w17 ⟨Au0, cu0, rfl, ou0_17, b17⟩
  have z17 : w16.heap.size ≤ w17.heap.size := b17.size
  have B17 : Below w.heap.size w w17 := Below.next B16 b17
  have ow0_17 := ow0_16.below b17
  have og0_17 := og0_16.below b17
  have ku0 := ou0_17.block
  go_wp2_with fail
  refine (toIntSS_any _ _ _ _ hl1 (hc1.later B17)).mono ?_
  rintro e w18 ⟨Au1, cu1, rfl, ou1_18, b18⟩
  have z18 : w17.heap.size ≤ w18.heap.size := b18.size
  have B18 : Below w.heap.size w w18 := Below.next B17 b18
  have ow0_18 := ow0_17.below b18
  have og0_18 := og0_17.below b18
  have ou0_18 := ou0_17.below b18
  go_wp2_with fail
  refine (impl_FromCore _ _ _ _ _ _ _ hl0 ou0_18.cells hl1 ou1_18.cells).mono ?_
  rintro e w19 ⟨Ah0, ch0, rfl, oh0_19, b19⟩
  have z19 : w18.heap.size ≤ w19.heap.size := b19.size
  have B19 : Below w.heap.size w w19 := Below.next B18 b19
  have ow0_19 := ow0_18.below b19
  have og0_19 := og0_18.below b19
  have ou0_19 := ou0_18.below b19
  have ou1_19 := ou1_18.below b19
  have kh0 := oh0_19.block
  go_wp2_with fail
  refine (eqIntS_t _ _ _ _ _ _ hlen oh0_19.cells ow0_19.cells).mono ?_
  rintro e w20 ⟨rfl, b20⟩
  have z20 : w19.heap.size ≤ w20.heap.size := b20.size
  have B20 : Below w.heap.size w w20 := Below.next B19 b20
  have ow0_20 := ow0_19.below b20
  have og0_20 := og0_19.below b20
  have oh0_20 := oh0_19.below b20
  go_wp2_with fail
  refine (heldIntS_t _ _ _ _ _ hlen (by omega) (by omega) og0_20.cells).mono ?_
  rintro e w21 ⟨rfl, b21⟩
  have z21 : w20.heap.size ≤ w21.heap.size := b21.size
  have B21 : Below w.heap.size w w21 := Below.next B20 b21
  have ow0_21 := ow0_20.below b21
  have og0_21 := og0_20.below b21
  have oh0_21 := oh0_20.below b21
  go_wp2_with fail
  go_ret
  exact ⟨rfl, B21⟩
end Go.Proofs.Ytmjncedijddmmaa
