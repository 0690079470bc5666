/-
  Walks of the exact laws on IsAbove (made by genlaw.py).
-/
import Derived.Test.YthbkonpclflkhaaAbove
import Derived.Test.YthbkonpclflkhaaCB
namespace Go.Proofs.Ythbkonpclflkhaa
open Go.RowKit
set_option maxRecDepth 100000 in
set_option maxHeartbeats 1000000 in
theorem walkIsAbove (A0 : Option Addr) (c0 : Nat) (xs0 : List Int) (A1 : Option Addr) (c1 : Nat) (xs1 : List Int) (w : World) (hc0 : Cells w A0 xs0) (hc1 : Cells w A1 xs1) :
    Calls Try.prog 16 #[.slice A0 xs0.length c0, .slice A1 xs1.length c1] w fun e w' => e = .returned (.bool true) ∧ Below w.heap.size w w' := by
  by_cases hbig : 1048576 < xs0.length
  · go_enter Try.func16, Try.ntmps16
    go_wp2_with fail
    go_ret
    exact ⟨rfl, Below.refl _ _⟩
  have hl0 : xs0.length ≤ 1048576 := by omega
  clear hbig
  by_cases hbig : 1048576 < xs1.length
  · go_enter Try.func16, Try.ntmps16
    go_wp2_with fail
    go_ret
    exact ⟨rfl, Below.refl _ _⟩
  have hl1 : xs1.length ≤ 1048576 := by omega
  clear hbig
  go_enter Try.func16, Try.ntmps16
  have B0 : Below w.heap.size w w := Below.refl _ _
  go_wp2_with fail
  refine (toIntS_any _ _ _ _ hl0 (hc0.later B0)).mono ?_
  rintro e w1 ⟨At0, ct0, rfl, ot0_1, b1⟩
  have z1 : w.heap.size ≤ w1.heap.size := b1.size
  have B1 : Below w.heap.size w w1 := Below.next B0 b1
  have kt0 := ot0_1.block
  go_wp2_with fail
  refine (toIntS_any _ _ _ _ hl1 (hc1.later B1)).mono ?_
  rintro e w2 ⟨At1, ct1, rfl, ot1_2, b2⟩
  have z2 : w1.heap.size ≤ w2.heap.size := b2.size
  have B2 : Below w.heap.size w w2 := Below.next B1 b2
  have ot0_2 := ot0_1.below b2
  have kt1 := ot1_2.block
  go_wp2_with fail
  refine (spec_IsAbove _ _ _ _ _ _ _ hl0 ot0_2.cells hl1 ot1_2.cells).mono ?_
  rintro e w3 ⟨rfl, b3⟩
  have z3 : w2.heap.size ≤ w3.heap.size := b3.size
  have B3 : Below w.heap.size w w3 := Below.next B2 b3
  have ot0_3 := ot0_2.below b3
  have ot1_3 := ot1_2.below b3
  go_wp2_with fail
  refine (toIntS_any _ _ _ _ hl0 (hc0.later B3)).mono ?_
  rintro e w4 ⟨Ax0, cx0, rfl, ox0_4, b4⟩
  have z4 : w3.heap.size ≤ w4.heap.size := b4.size
  have B4 : Below w.heap.size w w4 := Below.next B3 b4
  have kx0 := ox0_4.block
  go_wp2_with fail
  refine (toIntS_any _ _ _ _ hl1 (hc1.later B4)).mono ?_
  rintro e w5 ⟨Ax1, cx1, rfl, ox1_5, b5⟩
  have z5 : w4.heap.size ≤ w5.heap.size := b5.size
  have B5 : Below w.heap.size w w5 := Below.next B4 b5
  have ox0_5 := ox0_4.below b5
  have kx1 := ox1_5.block
  go_wp2_with fail
  refine (impl_IsAbove _ _ _ _ _ _ _ hl0 ox0_5.cells hl1 ox1_5.cells).mono ?_
  rintro e w6 ⟨rfl, b6⟩
  have z6 : w5.heap.size ≤ w6.heap.size := b6.size
  have B6 : Below w.heap.size w w6 := Below.next B5 b6
  have ox0_6 := ox0_5.below b6
  have ox1_6 := ox1_5.below b6
  go_wp2_with fail
  refine (toIntS_any _ _ _ _ hl0 (hc0.later B6)).mono ?_
  rintro e w7 ⟨Ay0, cy0, rfl, oy0_7, b7⟩
  have z7 : w6.heap.size ≤ w7.heap.size := b7.size
  have B7 : Below w.heap.size w w7 := Below.next B6 b7
  have ox0_7 := ox0_6.below b7
  have ox1_7 := ox1_6.below b7
  have ky0 := oy0_7.block
  go_wp2_with fail
  refine (eqIntS_t _ _ _ _ _ _ hl0 ox0_7.cells oy0_7.cells).mono ?_
  rintro e w8 ⟨rfl, b8⟩
  have z8 : w7.heap.size ≤ w8.heap.size := b8.size
  have B8 : Below w.heap.size w w8 := Below.next B7 b8
  have ox0_8 := ox0_7.below b8
  have ox1_8 := ox1_7.below b8
  have oy0_8 := oy0_7.below b8
  go_wp2_with fail
  refine (toIntS_any _ _ _ _ hl1 (hc1.later B8)).mono ?_
  rintro e w9 ⟨Ay1, cy1, rfl, oy1_9, b9⟩
  have z9 : w8.heap.size ≤ w9.heap.size := b9.size
  have B9 : Below w.heap.size w w9 := Below.next B8 b9
  have ox0_9 := ox0_8.below b9
  have ox1_9 := ox1_8.below b9
  have ky1 := oy1_9.block
  go_wp2_with fail
  refine (eqIntS_t _ _ _ _ _ _ hl1 ox1_9.cells oy1_9.cells).mono ?_
  rintro e w10 ⟨rfl, b10⟩
  have z10 : w9.heap.size ≤ w10.heap.size := b10.size
  have B10 : Below w.heap.size w w10 := Below.next B9 b10
  have ox0_10 := ox0_9.below b10
  have ox1_10 := ox1_9.below b10
  have oy1_10 := oy1_9.below b10
  go_wp2_with fail
  go_ret
  exact ⟨rfl, B10⟩
end Go.Proofs.Ythbkonpclflkhaa
