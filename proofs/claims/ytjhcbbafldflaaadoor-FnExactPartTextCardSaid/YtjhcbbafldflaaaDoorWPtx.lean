/-
  Walks of the exact laws on PartText (made by genlaw.py).
-/
import Derived.Test.YtjhcbbafldflaaaDoorPtx
import Derived.Test.YtjhcbbafldflaaaDoorCB
namespace Go.Proofs.YtjhcbbafldflaaaDoor
open Go.RowKit
set_option maxRecDepth 100000 in
set_option maxHeartbeats 1000000 in
theorem walkPartText (A0 : Option Addr) (c0 : Nat) (xs0 : List Int) (w : World) (hc0 : Cells w A0 xs0) :
    Calls Tryd.prog 3 #[.slice A0 xs0.length c0] w fun e w' => e = .returned (.bool true) ∧ Below w.heap.size w w' := by
  by_cases hbig : 1048576 < xs0.length
  · go_enter Tryd.func3, Tryd.ntmps3
    go_wp2_with fail
    go_ret
    exact ⟨rfl, Below.refl _ _⟩
  have hl0 : xs0.length ≤ 1048576 := by omega
  clear hbig
  go_enter Tryd.func3, Tryd.ntmps3
  have B0 : Below w.heap.size w w := Below.refl _ _
  go_wp2_with fail
  refine (toIntS_any _ _ _ _ hl0 (hc0.later B0)).mono ?_
  rintro e w1 ⟨At0, ct0, rfl, ot0_1, b1⟩
  have z1 : w.heap.size ≤ w1.heap.size := b1.size
  have B1 : Below w.heap.size w w1 := Below.next B0 b1
  have kt0 := ot0_1.block
  go_wp2_with fail
  refine (spec_PartText _ _ _ _ hl0 ot0_1.cells).mono ?_
  rintro e w2 ⟨rfl, b2⟩
  have z2 : w1.heap.size ≤ w2.heap.size := b2.size
  have B2 : Below w.heap.size w w2 := Below.next B1 b2
  have ot0_2 := ot0_1.below b2
  go_wp2_with fail
  refine (toIntS_any _ _ _ _ hl0 (hc0.later B2)).mono ?_
  rintro e w3 ⟨Ax0, cx0, rfl, ox0_3, b3⟩
  have z3 : w2.heap.size ≤ w3.heap.size := b3.size
  have B3 : Below w.heap.size w w3 := Below.next B2 b3
  have kx0 := ox0_3.block
  go_wp2_with fail
  refine (impl_PartText _ _ _ _ hl0 ox0_3.cells).mono ?_
  rintro e w4 ⟨rfl, b4⟩
  have z4 : w3.heap.size ≤ w4.heap.size := b4.size
  have B4 : Below w.heap.size w w4 := Below.next B3 b4
  have ox0_4 := ox0_3.below b4
  go_wp2_with fail
  refine (toIntS_any _ _ _ _ hl0 (hc0.later B4)).mono ?_
  rintro e w5 ⟨Ay0, cy0, rfl, oy0_5, b5⟩
  have z5 : w4.heap.size ≤ w5.heap.size := b5.size
  have B5 : Below w.heap.size w w5 := Below.next B4 b5
  have ox0_5 := ox0_4.below b5
  have ky0 := oy0_5.block
  go_wp2_with fail
  refine (eqIntS_t _ _ _ _ _ _ hl0 ox0_5.cells oy0_5.cells).mono ?_
  rintro e w6 ⟨rfl, b6⟩
  have z6 : w5.heap.size ≤ w6.heap.size := b6.size
  have B6 : Below w.heap.size w w6 := Below.next B5 b6
  have ox0_6 := ox0_5.below b6
  have oy0_6 := oy0_5.below b6
  go_wp2_with fail
  go_ret
  exact ⟨rfl, B6⟩
end Go.Proofs.YtjhcbbafldflaaaDoor
