/-
  Walk of the exact law on ParsePart (made by genppt.py).
-/
import Derived.Test.YtjhcbbafldflaaaDoorPpt
import Derived.Test.YtjhcbbafldflaaaDoorCB
namespace Go.Proofs.YtjhcbbafldflaaaDoor
open Go.RowKit
set_option maxRecDepth 100000 in
set_option maxHeartbeats 1000000 in
theorem walkParsePart (s0 : ByteArray) (w : World) (hs0 : s0.size ≤ maxLen) (hv : GV w) :
    Calls Tryd.prog 4 #[.string s0] w fun e w' => e = .returned (.bool true) ∧ Below w.heap.size w w' := by
  have := hs0
  clear this
  by_cases hbig : 1048576 < s0.size
  · go_enter Tryd.func4, Tryd.ntmps4
    go_wp2_with fail
    go_ret
    exact ⟨rfl, Below.refl _ _⟩
  have hs0l : s0.size ≤ 1048576 := by omega
  clear hbig
  go_enter Tryd.func4, Tryd.ntmps4
  have B0 : Below w.heap.size w w := Below.refl _ _
  have hlen := bound_ParsePart s0
  go_wp2_with fail
  refine (spec_ParsePart _ _ hs0l).mono ?_
  rintro e w1 ⟨Aw0, cw0, rfl, ow0_1, b1⟩
  have z1 : w.heap.size ≤ w1.heap.size := b1.size
  have B1 : Below w.heap.size w w1 := Below.next B0 b1
  have kw0 := ow0_1.block
  go_wp2_with fail
  refine (impl_ParsePart _ _ hs0l (hv.below B1)).mono ?_
  rintro e w2 ⟨Ag0, cg0, rfl, og0_2, b2⟩
  have z2 : w1.heap.size ≤ w2.heap.size := b2.size
  have B2 : Below w.heap.size w w2 := Below.next B1 b2
  have ow0_2 := ow0_1.below b2
  have kg0 := og0_2.block
  go_wp2_with fail
  refine (eqIntS_t _ _ _ _ _ _ hlen og0_2.cells ow0_2.cells).mono ?_
  rintro e w3 ⟨rfl, b3⟩
  have z3 : w2.heap.size ≤ w3.heap.size := b3.size
  have B3 : Below w.heap.size w w3 := Below.next B2 b3
  have ow0_3 := ow0_2.below b3
  have og0_3 := og0_2.below b3
  go_wp2_with fail
  refine (markIntS_any _ _ _ _ _ _ hlen (by omega) (by omega) og0_3).mono ?_
  rintro e w4 ⟨rfl, om4, gr4, -⟩
  have on4 := Only.of_grown gr4 kg0
  have z4 : w3.heap.size ≤ w4.heap.size := on4.size
  have B4 : Below w.heap.size w w4 := Below.only B3 on4 (by omega) B3.size
  have ow0_4 := ow0_3.only kw0 on4 (by omega)
  go_wp2_with fail
  refine (heldIntS_t _ _ _ _ _ hlen (by omega) (by omega) om4.cells).mono ?_
  rintro e w5 ⟨rfl, b5⟩
  have z5 : w4.heap.size ≤ w5.heap.size := b5.size
  have B5 : Below w.heap.size w w5 := Below.next B4 b5
  have ow0_5 := ow0_4.below b5
  have og0_5 := om4.below b5
  go_wp2_with fail
  refine (impl_ParsePart _ _ hs0l (hv.below B5)).mono ?_
  rintro e w6 ⟨Ah0, ch0, rfl, oh0_6, b6⟩
  have z6 : w5.heap.size ≤ w6.heap.size := b6.size
  have B6 : Below w.heap.size w w6 := Below.next B5 b6
  have ow0_6 := ow0_5.below b6
  have og0_6 := og0_5.below b6
  have kh0 := oh0_6.block
  go_wp2_with fail
  refine (eqIntS_t _ _ _ _ _ _ hlen oh0_6.cells ow0_6.cells).mono ?_
  rintro e w7 ⟨rfl, b7⟩
  have z7 : w6.heap.size ≤ w7.heap.size := b7.size
  have B7 : Below w.heap.size w w7 := Below.next B6 b7
  have ow0_7 := ow0_6.below b7
  have og0_7 := og0_6.below b7
  have oh0_7 := oh0_6.below b7
  go_wp2_with fail
  refine (heldIntS_t _ _ _ _ _ hlen (by omega) (by omega) og0_7.cells).mono ?_
  rintro e w8 ⟨rfl, b8⟩
  have z8 : w7.heap.size ≤ w8.heap.size := b8.size
  have B8 : Below w.heap.size w w8 := Below.next B7 b8
  have ow0_8 := ow0_7.below b8
  have og0_8 := og0_7.below b8
  have oh0_8 := oh0_7.below b8
  go_wp2_with fail
  go_ret
  exact ⟨rfl, B8⟩
end Go.Proofs.YtjhcbbafldflaaaDoor
