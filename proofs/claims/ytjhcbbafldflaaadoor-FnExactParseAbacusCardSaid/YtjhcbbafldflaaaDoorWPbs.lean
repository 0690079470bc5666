/-
  Walk of the exact law on ParseAbacus (made by genpabw.py).
-/
import Derived.Test.YtjhcbbafldflaaaDoorPbs
import Derived.Test.YtjhcbbafldflaaaDoorCB
import Derived.Deep.RegionHeld3
namespace Go.Proofs.YtjhcbbafldflaaaDoor
open Go.RowKit
theorem bound_ParseAbacus (s : ByteArray) : (paF s).length ≤ 1048576 := by
  unfold paF
  split
  · rename_i h
    unfold paB at h
    simp only [Bool.and_eq_true] at h
    have h2 := h.2.1
    simp only [isAba, Bool.and_eq_true] at h2
    have := (goodB_iff.1 h2.2).len
    omega
  · simp
set_option maxRecDepth 100000 in
set_option maxHeartbeats 2000000 in
theorem walkParseAbacus (s0 : ByteArray) (w : World) (hs0 : s0.size ≤ maxLen) (hv : GV w) :
    Calls Tryd.prog 6 #[.string s0] w fun e w' => e = .returned (.bool true) ∧ Below w.heap.size w w' := by
  have := hs0
  clear this
  by_cases hbig : 1048576 < s0.size
  · go_enter Tryd.func6, Tryd.ntmps6
    go_wp2_with fail
    go_ret
    exact ⟨rfl, Below.refl _ _⟩
  have hs0l : s0.size ≤ 1048576 := by omega
  clear hbig
  have B0 : Below w.heap.size w w := Below.refl _ _
  have hlen := bound_ParseAbacus s0
  go_enter Tryd.func6, Tryd.ntmps6
  go_wp2_with fail
  refine (spec_ParseAbacus _ _ hs0l).mono ?_
  rintro e w1 ⟨Aw0, cw0, rfl, ow0_1, b1⟩
  have z1 : w.heap.size ≤ w1.heap.size := b1.size
  have B1 : Below w.heap.size w w1 := Below.next B0 b1
  have kw0 := ow0_1.block
  go_wp2_with fail
  obtain ⟨w2, hw2⟩ : ∃ w', w' = w1.alloc (.cells #[.int .i64 (paT s0), .slice Aw0 (paF s0).length cw0] 36) := ⟨_, rfl⟩
  have b2 : Below w1.heap.size w1 w2 := by rw [hw2]; exact (Below.refl _ _).alloc (Nat.le_refl _) _
  have z2 : w1.heap.size + 1 = w2.heap.size := by rw [hw2]; simp
  have B2 : Below w.heap.size w w2 := Below.next B1 b2
  have ow0_2 := ow0_1.below b2
  have xw0_2 : Box2 w2 w1.heap.size 36 (.int .i64 (paT s0)) (.slice Aw0 (paF s0).length cw0) := by rw [hw2]; exact Box2.new _ _ _ _
  rw [← hw2]
  clear hw2
  refine (impl_ParseAbacus _ _ hs0l (hv.below B2)).mono ?_
  rintro e w3 ⟨Ag0, cg0, rfl, og0_3, b3⟩
  have z3 : w2.heap.size ≤ w3.heap.size := b3.size
  have B3 : Below w.heap.size w w3 := Below.next B2 b3
  have ow0_3 := ow0_2.below b3
  have xw0_3 := xw0_2.next b3
  have kg0 := og0_3.block
  have pw0 := xw0_3.cell0
  have qw0 := xw0_3.cell1
  have pbw0 := (xw0_3.alloc (.cells #[.int .i64 (paT s0), .slice Ag0 (paF s0).length cg0] 36)).cell0
  have qbw0 := (xw0_3.alloc (.cells #[.int .i64 (paT s0), .slice Ag0 (paF s0).length cg0] 36)).cell1
  go_wp2_with fail
  clear pw0 qw0 pbw0 qbw0
  obtain ⟨w4, hw4⟩ : ∃ w', w' = w3.alloc (.cells #[.int .i64 (paT s0), .slice Ag0 (paF s0).length cg0] 36) := ⟨_, rfl⟩
  have b4 : Below w3.heap.size w3 w4 := by rw [hw4]; exact (Below.refl _ _).alloc (Nat.le_refl _) _
  have z4 : w3.heap.size + 1 = w4.heap.size := by rw [hw4]; simp
  have B4 : Below w.heap.size w w4 := Below.next B3 b4
  have ow0_4 := ow0_3.below b4
  have og0_4 := og0_3.below b4
  have xw0_4 := xw0_3.next b4
  have xg0_4 : Box2 w4 w3.heap.size 36 (.int .i64 (paT s0)) (.slice Ag0 (paF s0).length cg0) := by rw [hw4]; exact Box2.new _ _ _ _
  rw [← hw4]
  clear hw4
  refine (eqAbacus_t _ _ _ _ _ _ _ hlen og0_4.cells ow0_4.cells).mono ?_
  rintro e w5 ⟨rfl, b5⟩
  have z5 : w4.heap.size ≤ w5.heap.size := b5.size
  have B5 : Below w.heap.size w w5 := Below.next B4 b5
  have ow0_5 := ow0_4.below b5
  have og0_5 := og0_4.below b5
  have xw0_5 := xw0_4.next b5
  have xg0_5 := xg0_4.next b5
  have pw0 := xw0_5.cell0
  have qw0 := xw0_5.cell1
  have pg0 := xg0_5.cell0
  have qg0 := xg0_5.cell1
  go_wp2_with fail
  clear pw0 qw0 pg0 qg0
  refine (markAbacus_any _ _ _ _ _ _ _ _ hlen (by omega) (by omega) og0_5 kg0).mono ?_
  rintro e w6 ⟨rfl, om6, on6⟩
  have z6 : w5.heap.size ≤ w6.heap.size := on6.size
  have B6 : Below w.heap.size w w6 := Below.only B5 on6 (by omega) B5.size
  have ow0_6 := ow0_5.only kw0 on6 (by omega)
  have xw0_6 := xw0_5.only on6.block (by omega)
  have xg0_6 := xg0_5.only on6.block (by omega)
  have pw0 := xw0_6.cell0
  have qw0 := xw0_6.cell1
  have pg0 := xg0_6.cell0
  have qg0 := xg0_6.cell1
  go_wp2_with fail
  clear pw0 qw0 pg0 qg0
  refine (heldAbacus_t _ _ _ _ _ _ hlen (by omega) (by omega) om6.cells).mono ?_
  rintro e w7 ⟨rfl, b7⟩
  have z7 : w6.heap.size ≤ w7.heap.size := b7.size
  have B7 : Below w.heap.size w w7 := Below.next B6 b7
  have ow0_7 := ow0_6.below b7
  have og0_7 := om6.below b7
  have xw0_7 := xw0_6.next b7
  have xg0_7 := xg0_6.next b7
  have pw0 := xw0_7.cell0
  have qw0 := xw0_7.cell1
  have pg0 := xg0_7.cell0
  have qg0 := xg0_7.cell1
  go_wp2_with fail
  clear pw0 qw0 pg0 qg0
  refine (impl_ParseAbacus _ _ hs0l (hv.below B7)).mono ?_
  rintro e w8 ⟨Ah0, ch0, rfl, oh0_8, b8⟩
  have z8 : w7.heap.size ≤ w8.heap.size := b8.size
  have B8 : Below w.heap.size w w8 := Below.next B7 b8
  have ow0_8 := ow0_7.below b8
  have og0_8 := og0_7.below b8
  have xw0_8 := xw0_7.next b8
  have xg0_8 := xg0_7.next b8
  have kh0 := oh0_8.block
  have pw0 := xw0_8.cell0
  have qw0 := xw0_8.cell1
  have pg0 := xg0_8.cell0
  have qg0 := xg0_8.cell1
  have pbw0 := (xw0_8.alloc (.cells #[.int .i64 (paT s0), .slice Ah0 (paF s0).length ch0] 36)).cell0
  have qbw0 := (xw0_8.alloc (.cells #[.int .i64 (paT s0), .slice Ah0 (paF s0).length ch0] 36)).cell1
  have pbg0 := (xg0_8.alloc (.cells #[.int .i64 (paT s0), .slice Ah0 (paF s0).length ch0] 36)).cell0
  have qbg0 := (xg0_8.alloc (.cells #[.int .i64 (paT s0), .slice Ah0 (paF s0).length ch0] 36)).cell1
  go_wp2_with fail
  clear pw0 qw0 pg0 qg0 pbw0 qbw0 pbg0 qbg0
  obtain ⟨w9, hw9⟩ : ∃ w', w' = w8.alloc (.cells #[.int .i64 (paT s0), .slice Ah0 (paF s0).length ch0] 36) := ⟨_, rfl⟩
  have b9 : Below w8.heap.size w8 w9 := by rw [hw9]; exact (Below.refl _ _).alloc (Nat.le_refl _) _
  have z9 : w8.heap.size + 1 = w9.heap.size := by rw [hw9]; simp
  have B9 : Below w.heap.size w w9 := Below.next B8 b9
  have ow0_9 := ow0_8.below b9
  have og0_9 := og0_8.below b9
  have oh0_9 := oh0_8.below b9
  have xw0_9 := xw0_8.next b9
  have xg0_9 := xg0_8.next b9
  have xh0_9 : Box2 w9 w8.heap.size 36 (.int .i64 (paT s0)) (.slice Ah0 (paF s0).length ch0) := by rw [hw9]; exact Box2.new _ _ _ _
  rw [← hw9]
  clear hw9
  refine (eqAbacus_t _ _ _ _ _ _ _ hlen oh0_9.cells ow0_9.cells).mono ?_
  rintro e w10 ⟨rfl, b10⟩
  have z10 : w9.heap.size ≤ w10.heap.size := b10.size
  have B10 : Below w.heap.size w w10 := Below.next B9 b10
  have ow0_10 := ow0_9.below b10
  have og0_10 := og0_9.below b10
  have oh0_10 := oh0_9.below b10
  have xw0_10 := xw0_9.next b10
  have xg0_10 := xg0_9.next b10
  have xh0_10 := xh0_9.next b10
  have pw0 := xw0_10.cell0
  have qw0 := xw0_10.cell1
  have pg0 := xg0_10.cell0
  have qg0 := xg0_10.cell1
  have ph0 := xh0_10.cell0
  have qh0 := xh0_10.cell1
  go_wp2_with fail
  clear pw0 qw0 pg0 qg0 ph0 qh0
  refine (heldAbacus_t _ _ _ _ _ _ hlen (by omega) (by omega) og0_10.cells).mono ?_
  rintro e w11 ⟨rfl, b11⟩
  have z11 : w10.heap.size ≤ w11.heap.size := b11.size
  have B11 : Below w.heap.size w w11 := Below.next B10 b11
  have ow0_11 := ow0_10.below b11
  have og0_11 := og0_10.below b11
  have oh0_11 := oh0_10.below b11
  have xw0_11 := xw0_10.next b11
  have xg0_11 := xg0_10.next b11
  have xh0_11 := xh0_10.next b11
  have pw0 := xw0_11.cell0
  have qw0 := xw0_11.cell1
  have pg0 := xg0_11.cell0
  have qg0 := xg0_11.cell1
  have ph0 := xh0_11.cell0
  have qh0 := xh0_11.cell1
  go_wp2_with fail
  go_ret
  exact ⟨rfl, B11⟩
end Go.Proofs.YtjhcbbafldflaaaDoor
