/-
  Walks of the exact laws on AbacusText (made by genlaw2.py).
-/
import Derived.Test.YtjhcbbafldflaaaDoorAbt
import Derived.Test.YtjhcbbafldflaaaDoorCB
import Derived.Deep.RegionHeld3
namespace Go.Proofs.YtjhcbbafldflaaaDoor
open Go.RowKit
set_option maxRecDepth 100000 in
set_option maxHeartbeats 2000000 in
theorem walkAbacusText (rr0 : Int) (A0 : Option Addr) (c0 : Nat) (xs0 : List Int) (w : World) (hc0 : Cells w A0 xs0) (hn0 : xs0.length ≤ 9223372036854775807) :
    Calls Tryd.prog 5 #[.agg #[.int .i64 rr0, .slice A0 xs0.length c0]] w fun e w' => e = .returned (.bool true) ∧ Below w.heap.size w w' := by
  have B0 : Below w.heap.size w w := Below.refl _ _
  by_cases hl0 : xs0.length ≤ 1048576
  case neg =>
    have b0 : Below w.heap.size w (w.alloc (.cells #[.int .i64 rr0, .slice A0 xs0.length c0] 33)) := (Below.refl _ _).alloc (Nat.le_refl _) _
    go_enter Tryd.func5, Tryd.ntmps5
    go_wp2_with fail
    refine (szAbacus_any _ _ _ _ _ hn0).mono ?_
    rw [if_neg hl0]
    rintro e w1 ⟨rfl, b1⟩
    go_wp2_with fail
    go_ret
    exact ⟨rfl, Below.next b0 b1⟩
  go_enter Tryd.func5, Tryd.ntmps5
  go_wp2_with fail
  obtain ⟨w1, hw1⟩ : ∃ w', w' = w.alloc (.cells #[.int .i64 rr0, .slice A0 xs0.length c0] 33) := ⟨_, rfl⟩
  have b1 : Below w.heap.size w w1 := by rw [hw1]; exact (Below.refl _ _).alloc (Nat.le_refl _) _
  have z1 : w.heap.size + 1 = w1.heap.size := by rw [hw1]; simp
  have B1 : Below w.heap.size w w1 := Below.next B0 b1
  have xaa_1 : Box2 w1 w.heap.size 33 (.int .i64 rr0) (.slice A0 xs0.length c0) := by rw [hw1]; exact Box2.new _ _ _ _
  rw [← hw1]
  clear hw1
  refine (szAbacus_any _ _ _ _ _ hn0).mono ?_
  rw [if_pos hl0]
  rintro e w2 ⟨rfl, b2⟩
  have z2 : w1.heap.size ≤ w2.heap.size := b2.size
  have B2 : Below w.heap.size w w2 := Below.next B1 b2
  have xaa_2 := xaa_1.next b2
  have paa := xaa_2.cell0
  have qaa := xaa_2.cell1
  go_wp2_with fail
  clear paa qaa
  refine (toAbacus_any _ _ _ _ _ hl0 (hc0.later B2)).mono ?_
  rintro e w3 ⟨At0, ct0, rfl, ot0_3, b3⟩
  have z3 : w2.heap.size ≤ w3.heap.size := b3.size
  have B3 : Below w.heap.size w w3 := Below.next B2 b3
  have xaa_3 := xaa_2.next b3
  have kt0 := ot0_3.block
  have paa := xaa_3.cell0
  have qaa := xaa_3.cell1
  go_wp2_with fail
  clear paa qaa
  refine (spec_AbacusText _ _ _ _ _ hl0 ot0_3.cells).mono ?_
  rintro e w4 ⟨rfl, b4⟩
  have z4 : w3.heap.size ≤ w4.heap.size := b4.size
  have B4 : Below w.heap.size w w4 := Below.next B3 b4
  have ot0_4 := ot0_3.below b4
  have xaa_4 := xaa_3.next b4
  have paa := xaa_4.cell0
  have qaa := xaa_4.cell1
  go_wp2_with fail
  clear paa qaa
  refine (toAbacus_any _ _ _ _ _ hl0 (hc0.later B4)).mono ?_
  rintro e w5 ⟨Ax0, cx0, rfl, ox0_5, b5⟩
  have z5 : w4.heap.size ≤ w5.heap.size := b5.size
  have B5 : Below w.heap.size w w5 := Below.next B4 b5
  have xaa_5 := xaa_4.next b5
  have kx0 := ox0_5.block
  have paa := xaa_5.cell0
  have qaa := xaa_5.cell1
  have pbaa := (xaa_5.alloc (.cells #[.int .i64 rr0, .slice Ax0 xs0.length cx0] 36)).cell0
  have qbaa := (xaa_5.alloc (.cells #[.int .i64 rr0, .slice Ax0 xs0.length cx0] 36)).cell1
  go_wp2_with fail
  clear paa qaa pbaa qbaa
  obtain ⟨w6, hw6⟩ : ∃ w', w' = w5.alloc (.cells #[.int .i64 rr0, .slice Ax0 xs0.length cx0] 36) := ⟨_, rfl⟩
  have b6 : Below w5.heap.size w5 w6 := by rw [hw6]; exact (Below.refl _ _).alloc (Nat.le_refl _) _
  have z6 : w5.heap.size + 1 = w6.heap.size := by rw [hw6]; simp
  have B6 : Below w.heap.size w w6 := Below.next B5 b6
  have ox0_6 := ox0_5.below b6
  have xaa_6 := xaa_5.next b6
  have xx0_6 : Box2 w6 w5.heap.size 36 (.int .i64 rr0) (.slice Ax0 xs0.length cx0) := by rw [hw6]; exact Box2.new _ _ _ _
  rw [← hw6]
  clear hw6
  refine (impl_AbacusText _ _ _ _ _ hl0 ox0_6.cells).mono ?_
  rintro e w7 ⟨rfl, b7⟩
  have z7 : w6.heap.size ≤ w7.heap.size := b7.size
  have B7 : Below w.heap.size w w7 := Below.next B6 b7
  have ox0_7 := ox0_6.below b7
  have xaa_7 := xaa_6.next b7
  have xx0_7 := xx0_6.next b7
  have xd1 : Box2 w7.drew w5.heap.size 36 (.int .i64 rr0) (.slice Ax0 xs0.length cx0) := xx0_7
  have xd2 : Box2 w7.drew w.heap.size 33 (.int .i64 rr0) (.slice A0 xs0.length c0) := xaa_7
  have od : Own w7.drew _ Ax0 cx0 xs0 := ox0_7
  have paa := xaa_7.cell0
  have qaa := xaa_7.cell1
  have px0 := xx0_7.cell0
  have qx0 := xx0_7.cell1
  go_wp2_with fail
  go_region_held3 (fun w' => w'.cell? ⟨w5.heap.size, 0, none⟩ = some (.int .i64 rr0) ∧ w'.cell? ⟨w5.heap.size, 1, none⟩ = some (.slice Ax0 xs0.length cx0) ∧ w'.cell? ⟨w.heap.size, 0, none⟩ = some (.int .i64 rr0) ∧ w'.cell? ⟨w.heap.size, 1, none⟩ = some (.slice A0 xs0.length c0)) (first | exact ⟨px0, qx0, paa, qaa⟩ | exact ⟨xe1.cell0, xe1.cell1, xe2.cell0, xe2.cell1⟩ | exact ⟨xf1.cell0, xf1.cell1, xf2.cell0, xf2.cell1⟩) (first | (go_at_call 17; refine (toAbacus_any _ _ _ _ _ hl0 (hc0.later (below_drewN B7 1))).mono ?_; rintro e w8 ⟨Ay, cy, rfl, oy, b8⟩; have xe1 := xd1.next b8; have xe2 := xd2.next b8; have oe := od.below b8) | (go_at_call 19; refine (eqAbacus_t _ _ _ _ _ _ _ hl0 oe.cells oy.cells).mono ?_; rintro e w9 ⟨rfl, b9⟩; have xf1 := xe1.next b9; have xf2 := xe2.next b9))
  clear paa qaa px0 qx0
  have bd : Below w7.heap.size w7 w7.drew := below_drew' w7 1
  have z8 : w7.heap.size ≤ w8.heap.size := b8.size
  have z9 : w8.heap.size ≤ w9.heap.size := b9.size
  have B8 : Below w.heap.size w w8 := Below.next (below_drewN B7 1) b8
  have B9 : Below w.heap.size w w9 := Below.next B8 b9
  have ox0_9 := ((ox0_7.below bd).below b8).below b9
  have xaa_9 := ((xaa_7.next bd).next b8).next b9
  have xx0_9 := ((xx0_7.next bd).next b8).next b9
  have paa := xaa_9.cell0
  have qaa := xaa_9.cell1
  have px0 := xx0_9.cell0
  have qx0 := xx0_9.cell1
  go_wp2_with fail
  go_ret
  exact ⟨rfl, B9⟩
end Go.Proofs.YtjhcbbafldflaaaDoor
