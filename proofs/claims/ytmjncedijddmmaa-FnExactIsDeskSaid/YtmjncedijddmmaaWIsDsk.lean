/-
  Walk of the exact law on IsDesk.
-/
import Derived.Test.YtmjncedijddmmaaDsk
import Derived.Deep.RegionHeld3
namespace Go.Proofs.Ytmjncedijddmmaa
open Go.RowKit

set_option maxRecDepth 100000 in
set_option maxHeartbeats 2000000 in
theorem walkIsDesk (r0 : Int) (A0 : Option Addr) (c0 : Nat) (xs0 : List Int) (w : World) (hc0 : Cells w A0 xs0) (hn0 : xs0.length ≤ 9223372036854775807) :
    Calls Try.prog 3 #[.agg #[.slice A0 xs0.length c0, .int .i64 r0]] w fun e w' => e = .returned (.bool true) ∧ Below w.heap.size w w' := by
  have B0 : Below w.heap.size w (w.alloc (.cells #[.slice A0 xs0.length c0, .int .i64 r0] 24)) := (Below.refl _ _).alloc (Nat.le_refl _) _
  have x0 := Box2.new w 24 (.slice A0 xs0.length c0) (.int .i64 r0)
  by_cases hbig : xs0.length ≤ 1048576
  case neg =>
    go_enter Try.func3, Try.ntmps3
    go_wp2_with fail
    refine (szDesk_any _ _ _ _ _ hn0).mono ?_
    rw [if_neg hbig]
    rintro e w1 ⟨rfl, b1⟩
    go_wp2_with fail
    go_ret
    exact ⟨rfl, Below.next B0 b1⟩
  go_enter Try.func3, Try.ntmps3
  go_wp2_with fail
  refine (szDesk_any _ _ _ _ _ hn0).mono ?_
  rw [if_pos hbig]
  rintro e w1 ⟨rfl, b1⟩
  have B1 := Below.next B0 b1
  have x1 := x0.next b1
  have p1 := x1.cell0
  have q1 := x1.cell1
  go_wp2_with fail
  refine (toDesk_any _ _ _ _ _ hbig (hc0.later B1)).mono ?_
  rintro e w2 ⟨A2, c2, rfl, o2, b2⟩
  have B2 := Below.next B1 b2
  have x2 := x1.next b2
  have p2 := x2.cell0
  have q2 := x2.cell1
  clear p1 q1
  go_wp2_with fail
  refine (spec_IsDesk _ _ _ _ _ hbig o2.cells).mono ?_
  rintro e w3 ⟨rfl, b3⟩
  have B3 := Below.next B2 b3
  have x3 := x2.next b3
  have p3 := x3.cell0
  have q3 := x3.cell1
  clear p2 q2
  go_wp2_with fail
  refine (toDesk_any _ _ _ _ _ hbig (hc0.later B3)).mono ?_
  rintro e w4 ⟨A4, c4, rfl, o4, b4⟩
  have B4 := Below.next B3 b4
  have x4 := x3.next b4
  clear p3 q3
  go_wp2_with fail
  obtain ⟨w5, hw5⟩ : ∃ w5, w5 = w4.alloc (.cells #[.slice A4 xs0.length c4, .int .i64 r0] 27) := ⟨_, rfl⟩
  have b5 : Below w4.heap.size w4 w5 := by rw [hw5]; exact (Below.refl _ _).alloc (Nat.le_refl _) _
  have y5 : Box2 w5 w4.heap.size 27 (.slice A4 xs0.length c4) (.int .i64 r0) := by rw [hw5]; exact Box2.new _ _ _ _
  rw [← hw5]
  clear hw5
  have B5 := Below.next B4 b5
  have x5 := x4.next b5
  have o5 := o4.below b5
  refine (impl_IsDesk _ _ _ _ _ hbig o5.cells).mono ?_
  rintro e w6 ⟨rfl, b6⟩
  have B6 := Below.next B5 b6
  have x6 := x5.next b6
  have y6 := y5.next b6
  have o6 := o5.below b6
  have p6 := x6.cell0
  have q6 := x6.cell1
  have s6 := y6.cell0
  have t6 := y6.cell1
  clear x5 x4 x3 x2 x1 x0 b1 b2 b3 b4 b5 b6 o2 o4 o5 y5
  have x6d : Box2 w6.drew w.heap.size 24 (.slice A0 xs0.length c0) (.int .i64 r0) := x6
  have y6d : Box2 w6.drew w4.heap.size 27 (.slice A4 xs0.length c4) (.int .i64 r0) := y6
  have o6d : Own w6.drew w3.heap.size A4 c4 xs0 := o6
  go_wp2_with fail
  go_region_held3 (fun w' => w'.cell? ⟨w4.heap.size, 0, none⟩ = some (.slice A4 xs0.length c4) ∧ w'.cell? ⟨w4.heap.size, 1, none⟩ = some (.int .i64 r0) ∧ w'.cell? ⟨w.heap.size, 0, none⟩ = some (.slice A0 xs0.length c0) ∧ w'.cell? ⟨w.heap.size, 1, none⟩ = some (.int .i64 r0)) (first | exact ⟨s6, t6, p6, q6⟩ | exact ⟨y7.cell0, y7.cell1, x7.cell0, x7.cell1⟩ | exact ⟨y8.cell0, y8.cell1, x8.cell0, x8.cell1⟩) (first | (go_at_call 11; refine (toDesk_any _ _ _ _ _ hbig (hc0.later (below_drewN B6 1))).mono ?_; rintro e w7 ⟨A7, c7, rfl, o7, b7⟩; have x7 := x6d.next b7; have y7 := y6d.next b7; have o7' := o6d.below b7) | (go_at_call 13; refine (eqDesk_t _ _ _ _ _ _ _ hbig o7'.cells o7.cells).mono ?_; rintro e w8 ⟨rfl, b8⟩; have x8 := x7.next b8; have y8 := y7.next b8))
  go_wp2_with fail
  go_ret
  exact ⟨rfl, Below.next (Below.next (below_drewN B6 1) b7) b8⟩
end Go.Proofs.Ytmjncedijddmmaa
