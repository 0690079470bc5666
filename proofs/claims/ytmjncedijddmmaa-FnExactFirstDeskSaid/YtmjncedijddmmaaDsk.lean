/-
  Contracts: the laws' helpers that copy, compare, mark and ask a desk; IsDesk and FirstDesk.
-/
import Derived.Test.YtmjncedijddmmaaCC
import Derived.Test.YtmjncedijddmmaaCB
namespace Go.Proofs.Ytmjncedijddmmaa
open Go.RowKit

set_option maxHeartbeats 1000000 in
theorem toDesk_any (r : Int) (A : Option Addr) (c : Nat) (xs : List Int) (w : World) (hl : xs.length ≤ 1048576) (hc : Cells w A xs) :
    Calls Try.prog 11 #[.agg #[.slice A xs.length c, .int .i64 r]] w fun e w' => ∃ A' c', e = .returned (.agg #[.slice A' xs.length c', .int .i64 r]) ∧ Own w' w.heap.size A' c' xs ∧ Below w.heap.size w w' := by
  go_enter Try.func11, Try.ntmps11
  have y0 := ((Box2.new w 24 (.slice A xs.length c) (.int .i64 r)).alloc (.cells #[.slice none 0 0, .int .i64 0] 27)).alloc (.cells #[.slice none 0 0, .int .i64 0] 27)
  have y1 := (Box2.new (w.alloc (.cells #[.slice A xs.length c, .int .i64 r] 24)) 27 (.slice none 0 0) (.int .i64 0)).alloc (.cells #[.slice none 0 0, .int .i64 0] 27)
  have y2 := Box2.new ((w.alloc (.cells #[.slice A xs.length c, .int .i64 r] 24)).alloc (.cells #[.slice none 0 0, .int .i64 0] 27)) 27 (.slice none 0 0) (.int .i64 0)
  have hb : Below w.heap.size w (((w.alloc (.cells #[.slice A xs.length c, .int .i64 r] 24)).alloc (.cells #[.slice none 0 0, .int .i64 0] 27)).alloc (.cells #[.slice none 0 0, .int .i64 0] 27)) := (((Below.refl _ _).alloc (Nat.le_refl _) _).alloc (by simp) _).alloc (by simp; omega) _
  go_wp2_with fail
  refine (toIntS_any _ _ _ _ hl (hc.below hb)).mono ?_
  rintro e w1 ⟨A1, c1, rfl, o1, b1⟩
  have x0 := y0.next b1
  have x1 := y1.next b1
  have x2 := y2.next b1
  rw [World.size_alloc] at x1 x2
  rw [World.size_alloc] at x2
  clear y0 y1 y2
  have e1 := x0.cell1
  have f0 := x2.cell0
  have f1 := x2.froz 0
  have x2' := x2.set0 (.slice A1 xs.length c1)
  have x0' := x0.other (g' := w.heap.size + 1 + 1) (k := 0) (by omega) (.slice A1 xs.length c1)
  have e2 := x0'.cell1
  have g2 := x2'.cell1
  have f2 := x2'.froz 1
  have x2'' := x2'.set1 (.int .i64 r)
  have f3 := x2''.cell0
  have f4 := x2''.cell1
  have x1' := (x1.other (g' := w.heap.size + 1 + 1) (k := 0) (by omega) (.slice A1 xs.length c1)).other (g' := w.heap.size + 1 + 1) (k := 1) (by omega) (.int .i64 r)
  have f5 := x1'.cell0
  have f6 := x1'.froz 0
  have x1'' := x1'.set0 (.slice A1 xs.length c1)
  have f7 := x1''.cell1
  have f8 := x1''.froz 1
  have x1f := x1''.set1 (.int .i64 r)
  have hb1 := Below.next hb b1
  have hok := o1.block
  go_wp2_with fail
  refine bodyPost_ret (v := .agg #[.slice A1 xs.length c1, .int .i64 r]) ?_ rfl ⟨A1, c1, rfl, (o1.keep fun b hbk _ => ?_).more (by simp; omega), (((hb1.setCell (by simp; omega) _).setCell (by simp; omega) _).setCell (by simp) _).setCell (by simp) _⟩
  · exact results_cell_row rfl _ _ (w.heap.size + 1) 27 #[.slice A1 xs.length c1, .int .i64 r] (0, 0) _ rfl x1f Try.underlying27 rfl (by kernel_rfl)
  · have := (hok b hbk).1
    simp at this
    exact (((Below.heap_setCell _ _ _ b (by simp; omega)).trans (Below.heap_setCell _ _ _ b (by simp; omega))).trans (Below.heap_setCell _ _ _ b (by simp; omega))).trans (Below.heap_setCell _ _ _ b (by simp; omega))

set_option maxHeartbeats 400000 in
theorem szDesk_any (r : Int) (A : Option Addr) (n c : Nat) (w : World) (hn : n ≤ 9223372036854775807) :
    Calls Try.prog 9 #[.agg #[.slice A n c, .int .i64 r], .int .i64 1048576] w fun e w' => e = .returned (.int .i64 (if n ≤ 1048576 then (1048576 : Int) - n else -1)) ∧ Below w.heap.size w w' := by
  have hb : Below w.heap.size w (w.alloc (.cells #[.slice A n c, .int .i64 r] 24)) := (Below.refl _ _).alloc (Nat.le_refl _) _
  by_cases h : n ≤ 1048576
  · rw [if_pos h]
    go_enter Try.func9, Try.ntmps9
    go_wp2_with (go_at_call 35; refine (szIntS_any A n c _ hn).mono ?_; rw [if_pos h]; rintro e w' ⟨rfl, rfl⟩)
    go_ret
    exact ⟨rfl, hb⟩
  · rw [if_neg h]
    go_enter Try.func9, Try.ntmps9
    go_wp2_with (go_at_call 35; refine (szIntS_any A n c _ hn).mono ?_; rw [if_neg h]; rintro e w' ⟨rfl, rfl⟩)
    go_ret
    exact ⟨rfl, hb⟩

set_option maxHeartbeats 400000 in
theorem eqDesk_t (r : Int) (A B : Option Addr) (c d : Nat) (xs : List Int) (w : World) (hl : xs.length ≤ 1048576) (hA : Cells w A xs) (hB : Cells w B xs) :
    Calls Try.prog 13 #[.agg #[.slice A xs.length c, .int .i64 r], .agg #[.slice B xs.length d, .int .i64 r]] w fun e w' => e = .returned (.bool true) ∧ Below w.heap.size w w' := by
  have hb : Below w.heap.size w ((w.alloc (.cells #[.slice A xs.length c, .int .i64 r] 27)).alloc (.cells #[.slice B xs.length d, .int .i64 r] 27)) := ((Below.refl _ _).alloc (Nat.le_refl _) _).alloc (by simp) _
  have y1 := (Box2.new w 27 (.slice A xs.length c) (.int .i64 r)).alloc (.cells #[.slice B xs.length d, .int .i64 r] 27)
  have y2 := Box2.new (w.alloc (.cells #[.slice A xs.length c, .int .i64 r] 27)) 27 (.slice B xs.length d) (.int .i64 r)
  go_enter Try.func13, Try.ntmps13
  go_wp2_with fail
  refine (eqIntS_t _ _ _ _ _ _ hl (hA.below hb) (hB.below hb)).mono ?_
  rintro e w' ⟨rfl, b1⟩
  have x1 := (y1.next b1).cell1
  have x2 := (y2.next b1).cell1
  rw [World.size_alloc] at x2
  go_wp2_with fail
  go_ret
  exact ⟨rfl, Below.next hb b1⟩

set_option maxHeartbeats 400000 in
theorem heldDesk_t (r : Int) (A : Option Addr) (c : Nat) (n : Nat) (q : Int) (w : World) (hl : n ≤ 1048576) (hq0 : 0 ≤ q) (hq : q ≤ 1000000000000) (hA : Cells w A (marks q n)) :
    Calls Try.prog 17 #[.agg #[.slice A n c, .int .i64 r], .int .i64 q] w fun e w' => e = .returned (.int .i64 (q + n)) ∧ Below w.heap.size w w' := by
  have hb : Below w.heap.size w (w.alloc (.cells #[.slice A n c, .int .i64 r] 27)) := (Below.refl _ _).alloc (Nat.le_refl _) _
  go_enter Try.func17, Try.ntmps17
  go_wp2_with (go_at_call 32; refine (heldIntS_t _ _ _ _ _ hl hq0 hq (hA.below hb)).mono ?_; rintro e w' ⟨rfl, b1⟩)
  go_ret
  exact ⟨rfl, Below.next hb b1⟩

set_option maxHeartbeats 400000 in
theorem markDesk_any (B S : Nat) (r : Int) (A : Option Addr) (c : Nat) (xs : List Int) (q : Int) (w : World) (hl : xs.length ≤ 1048576) (hq0 : 0 ≤ q) (hq : q ≤ 1000000000000) (hA : Own w B A c xs) (hk : ∀ b, A.map Addr.block = some b → B ≤ b ∧ b < S) :
    Calls Try.prog 16 #[.agg #[.slice A xs.length c, .int .i64 r], .int .i64 q] w fun e w' => e = .returned (.int .i64 (q + xs.length)) ∧ Own w' B A c (marks q xs.length) ∧ Only w w' B S := by
  have hb : Below w.heap.size w (w.alloc (.cells #[.slice A xs.length c, .int .i64 r] 27)) := (Below.refl _ _).alloc (Nat.le_refl _) _
  have ho : Only w (w.alloc (.cells #[.slice A xs.length c, .int .i64 r] 27)) B S := ⟨hb.os, hb.tape, hb.output, hb.size, fun k hk _ => hb.block k hk⟩
  go_enter Try.func16, Try.ntmps16
  go_wp2_with (go_at_call 23; refine (markIntS_any _ _ _ _ _ _ hl hq0 hq (hA.below hb)).mono ?_; rintro e w' ⟨rfl, om, gr, -⟩)
  go_ret
  exact ⟨rfl, om, ho.trans (Only.of_grown gr hk)⟩

set_option maxHeartbeats 400000 in
theorem impl_IsDesk (r : Int) (A : Option Addr) (c : Nat) (xs : List Int) (w : World) (hl : xs.length ≤ 1048576) (hc : Cells w A xs) :
    Calls Try.prog 12 #[.agg #[.slice A xs.length c, .int .i64 r]] w fun e w' => e = .returned (.bool (crB xs r)) ∧ Below w.heap.size w w' := by
  have hb : Below w.heap.size w (w.alloc (.cells #[.slice A xs.length c, .int .i64 r] 27)) := (Below.refl _ _).alloc (Nat.le_refl _) _
  cases hi : good xs
  · have HI := hid hi
    go_enter Try.func12, Try.ntmps12
    go_wp2_with (go_at_call 37; refine (IsPartition_b _ _ _ _ hl (hc.below hb) _ HI.out).mono ?_; rintro e w' ⟨rfl, rfl⟩)
    go_ret
    exact ⟨ret_bool (by simp [crB, hi]), hb⟩
  · have HI := hid hi
    have y := Box2.new w 27 (.slice A xs.length c) (.int .i64 r)
    go_enter Try.func12, Try.ntmps12
    go_wp2_with fail
    refine (IsPartition_b _ _ _ _ hl (hc.below hb) _ HI.out).mono ?_
    rintro e w1 ⟨rfl, rfl⟩
    have y1 := y.cell1
    go_wp2_with fail
    refine (hasRunners_any _ _).mono ?_
    rintro e w2 ⟨rfl, rfl⟩
    go_wp2_with fail
    go_ret
    exact ⟨ret_bool (by simp [crB, hi]), hb⟩

set_option maxHeartbeats 400000 in
theorem coGood_any (r : Int) (A : Option Addr) (c : Nat) (xs : List Int) (w : World) (hl : xs.length ≤ 1048576) (hc : Cells w A xs) :
    Calls Try.prog 36 #[.agg #[.slice A xs.length c, .int .i64 r]] w fun e w' => e = .returned (.bool (crB xs r)) ∧ Below w.heap.size w w' := by
  have hb : Below w.heap.size w (w.alloc (.cells #[.slice A xs.length c, .int .i64 r] 27)) := (Below.refl _ _).alloc (Nat.le_refl _) _
  go_enter Try.func36, Try.ntmps36
  go_wp2_with (go_at_call 39; refine (crT_any _ _ _ _ _ hl (hc.below hb) _ rfl).mono ?_; rintro e w' ⟨rfl, n, rfl⟩)
  go_ret
  exact ⟨rfl, Below.next hb (below_drew' _ n)⟩

set_option maxHeartbeats 400000 in
theorem spec_IsDesk (r : Int) (A : Option Addr) (c : Nat) (xs : List Int) (w : World) (hl : xs.length ≤ 1048576) (hc : Cells w A xs) :
    Calls Try.prog 10 #[.agg #[.slice A xs.length c, .int .i64 r]] w fun e w' => e = .returned (.bool (crB xs r)) ∧ Below w.heap.size w w' := by
  have hb : Below w.heap.size w (w.alloc (.cells #[.slice A xs.length c, .int .i64 r] 27)) := (Below.refl _ _).alloc (Nat.le_refl _) _
  go_enter Try.func10, Try.ntmps10
  go_wp2_with (go_at_call 36; refine (coGood_any _ _ _ _ _ hl (hc.below hb)).mono ?_; rintro e w' ⟨rfl, b1⟩)
  go_ret
  exact ⟨rfl, Below.next hb b1⟩
end Go.Proofs.Ytmjncedijddmmaa
