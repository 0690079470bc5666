/-
  Contracts: the laws' helpers that copy, compare, mark and ask an abacus.
-/
import Derived.Test.YtnhjofcmaodamaaAba
import Derived.Test.YtnhjofcmaodamaaBox2
namespace Go.Proofs.Ytnhjofcmaodamaa
open Go.RowKit

set_option maxHeartbeats 1000000 in
theorem toAbacus_any (r : Int) (A : Option Addr) (c : Nat) (xs : List Int) (w : World) (hl : xs.length ≤ 1048576) (hc : Cells w A xs) :
    Calls Try.prog 26 #[.agg #[.int .i64 r, .slice A xs.length c]] w fun e w' => ∃ A' c', e = .returned (.agg #[.int .i64 r, .slice A' xs.length c']) ∧ Own w' w.heap.size A' c' xs ∧ Below w.heap.size w w' := by
  go_enter Try.func26, Try.ntmps26
  have y1 := (Box2.new (w.alloc (.cells #[.int .i64 r, .slice A xs.length c] 24)) 26 (.int .i64 0) (.slice none 0 0)).alloc (.cells #[.int .i64 r, .slice none 0 0] 26)
  have y2 := Box2.new ((w.alloc (.cells #[.int .i64 r, .slice A xs.length c] 24)).alloc (.cells #[.int .i64 0, .slice none 0 0] 26)) 26 (.int .i64 r) (.slice none 0 0)
  have hb : Below w.heap.size w (((w.alloc (.cells #[.int .i64 r, .slice A xs.length c] 24)).alloc (.cells #[.int .i64 0, .slice none 0 0] 26)).alloc (.cells #[.int .i64 r, .slice none 0 0] 26)) := (((Below.refl _ _).alloc (Nat.le_refl _) _).alloc (by simp) _).alloc (by simp; omega) _
  go_wp2_with fail
  refine (toIntS_any _ _ _ _ hl (hc.below hb)).mono ?_
  rintro e w1 ⟨A1, c1, rfl, o1, b1⟩
  have x1 := y1.next b1
  have x2 := y2.next b1
  rw [World.size_alloc] at x1 x2
  rw [World.size_alloc] at x2
  clear y1 y2
  have f1 := x2.cell1
  have f2 := x2.froz 1
  have x2' := x2.set1 (.slice A1 xs.length c1)
  have f3 := x2'.cell0
  have f4 := x2'.cell1
  have x1' := x1.other (g' := w.heap.size + 1 + 1) (k := 1) (by omega) (.slice A1 xs.length c1)
  have f5 := x1'.cell0
  have f6 := x1'.froz 0
  have x1'' := x1'.set0 (.int .i64 r)
  have f7 := x1''.cell1
  have f8 := x1''.froz 1
  have x1f := x1''.set1 (.slice A1 xs.length c1)
  have hb1 := Below.next hb b1
  have hok := o1.block
  go_wp2_with fail
  refine bodyPost_ret (v := .agg #[.int .i64 r, .slice A1 xs.length c1]) ?_ rfl ⟨A1, c1, rfl, (o1.keep fun b hbk _ => ?_).more (by simp; omega), ((hb1.setCell (by simp; omega) _).setCell (by simp) _).setCell (by simp) _⟩
  · exact results_cell_row rfl _ _ (w.heap.size + 1) 26 #[.int .i64 r, .slice A1 xs.length c1] (0, 0) _ rfl x1f Try.underlying26 rfl (by kernel_rfl)
  · have := (hok b hbk).1
    simp at this
    exact ((Below.heap_setCell _ _ _ b (by simp; omega)).trans (Below.heap_setCell _ _ _ b (by simp; omega))).trans (Below.heap_setCell _ _ _ b (by simp; omega))

set_option maxHeartbeats 400000 in
theorem eqAbacus_t (r : Int) (A B : Option Addr) (c d : Nat) (xs : List Int) (w : World) (hl : xs.length ≤ 1048576) (hA : Cells w A xs) (hB : Cells w B xs) :
    Calls Try.prog 28 #[.agg #[.int .i64 r, .slice A xs.length c], .agg #[.int .i64 r, .slice B xs.length d]] w fun e w' => e = .returned (.bool true) ∧ Below w.heap.size w w' := by
  have hb : Below w.heap.size w ((w.alloc (.cells #[.int .i64 r, .slice A xs.length c] 26)).alloc (.cells #[.int .i64 r, .slice B xs.length d] 26)) := ((Below.refl _ _).alloc (Nat.le_refl _) _).alloc (by simp) _
  go_enter Try.func28, Try.ntmps28
  go_wp2_with (go_at_call 37; refine (eqIntS_t _ _ _ _ _ _ hl (hA.below hb) (hB.below hb)).mono ?_; rintro e w' ⟨rfl, b1⟩)
  go_ret
  exact ⟨rfl, Below.next hb b1⟩

set_option maxHeartbeats 400000 in
theorem heldAbacus_t (r : Int) (A : Option Addr) (c : Nat) (n : Nat) (q : Int) (w : World) (hl : n ≤ 1048576) (hq0 : 0 ≤ q) (hq : q ≤ 1000000000000) (hA : Cells w A (marks q n)) :
    Calls Try.prog 30 #[.agg #[.int .i64 r, .slice A n c], .int .i64 q] w fun e w' => e = .returned (.int .i64 (q + n)) ∧ Below w.heap.size w w' := by
  have hb : Below w.heap.size w (w.alloc (.cells #[.int .i64 r, .slice A n c] 26)) := (Below.refl _ _).alloc (Nat.le_refl _) _
  go_enter Try.func30, Try.ntmps30
  go_wp2_with (go_at_call 45; refine (heldIntS_t _ _ _ _ _ hl hq0 hq (hA.below hb)).mono ?_; rintro e w' ⟨rfl, b1⟩)
  go_ret
  exact ⟨rfl, Below.next hb b1⟩

set_option maxHeartbeats 400000 in
theorem markAbacus_any (B S : Nat) (r : Int) (A : Option Addr) (c : Nat) (xs : List Int) (q : Int) (w : World) (hl : xs.length ≤ 1048576) (hq0 : 0 ≤ q) (hq : q ≤ 1000000000000) (hA : Own w B A c xs) (hk : ∀ b, A.map Addr.block = some b → B ≤ b ∧ b < S) :
    Calls Try.prog 29 #[.agg #[.int .i64 r, .slice A xs.length c], .int .i64 q] w fun e w' => e = .returned (.int .i64 (q + xs.length)) ∧ Own w' B A c (marks q xs.length) ∧ Only w w' B S := by
  have hb : Below w.heap.size w (w.alloc (.cells #[.int .i64 r, .slice A xs.length c] 26)) := (Below.refl _ _).alloc (Nat.le_refl _) _
  have ho : Only w (w.alloc (.cells #[.int .i64 r, .slice A xs.length c] 26)) B S := ⟨hb.os, hb.tape, hb.output, hb.size, fun k hk _ => hb.block k hk⟩
  go_enter Try.func29, Try.ntmps29
  go_wp2_with (go_at_call 38; refine (markIntS_any _ _ _ _ _ _ hl hq0 hq (hA.below hb)).mono ?_; rintro e w' ⟨rfl, om, gr, -⟩)
  go_ret
  exact ⟨rfl, om, ho.trans (Only.of_grown gr hk)⟩
end Go.Proofs.Ytnhjofcmaodamaa
