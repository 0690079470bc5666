/-
  Contracts: FirstDesk of the program and of the model.
-/
import Derived.Test.YtmjncedijddmmaaDsk
namespace Go.Proofs.Ytmjncedijddmmaa
open Go.RowKit

def fdL : List Int := [4, 2, 1]
theorem bound_FirstDesk : fdL.length ≤ 1048576 := by decide
theorem own_421 (w : World) (B : Nat) (h : B ≤ w.heap.size) : Own (w.alloc (.cells #[.int .i64 4, .int .i64 2, .int .i64 1] 3)) B (some ⟨w.heap.size, 0, none⟩) 3 fdL :=
  World.ownsRow_lit (base := B) (e := 3) (size := 1) w #[.int .i64 4, .int .i64 2, .int .i64 1] 3 h (by unfold maxLen; omega) rfl

set_option maxHeartbeats 1000000 in
theorem impl_FirstDesk (w : World) : Calls Try.prog 15 #[] w fun e w' => ∃ A' c', e = .returned (.agg #[.slice A' fdL.length c', .int .i64 3]) ∧ Own w' w.heap.size A' c' fdL ∧ Below w.heap.size w w' := by
  go_enter Try.func15, Try.ntmps15
  have y := (Box2.new w 27 (.slice (some ⟨w.heap.size + 1, 0, none⟩) 3 3) (.int .i64 3)).alloc (.cells #[.int .i64 4, .int .i64 2, .int .i64 1] 3)
  have o := own_421 (w.alloc (.cells #[.slice (some ⟨w.heap.size + 1, 0, none⟩) 3 3, .int .i64 3] 27)) w.heap.size (by simp)
  rw [World.size_alloc] at o
  go_wp2_with fail
  exact bodyPost_ret (v := .agg #[.slice (some ⟨w.heap.size + 1, 0, none⟩) 3 3, .int .i64 3]) (results_cell_row rfl _ _ w.heap.size 27 #[.slice (some ⟨w.heap.size + 1, 0, none⟩) 3 3, .int .i64 3] (0, 0) _ rfl y Try.underlying27 rfl (by kernel_rfl)) rfl ⟨_, _, rfl, o, ((Below.refl _ _).alloc (Nat.le_refl _) _).alloc (by simp) _⟩

set_option maxHeartbeats 1000000 in
theorem spec_FirstDesk (w : World) : Calls Try.prog 14 #[] w fun e w' => ∃ A' c', e = .returned (.agg #[.slice A' fdL.length c', .int .i64 3]) ∧ Own w' w.heap.size A' c' fdL ∧ Below w.heap.size w w' := by
  go_enter Try.func14, Try.ntmps14
  have y := (Box2.new w 27 (.slice (some ⟨w.heap.size + 1, 0, none⟩) 3 3) (.int .i64 3)).alloc (.cells #[.int .i64 4, .int .i64 2, .int .i64 1] 3)
  have o := own_421 (w.alloc (.cells #[.slice (some ⟨w.heap.size + 1, 0, none⟩) 3 3, .int .i64 3] 27)) w.heap.size (by simp)
  rw [World.size_alloc] at o
  go_wp2_with fail
  exact bodyPost_ret (v := .agg #[.slice (some ⟨w.heap.size + 1, 0, none⟩) 3 3, .int .i64 3]) (results_cell_row rfl _ _ w.heap.size 27 #[.slice (some ⟨w.heap.size + 1, 0, none⟩) 3 3, .int .i64 3] (0, 0) _ rfl y Try.underlying27 rfl (by kernel_rfl)) rfl ⟨_, _, rfl, o, ((Below.refl _ _).alloc (Nat.le_refl _) _).alloc (by simp) _⟩
end Go.Proofs.Ytmjncedijddmmaa
