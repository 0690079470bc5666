/-
  Contracts: MovableBeads of the model.
-/
import Derived.Test.YtnhjofcmaodamaaCE
import Derived.Test.YtnhjofcmaodamaaMaya
namespace Go.Proofs.Ytnhjofcmaodamaa
open Go.RowKit

set_option maxRecDepth 100000 in
set_option maxHeartbeats 1000000 in
theorem abCan_any (r : Int) (A : Option Addr) (c : Nat) (xs : List Int) (a b : Int) (w : World) (hl : xs.length ≤ 1048576) (hc : Cells w A xs) (d : Bool) (hd : (decide (a ∈ xs) && (decide (0 ≤ b) && !decide (b ∈ xs))) = d) :
    Calls Try.prog 83 #[.agg #[.int .i64 r, .slice A xs.length c], .int .i64 a, .int .i64 b] w fun e w' => e = .returned (.bool d) ∧ Below w.heap.size w w' := by
  subst hd
  have hb : Below w.heap.size w (w.alloc (.cells #[.int .i64 r, .slice A xs.length c] 26)) := (Below.refl _ _).alloc (Nat.le_refl _) _
  have hcb := hc.below hb
  cases ha : decide (a ∈ xs)
  · have HA := hid ha
    clear ha
    go_enter Try.func83, Try.ntmps83
    go_wp2_with (go_at_call 96; refine (l1Has_b _ _ _ _ _ hl hcb _ HA.out).mono ?_; rintro e w' ⟨rfl, rfl⟩)
    go_ret
    exact ⟨ret_bool (by simp), hb⟩
  by_cases h0 : 0 ≤ b
  · cases hm : decide (b ∈ xs)
    all_goals
      have HA := hid ha
      have HM := hid hm
      clear ha hm
      go_enter Try.func83, Try.ntmps83
      go_wp2_with fail
      refine (l1Has_b _ _ _ _ _ hl hcb _ HA.out).mono ?_
      rintro e w' ⟨rfl, rfl⟩
      go_wp2_with fail
      refine (l1Has_b _ _ _ _ _ hl hcb _ HM.out).mono ?_
      rintro e w' ⟨rfl, rfl⟩
      go_wp2_with fail
      go_ret
      exact ⟨ret_bool (by rw [decide_eq_true h0]; rfl), hb⟩
  · have HA := hid ha
    clear ha
    go_enter Try.func83, Try.ntmps83
    go_wp2_with (go_at_call 96; refine (l1Has_b _ _ _ _ _ hl hcb _ HA.out).mono ?_; rintro e w' ⟨rfl, rfl⟩)
    go_ret
    exact ⟨ret_bool (by rw [decide_eq_false (show ¬ 0 ≤ b by omega)]; rfl), hb⟩

end Go.Proofs.Ytnhjofcmaodamaa
