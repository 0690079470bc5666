/-
  Contracts: what numbers of partitions are asked for, on both sides.
-/
import Derived.Test.YtalmeamgnmboiaaCB
namespace Go.Proofs.Ytalmeamgnmboiaa
open Go.RowKit

def nmB (n : Int) : Bool := inB 0 200 n
theorem nmB_nat {n : Int} (h : nmB n = true) : ∃ m : Nat, n = m ∧ m ≤ 200 := by
  have := inB_iff.1 h
  exact ⟨n.toNat, by omega, by omega⟩
set_option maxHeartbeats 400000 in
theorem rkNumber_b (n : Int) (w : World) (b : Bool) (h : nmB n = b) : Calls Try.prog 17 #[.int .i64 n] w fun e w' => e = .returned (.bool b) ∧ w = w' := by
  go_enter Try.func17, Try.ntmps17
  go_wp2_with (go_at_call 22; refine (l1In_b _ _ _ _ _ h).mono ?_; rintro e w' ⟨rfl, rfl⟩)
  go_ret
  exact ⟨rfl, rfl⟩
set_option maxHeartbeats 1000000 in
theorem isNumbered_b (n : Int) (w : World) (b : Bool) (h : nmB n = b) : Calls Try.prog 15 #[.int .i64 n] w fun e w' => e = .returned (.bool b) ∧ w = w' := by
  subst h
  by_cases h0 : 0 ≤ n
  · by_cases h1 : n ≤ 200
    · go_enter Try.func15, Try.ntmps15
      go_wp2_with fail
      go_ret
      exact ⟨ret_bool (by simp [nmB, inB, h0, h1]), rfl⟩
    · go_enter Try.func15, Try.ntmps15
      go_wp2_with fail
      go_ret
      exact ⟨ret_bool (by simp [nmB, inB, h0, h1]), rfl⟩
  · go_enter Try.func15, Try.ntmps15
    go_wp2_with fail
    go_ret
    exact ⟨ret_bool (by simp [nmB, inB]; omega), rfl⟩
end Go.Proofs.Ytalmeamgnmboiaa
