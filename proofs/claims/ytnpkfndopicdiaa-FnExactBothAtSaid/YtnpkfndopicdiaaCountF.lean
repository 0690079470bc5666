/-
  Contracts: CountPartitions of the program and of the model.
-/
import Derived.Test.YtnpkfndopicdiaaCounts
namespace Go.Proofs.Ytnpkfndopicdiaa
open Go.RowKit

def okN (n : Int) : Bool := inB 0 30 n
def countF (n : Int) : Int := if okN n then (T n.toNat n.toNat : Int) else 0
theorem countF_t (n : Nat) (h : n ≤ 30) : countF n = T n n := by
  have e : okN n = true := inB_iff.2 (by omega)
  simp [countF, e]
theorem countF_f {n : Int} (h : okN n = false) : countF n = 0 := by simp [countF, h]
theorem okN_nat {n : Int} (h : okN n = true) : ∃ m : Nat, n = m ∧ m ≤ 30 := by
  have := inB_iff.1 h
  exact ⟨n.toNat, by omega, by omega⟩

set_option maxHeartbeats 400000 in
theorem ptCells_any (n : Int) (w : World) : Calls Try.prog 176 #[.int .i64 n] w fun e w' => e = .returned (.bool (okN n)) ∧ w = w' := by
  go_enter Try.func176, Try.ntmps176
  go_wp2_with (go_at_call 106; refine (l1In_any _ _ _ _).mono ?_; rintro e w' ⟨rfl, rfl⟩)
  go_ret
  exact ⟨rfl, rfl⟩
theorem ptCells_b (n : Int) (w : World) (b : Bool) (h : okN n = b) : Calls Try.prog 176 #[.int .i64 n] w fun e w' => e = .returned (.bool b) ∧ w = w' := by
  subst h; exact ptCells_any n w

set_option maxHeartbeats 400000 in
theorem isCellNumber_any (n : Int) (w : World) : Calls Try.prog 179 #[.int .i64 n] w fun e w' => e = .returned (.bool (okN n)) ∧ w = w' := by
  by_cases h1 : 0 ≤ n
  · by_cases h2 : n ≤ 30
    · go_enter Try.func179, Try.ntmps179
      go_wp2
      go_ret
      exact ⟨by simp [okN, inB, h1, h2], rfl⟩
    · go_enter Try.func179, Try.ntmps179
      go_wp2
      go_ret
      exact ⟨by simp [okN, inB]; omega, rfl⟩
  · go_enter Try.func179, Try.ntmps179
    go_wp2
    go_ret
    exact ⟨by simp [okN, inB]; omega, rfl⟩
theorem isCellNumber_b (n : Int) (w : World) (b : Bool) (h : okN n = b) : Calls Try.prog 179 #[.int .i64 n] w fun e w' => e = .returned (.bool b) ∧ w = w' := by
  subst h; exact isCellNumber_any n w

end Go.Proofs.Ytnpkfndopicdiaa
