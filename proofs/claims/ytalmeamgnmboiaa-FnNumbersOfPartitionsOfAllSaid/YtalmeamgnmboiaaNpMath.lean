/-
  Plain facts: numbers of partitions rise, are counted by the table, and are divided by 5, 7 and 11 where Ramanujan says so; pentagonal numbers.
-/
import Derived.Test.YtalmeamgnmboiaaPnMath
import Derived.Test.YtalmeamgnmboiaaCA
import Derived.Test.YtalmeamgnmboiaaPnt
namespace Go.Proofs.Ytalmeamgnmboiaa

theorem pnT_up : ∀ m, m < 201 → 1 ≤ m → pnT.getD (m - 1) 0 ≤ pnT.getD m 0 := by decide +kernel
theorem pnT_T : ∀ m, m < 31 → ((T m m : Nat) : Int) = pnT.getD m 0 := by decide +kernel
theorem pnT_5 : ∀ m : Nat, m < 201 → (Int.tmod (m : Int) 5 = 4 ∧ Int.tmod (pnT.getD m 0) 5 = 0) ∨ ¬ Int.tmod (m : Int) 5 = 4 := by decide +kernel
theorem pnT_7 : ∀ m : Nat, m < 201 → (Int.tmod (m : Int) 7 = 5 ∧ Int.tmod (pnT.getD m 0) 7 = 0) ∨ ¬ Int.tmod (m : Int) 7 = 5 := by decide +kernel
theorem pnT_11 : ∀ m : Nat, m < 201 → (Int.tmod (m : Int) 11 = 6 ∧ Int.tmod (pnT.getD m 0) 11 = 0) ∨ ¬ Int.tmod (m : Int) 11 = 6 := by decide +kernel
theorem pnt_two {k : Int} (h : -1000 ≤ k ∧ k ≤ 1000) : 2 * pnt k = k * (3 * k - 1) := by
  have hp := pnt_prod h
  have he : (k * (3 * k - 1)) % 2 = 0 := by
    rcases (show k % 2 = 0 ∨ k % 2 = 1 by omega) with h | h
    · obtain ⟨j, rfl⟩ : ∃ j, k = 2 * j := ⟨k / 2, by omega⟩
      rw [Int.mul_assoc]; exact Int.mul_emod_right _ _
    · obtain ⟨j, hj⟩ : ∃ j, 3 * k - 1 = 2 * j := ⟨(3 * k - 1) / 2, by omega⟩
      rw [hj, ← Int.mul_assoc, Int.mul_comm k 2, Int.mul_assoc]; exact Int.mul_emod_right _ _
  unfold pnt
  rw [Int.tdiv_eq_ediv_of_nonneg hp.1]
  omega
theorem pnt_neg {k : Int} (h : -1000 ≤ k ∧ k ≤ 1000) : pnt (-k) = pnt k + k := by
  have h1 := pnt_two h
  have h2 := pnt_two (k := -k) (by omega)
  have e : -k * (3 * -k - 1) = k * (3 * k - 1) + 2 * k := by grind
  omega
end Go.Proofs.Ytalmeamgnmboiaa
