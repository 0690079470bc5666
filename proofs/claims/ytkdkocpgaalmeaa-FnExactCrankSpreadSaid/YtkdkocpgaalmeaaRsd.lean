/-
  Contract: residueOf, by any number up to 11.
-/
import Derived.Test.YtkdkocpgaalmeaaCB
namespace Go.Proofs.Ytkdkocpgaalmeaa
open Go.RowKit

theorem tmod_resid11 {x t : Int} (ht : 2 ≤ t ∧ t ≤ 11) : -t < Int.tmod x t ∧ Int.tmod x t < t ∧ Int.tmod (Int.tmod x t + t) t = x % t := by
  by_cases h : 0 ≤ x
  · rw [Int.tmod_eq_emod_of_nonneg h]
    have h1 := Int.emod_nonneg x (show t ≠ 0 by omega)
    have h2 := Int.emod_lt_of_pos x (show 0 < t by omega)
    refine ⟨by omega, h2, ?_⟩
    rw [Int.tmod_eq_emod_of_nonneg (by omega), Int.add_emod_right, Int.emod_emod]
  · have e : Int.tmod x t = -((-x) % t) := by
      rw [← Int.tmod_eq_emod_of_nonneg (show 0 ≤ -x by omega), Int.neg_tmod, Int.neg_neg]
    have h1 := Int.emod_nonneg (-x) (show t ≠ 0 by omega)
    have h2 := Int.emod_lt_of_pos (-x) (show 0 < t by omega)
    rw [e]
    refine ⟨by omega, by omega, ?_⟩
    rw [Int.tmod_eq_emod_of_nonneg (by omega), Int.add_emod_right]
    have : t = 2 ∨ t = 3 ∨ t = 4 ∨ t = 5 ∨ t = 6 ∨ t = 7 ∨ t = 8 ∨ t = 9 ∨ t = 10 ∨ t = 11 := by omega
    rcases this with rfl | rfl | rfl | rfl | rfl | rfl | rfl | rfl | rfl | rfl <;> omega

set_option maxHeartbeats 400000 in
theorem residueOf_11 (x : Int) (t : Int) (w : World) (ht : 2 ≤ t ∧ t ≤ 11) :
    Calls Try.prog 155 #[.int .i64 x, .int .i64 t] w fun e w' => e = .returned (.int .i64 (x % t)) ∧ w = w' := by
  obtain ⟨h1, h2, h3⟩ := tmod_resid11 (x := x) (t := t) ht
  obtain ⟨y, hy⟩ : ∃ y, y = Int.tmod x t := ⟨_, rfl⟩
  rw [← hy] at h1 h2 h3
  have hyy : Int.tmod x t = y := hy.symm
  have hne : ¬ (t = 0) := by omega
  obtain ⟨z, hz⟩ : ∃ z, z = x % t := ⟨_, rfl⟩
  rw [← hz] at h3 ⊢
  clear hy hz
  go_enter Try.func155, Try.ntmps155
  go_wp2
  go_ret
  exact ⟨rfl, rfl⟩
end Go.Proofs.Ytkdkocpgaalmeaa
