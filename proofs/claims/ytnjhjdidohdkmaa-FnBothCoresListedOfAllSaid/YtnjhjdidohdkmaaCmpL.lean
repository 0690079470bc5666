/-
  The order of lists of numbers: plain facts.
-/
import Derived.Test.YtnjhjdidohdkmaaCmp
namespace Go.Proofs.Ytnjhjdidohdkmaa
open Go.RowKit

theorem cmpL_refl : ∀ p : List Int, cmpL p p = 0
  | [] => rfl
  | x :: p => by unfold cmpL; rw [if_neg (by omega), if_neg (by omega)]; exact cmpL_refl p
theorem cmpL_anti : ∀ p q : List Int, cmpL q p = - cmpL p q
  | [], [] => rfl
  | [], _ :: _ => rfl
  | _ :: _, [] => rfl
  | x :: p, y :: q => by
    unfold cmpL
    have ih := cmpL_anti p q
    by_cases h1 : x < y
    · rw [if_neg (by omega), if_pos h1, if_pos h1]; rfl
    · by_cases h2 : y < x
      · rw [if_pos h2, if_neg h1, if_pos h2]
      · rw [if_neg h2, if_neg h1, if_neg h1, if_neg h2]; exact ih
theorem cmpL_zero : ∀ p q : List Int, cmpL p q = 0 → p = q
  | [], [], _ => rfl
  | [], _ :: _, h => by simp [cmpL] at h
  | _ :: _, [], h => by simp [cmpL] at h
  | x :: p, y :: q, h => by
    unfold cmpL at h
    by_cases h1 : x < y
    · rw [if_pos h1] at h; omega
    · by_cases h2 : y < x
      · rw [if_neg h1, if_pos h2] at h; omega
      · rw [if_neg h1, if_neg h2] at h
        rw [cmpL_zero p q h, show x = y by omega]
theorem cmpL_trans : ∀ p q r : List Int, cmpL p q < 0 → cmpL q r < 0 → cmpL p r < 0
  | [], [], _, h, _ => by simp [cmpL] at h
  | [], _ :: _, [], _, h => by simp [cmpL] at h
  | [], _ :: _, _ :: _, _, _ => by simp [cmpL]
  | _ :: _, [], _, h, _ => by simp [cmpL] at h
  | _ :: _, _ :: _, [], _, h => by simp [cmpL] at h
  | x :: p, y :: q, z :: r, h, h' => by
    unfold cmpL at h h' ⊢
    have ih := cmpL_trans p q r
    by_cases h1 : x < y
    · by_cases h2 : y < z
      · rw [if_pos (by omega)]; omega
      · by_cases h3 : z < y
        · rw [if_neg h2, if_pos h3] at h'; omega
        · rw [if_pos (by omega)]; omega
    · by_cases h1' : y < x
      · rw [if_neg h1, if_pos h1'] at h; omega
      · rw [if_neg h1, if_neg h1'] at h
        by_cases h2 : y < z
        · rw [if_pos (by omega)]; omega
        · by_cases h3 : z < y
          · rw [if_neg h2, if_pos h3] at h'; omega
          · rw [if_neg h2, if_neg h3] at h'
            rw [if_neg (by omega), if_neg (by omega)]
            exact ih h h'
end Go.Proofs.Ytnjhjdidohdkmaa
