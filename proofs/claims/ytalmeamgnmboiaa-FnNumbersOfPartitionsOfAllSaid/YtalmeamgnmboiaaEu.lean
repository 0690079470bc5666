/-
  As many partitions into different parts as into odd ones: what the two tables of the program hold.
-/
import Derived.Test.YtalmeamgnmboiaaEuMath
import Derived.Test.YtalmeamgnmboiaaDfn
import Derived.Test.YtalmeamgnmboiaaOdn
namespace Go.Proofs.Ytalmeamgnmboiaa
open Go.RowKit

theorem getD_setE (xs : List Int) (k j : Nat) (x : Int) (h : k < xs.length) : (xs.set k x).getD j 0 = if j = k then x else xs.getD j 0 := by
  rw [List.getD_eq_getElem?_getD, List.getElem?_set]
  by_cases e : k = j
  · subst e; rw [if_pos rfl, if_pos rfl, if_pos h]; rfl
  · rw [if_neg e, if_neg (fun h => e h.symm), List.getD_eq_getElem?_getD]
theorem addD_get (Z : List Int) (d n : Nat) (hd : 1 ≤ d) (hl : Z.length = n + 1) : ∀ c, c + d ≤ n + 1 → ∀ j, j ≤ n → (addD Z d n c).getD j 0 = if n < j + c then IntKind.i64.wrap (Z.getD j 0 + Z.getD (j - d) 0) else Z.getD j 0
  | 0, _, j, hj => by rw [addD, if_neg (by omega)]
  | c + 1, hc, j, hj => by
    have h1 : (addD Z d n c).getD (n - c) 0 = Z.getD (n - c) 0 := by rw [addD_get Z d n hd hl c (by omega) (n - c) (by omega), if_neg (by omega)]
    have h2 : (addD Z d n c).getD (n - c - d) 0 = Z.getD (n - c - d) 0 := by rw [addD_get Z d n hd hl c (by omega) (n - c - d) (by omega), if_neg (by omega)]
    rw [addD, getD_setE _ _ _ _ (by rw [addD_len]; omega), h1, h2, addD_get Z d n hd hl c (by omega) j hj]
    by_cases e : j = n - c
    · subst e; rw [if_pos rfl, if_pos (by omega)]
    · rw [if_neg e]
      by_cases h : n < j + c
      · rw [if_pos h, if_pos (by omega)]
      · rw [if_neg h, if_neg (by omega)]
theorem csT_zero (n j : Nat) (hj : j ≤ n) : (csT n 0).getD j 0 = (dfR 0).getD j 0 := by
  rw [csT, getD_setE _ _ _ _ (by rw [fnRow_len]; omega)]
  cases j with
  | zero => rfl
  | succ j =>
    rw [if_neg (by omega), fnRow_get _ _ _ (by omega), dfR, List.getD_cons_succ, List.getD_eq_getElem?_getD, List.getElem?_replicate]
    split <;> rfl
theorem csT_at {n : Nat} (hn : n < 201) : ∀ x, x ≤ n → ∀ j, j ≤ n → (csT n x).getD j 0 = (dfR x).getD j 0
  | 0, _, j, hj => csT_zero n j hj
  | x + 1, hx, j, hj => by
    rw [csT, addD_get _ _ _ (by omega) (csT_len n x) _ (by omega) j hj, dfR_get x j (by omega)]
    by_cases h : x + 1 ≤ j
    · rw [if_pos (by omega), if_pos h, csT_at hn x (by omega) j hj, csT_at hn x (by omega) (j - (x + 1)) (by omega)]
      have h1 := dfR_bd (show x ≤ 200 by omega) j (by omega)
      have h2 := dfR_bd (show x ≤ 200 by omega) (j - (x + 1)) (by omega)
      exact IntWalk.i64_in _ (by omega)
    · rw [if_neg (by omega), if_neg h, csT_at hn x (by omega) j hj]; omega
theorem addU_get (Z : List Int) (d n : Nat) (hd : 1 ≤ d) (hl : Z.length = n + 1) : ∀ c, c + d ≤ n + 1 → ∀ j, j ≤ n → (addU Z d c).getD j 0 = if d ≤ j ∧ j < d + c then IntKind.i64.wrap (Z.getD j 0 + (addU Z d c).getD (j - d) 0) else Z.getD j 0
  | 0, _, j, hj => by rw [addU, if_neg (by omega)]
  | c + 1, hc, j, hj => by
    have hs : ∀ i, (addU Z d (c + 1)).getD i 0 = if i = d + c then IntKind.i64.wrap ((addU Z d c).getD (d + c) 0 + (addU Z d c).getD c 0) else (addU Z d c).getD i 0 := fun i => by
      rw [addU, getD_setE _ _ _ _ (by rw [addU_len]; omega)]
    have h0 : (addU Z d c).getD (d + c) 0 = Z.getD (d + c) 0 := by rw [addU_get Z d n hd hl c (by omega) (d + c) (by omega), if_neg (by omega)]
    by_cases h : d ≤ j ∧ j < d + (c + 1)
    · rw [if_pos h, hs j, hs (j - d), if_neg (show ¬ j - d = d + c by omega), h0]
      by_cases e : j = d + c
      · rw [if_pos e, e, Nat.add_sub_cancel_left]
      · rw [if_neg e, addU_get Z d n hd hl c (by omega) j hj, if_pos (by omega)]
    · rw [if_neg h, hs j, if_neg (by omega), addU_get Z d n hd hl c (by omega) j hj, if_neg (by omega)]
theorem osS_zero (n j : Nat) (hj : j ≤ n) : (osS n 0).getD j 0 = (odR 100).getD j 0 := by
  rw [osS, odR_end, getD_setE _ _ _ _ (by rw [fnRow_len]; omega)]
  cases j with
  | zero => rfl
  | succ j =>
    rw [if_neg (by omega), fnRow_get _ _ _ (by omega), List.getD_cons_succ, List.getD_eq_getElem?_getD, List.getElem?_replicate]
    split <;> rfl
theorem osS_at {n : Nat} (hn : n < 201) : ∀ K, K ≤ (n + 1) / 2 → ∀ j, j ≤ n → (osS n K).getD j 0 = (odR (100 - K)).getD j 0
  | 0, _, j, hj => osS_zero n j hj
  | K + 1, hK, j, hj => by
    have ih := osS_at hn K (by omega)
    have hrow : ∀ i, i < 201 → (odR (100 - K)).getD i 0 = (odR (100 - (K + 1))).getD i 0 - if 2 * K + 1 ≤ i then (odR (100 - (K + 1))).getD (i - (2 * K + 1)) 0 else 0 := fun i hi => by
      have h := odR_get (100 - (K + 1)) i hi
      rw [show 100 - (K + 1) + 1 = 100 - K by omega, show 199 - 2 * (100 - (K + 1)) = 2 * K + 1 by omega] at h
      exact h
    have aux : ∀ b i, i ≤ b → i ≤ n → (osS n (K + 1)).getD i 0 = (odR (100 - (K + 1))).getD i 0 := by
      intro b
      induction b with
      | zero =>
        intro i hib hi
        rw [osS, addU_get _ _ n (by omega) (osS_len n K) _ (by omega) i hi, if_neg (by omega), ih i hi, hrow i (by omega), if_neg (by omega)]; omega
      | succ b ihb =>
        intro i hib hi
        have hg := addU_get (osS n K) (2 * K + 1) n (by omega) (osS_len n K) (n - 2 * K) (by omega) i hi
        by_cases h : 2 * K + 1 ≤ i
        · rw [if_pos (by omega)] at hg
          have e : (addU (osS n K) (2 * K + 1) (n - 2 * K)).getD (i - (2 * K + 1)) 0 = (odR (100 - (K + 1))).getD (i - (2 * K + 1)) 0 := ihb _ (by omega) (by omega)
          rw [e, ih i hi] at hg
          have hr := hrow i (by omega)
          rw [if_pos h] at hr
          have h1 := odR_bd1 (c := 100 - (K + 1)) (by omega) i
          show (addU (osS n K) (2 * K + 1) (n - 2 * K)).getD i 0 = _
          rw [hg, hr, IntWalk.i64_in _ (by omega)]; omega
        · show (addU (osS n K) (2 * K + 1) (n - 2 * K)).getD i 0 = _
          rw [hg, if_neg (by omega), ih i hi, hrow i (by omega), if_neg h]; omega
    exact aux j j (Nat.le_refl _) hj
theorem diff_odd {n : Nat} (hn : n < 201) : (csT n n).getD n 0 = (osT n n).getD n 0 := by
  rw [csT_at hn n (Nat.le_refl _) n (Nat.le_refl _), dfR_at hn, osT, osS_at hn _ (Nat.le_refl _) n (Nat.le_refl _)]
  have h := odR_at 0 (100 - (n + 1) / 2) n hn (fun e _ he => by omega)
  rw [Nat.zero_add] at h
  rw [h]; rfl
theorem dnF_onF (n : Int) : dnF n = onF n := by
  cases h : nmB n
  · rw [dnF_f h, onF_f h]
  · obtain ⟨m, rfl, hm⟩ := nmB_nat h
    rw [dnF_t h, onF_t h]; exact diff_odd (by omega)
end Go.Proofs.Ytalmeamgnmboiaa
