/-
  Strict partitions: parts that fall.
-/
import Derived.Test.YtphfmlfojebjkaaCA
namespace Go.Proofs.Ytphfmlfojebjkaa

/-- The first k parts after the first are less than those before them. -/
def dcrTo (xs : List Int) : Nat → Bool
  | 0 => true
  | k + 1 => dcrTo xs k && decide (xs.getD (k + 1) 0 < xs.getD k 0)
theorem dcrTo_le {xs : List Int} : ∀ {k j : Nat}, dcrTo xs k = true → j ≤ k → dcrTo xs j = true
  | 0, j, h, hj => by rw [show j = 0 by omega]; exact h
  | k + 1, j, h, hj => by
    by_cases e : j = k + 1
    · subst e; exact h
    · simp only [dcrTo, Bool.and_eq_true] at h
      exact dcrTo_le h.1 (by omega)
theorem dcrTo_no {xs : List Int} {k n : Nat} (h : ¬ xs.getD (k + 1) 0 < xs.getD k 0) (hk : k < n) : dcrTo xs n = false := by
  cases hd : dcrTo xs n
  · rfl
  · have := dcrTo_le hd (show k + 1 ≤ n by omega)
    simp only [dcrTo, Bool.and_eq_true, decide_eq_true_eq] at this
    exact absurd this.2 h
theorem dcrTo_lt {xs : List Int} {n k : Nat} (h : dcrTo xs n = true) (hk : k < n) : xs.getD (k + 1) 0 < xs.getD k 0 := by
  have := dcrTo_le h (show k + 1 ≤ n by omega)
  simp only [dcrTo, Bool.and_eq_true, decide_eq_true_eq] at this
  exact this.2
def dcr (xs : List Int) : Bool := dcrTo xs (xs.length - 1)
def strB (xs : List Int) : Bool := good xs && dcr xs
theorem strB_good {xs : List Int} (h : strB xs = true) : Good xs := by
  simp only [strB, Bool.and_eq_true] at h
  exact (good_iff xs).1 h.1
theorem strB_lt {xs : List Int} (h : strB xs = true) {i j : Nat} (hij : i < j) (hj : j < xs.length) : xs.getD j 0 < xs.getD i 0 := by
  simp only [strB, Bool.and_eq_true] at h
  have step : ∀ d, i + d + 1 < xs.length → xs.getD (i + d + 1) 0 < xs.getD i 0 := by
    intro d
    induction d with
    | zero => intro h1; exact dcrTo_lt (k := i) h.2 (by omega)
    | succ d ih =>
      intro h1
      have a := ih (by omega)
      have b := dcrTo_lt (xs := xs) (k := i + d + 1) h.2 (by omega)
      rw [show i + (d + 1) + 1 = i + d + 1 + 1 by omega]; omega
  have := step (j - i - 1) (by omega)
  rwa [show i + (j - i - 1) + 1 = j by omega] at this
theorem strB_ne {xs : List Int} (h : strB xs = true) {i j : Nat} (hi : i < xs.length) (hj : j < xs.length) (e : xs.getD i 0 = xs.getD j 0) : i = j := by
  rcases Nat.lt_trichotomy i j with h1 | h1 | h1
  · have := strB_lt h h1 hj; omega
  · exact h1
  · have := strB_lt h h1 hi; omega
end Go.Proofs.Ytphfmlfojebjkaa
