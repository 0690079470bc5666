/-
  Strict partitions from odd parts: the powers of two in the numbers of equal parts.
-/
import Derived.Test.YthlamneaghbjbaaTkbMath
namespace Go.Proofs.Ythlamneaghbjbaa

def cntN (xs : List Int) (v : Int) : Nat → Nat
  | 0 => 0
  | k + 1 => cntN xs v k + if xs.getD k 0 = v then 1 else 0
theorem cntN_le (xs : List Int) (v : Int) : ∀ k, cntN xs v k ≤ k
  | 0 => Nat.le_refl _
  | k + 1 => by have := cntN_le xs v k; rw [cntN]; split <;> omega
theorem cntN_none {xs : List Int} {v : Int} {a : Nat} : ∀ k, a ≤ k → (∀ j, a ≤ j → j < k → xs.getD j 0 ≠ v) → cntN xs v k = cntN xs v a
  | 0, h, _ => by rw [show a = 0 by omega]
  | k + 1, h, hn => by
    by_cases e : a = k + 1
    · rw [e]
    · rw [cntN, if_neg (hn k (by omega) (by omega)), Nat.add_zero]
      exact cntN_none k (by omega) fun j h1 h2 => hn j h1 (by omega)
/-- The first k powers of two in m, times v. -/
def bitsTo (v m : Nat) : Nat → List Int
  | 0 => []
  | k + 1 => bitsTo v m k ++ if m / 2 ^ k % 2 = 1 then [((v * 2 ^ k : Nat) : Int)] else []
theorem bitsTo_len (v m : Nat) : ∀ k, (bitsTo v m k).length ≤ k
  | 0 => Nat.le_refl _
  | k + 1 => by have := bitsTo_len v m k; rw [bitsTo, List.length_append]; split <;> simp <;> omega
theorem bitsTo_all (v m : Nat) {k : Nat} (h : m < 2 ^ k) : ∀ d, bitsTo v m (k + d) = bitsTo v m k
  | 0 => rfl
  | d + 1 => by
    have h2 : m / 2 ^ (k + d) = 0 := Nat.div_eq_of_lt (Nat.lt_of_lt_of_le h (Nat.pow_le_pow_right (by omega) (by omega)))
    rw [← Nat.add_assoc, bitsTo, bitsTo_all v m h d, h2]; simp
def powL (v m : Nat) : List Int := bitsTo v m 5
theorem powL_of {v m k : Nat} (h : m < 2 ^ k) (hk : k ≤ 5) : bitsTo v m k = powL v m := by
  have := bitsTo_all v m h (5 - k)
  rw [show k + (5 - k) = 5 by omega] at this
  exact this.symm
theorem powL_zero (v : Nat) : powL v 0 = [] := by simp [powL, bitsTo]
/-- What the values from v on give, n values. -/
def hiL (xs : List Int) (v : Nat) : Nat → List Int
  | 0 => []
  | n + 1 => powL v (cntN xs v xs.length) ++ hiL xs (v + 1) n
theorem hiL_len (xs : List Int) : ∀ n v, (hiL xs v n).length ≤ n * 5
  | 0, _ => by simp [hiL]
  | n + 1, v => by
    have := hiL_len xs n (v + 1)
    have h2 := bitsTo_len v (cntN xs v xs.length) 5
    rw [hiL, List.length_append, Nat.add_mul]; unfold powL; omega
theorem hiL_snoc (xs : List Int) : ∀ n v, hiL xs v (n + 1) = hiL xs v n ++ powL (v + n) (cntN xs ((v + n : Nat) : Int) xs.length)
  | 0, v => by simp [hiL]
  | n + 1, v => by
    rw [hiL, hiL_snoc xs n (v + 1), ← List.append_assoc]
    conv => rhs; rw [hiL]
    rw [show v + 1 + n = v + (n + 1) by omega]
/-- Values that do not occur give nothing. -/
theorem hiL_skip {xs : List Int} {a : Nat} : ∀ d n, (∀ v, a ≤ v → v < a + d → cntN xs (v : Int) xs.length = 0) → hiL xs a (d + n) = hiL xs (a + d) n
  | 0, n, _ => by rw [Nat.zero_add]; rfl
  | d + 1, n, h => by
    rw [show d + 1 + n = (d + n) + 1 by omega, hiL, h a (Nat.le_refl _) (by omega), powL_zero, List.nil_append]
    have := hiL_skip (xs := xs) (a := a + 1) d n (fun v h1 h2 => h v (by omega) (by omega))
    rw [this, show a + 1 + d = a + (d + 1) by omega]
def allOdd (xs : List Int) : Bool := xs.all fun x => decide (Int.tmod x 2 = 1)
def sfB (xs : List Int) : Bool := good xs && allOdd xs
def sfF (xs : List Int) : List Int := if sfB xs then sortD (hiL xs 0 31) else []
theorem sfF_t {xs : List Int} (h : sfB xs = true) : sfF xs = sortD (hiL xs 0 31) := by simp [sfF, h]
theorem sfF_f {xs : List Int} (h : sfB xs = false) : sfF xs = [] := by simp [sfF, h]
theorem bound_StrictFromOdd (xs : List Int) : (sfF xs).length ≤ 1048576 := by
  cases h : sfB xs
  · rw [sfF_f h]; simp
  · rw [sfF_t h, sortD_len]
    have := hiL_len xs 31 0
    omega
theorem odd_no {xs : List Int} {k : Nat} (hk : k < xs.length) (h : ¬ Int.tmod (xs.getD k 0) 2 = 1) : sfB xs = false := by
  have : allOdd xs = false := by
    unfold allOdd
    rw [List.all_eq_false]
    refine ⟨xs.getD k 0, ?_, by simpa using h⟩
    rw [List.getD_eq_getElem?_getD, List.getElem?_eq_getElem hk]; exact List.getElem_mem hk
  simp [sfB, this]
theorem odd_yes {xs : List Int} (hg : good xs = true) (h : ∀ j, j < xs.length → Int.tmod (xs.getD j 0) 2 = 1) : sfB xs = true := by
  have : allOdd xs = true := by
    unfold allOdd
    rw [List.all_eq_true]
    intro x hx
    obtain ⟨j, hj, rfl⟩ := List.mem_iff_getElem.1 hx
    have := h j hj
    rw [List.getD_eq_getElem?_getD, List.getElem?_eq_getElem hj] at this
    exact decide_eq_true this
  simp [sfB, hg, this]
theorem good_anti {xs : List Int} (G : Good xs) {i j : Nat} (h : i ≤ j) (hj : j < xs.length) : xs.getD j 0 ≤ xs.getD i 0 := by
  have := down_le xs G.down i (j - i) (by omega)
  rwa [show i + (j - i) = j by omega] at this
end Go.Proofs.Ythlamneaghbjbaa
