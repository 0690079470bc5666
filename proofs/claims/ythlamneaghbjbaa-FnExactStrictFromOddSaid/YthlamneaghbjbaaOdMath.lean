/-
  Odd parts: what a number leaves when it is halved as long as it is even.
-/
import Derived.Test.YthlamneaghbjbaaTkbMath
namespace Go.Proofs.Ythlamneaghbjbaa

def odN : Nat → Nat → Nat
  | 0, y => y
  | f + 1, y => if y % 2 = 0 then odN f (y / 2) else y
def od (y : Nat) : Nat := odN 5 y
theorem od_half : ∀ y, y < 31 → 1 ≤ y → y % 2 = 0 → od (y / 2) = od y ∧ 1 ≤ y / 2 := by decide +kernel
theorem od_odd : ∀ y, y < 31 → y % 2 = 1 → od y = y := by decide +kernel
theorem od_ok : ∀ y, y < 31 → 1 ≤ y → 1 ≤ od y ∧ od y ≤ y ∧ y / od y * od y = y ∧ 1 ≤ y / od y ∧ od y % 2 = 1 := by decide +kernel
/-- The parts that the first k parts become. -/
def oddL (xs : List Int) : Nat → List Int
  | 0 => []
  | k + 1 => oddL xs k ++ List.replicate ((xs.getD k 0).toNat / od (xs.getD k 0).toNat) (od (xs.getD k 0).toNat : Int)
theorem oddL_len {xs : List Int} (G : Good xs) : ∀ k, k ≤ xs.length → (oddL xs k).length ≤ k * 30
  | 0, _ => by simp [oddL]
  | k + 1, h => by
    have := oddL_len G k (by omega)
    have h1 := G.le k (by omega)
    have h2 := G.pos k (by omega)
    have h3 := Nat.div_le_self (xs.getD k 0).toNat (od (xs.getD k 0).toNat)
    rw [oddL, List.length_append, List.length_replicate, Nat.add_mul]; omega
theorem oddL_le {xs : List Int} (G : Good xs) (k : Nat) (h : k ≤ xs.length) : (oddL xs k).length ≤ 900 := by
  have := oddL_len G k h
  have := G.len
  have h2 : k * 30 ≤ 30 * 30 := Nat.mul_le_mul_right _ (by omega)
  omega
def ofF (xs : List Int) : List Int := if strB xs then sortD (oddL xs xs.length) else []
theorem ofF_t {xs : List Int} (h : strB xs = true) : ofF xs = sortD (oddL xs xs.length) := by simp [ofF, h]
theorem ofF_f {xs : List Int} (h : strB xs = false) : ofF xs = [] := by simp [ofF, h]
theorem bound_OddFromStrict (xs : List Int) : (ofF xs).length ≤ 1048576 := by
  cases h : strB xs
  · rw [ofF_f h]; simp
  · rw [ofF_t h, sortD_len]
    have := oddL_le (strB_good h) xs.length (Nat.le_refl _)
    omega
end Go.Proofs.Ythlamneaghbjbaa
