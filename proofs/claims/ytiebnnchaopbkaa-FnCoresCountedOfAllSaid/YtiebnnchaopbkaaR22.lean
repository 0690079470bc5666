/-
  Several texts in one.
-/
import Derived.Test.YtiebnnchaopbkaaCB
import Derived.Test.YtiebnnchaopbkaaCA
/-
  Contracts: IsInside of the program and of the model.
-/
namespace Go.Proofs.Ytiebnnchaopbkaa
open Go.RowKit

def insideF (xs ys : List Int) : Bool := (good xs && good ys) && insideB xs ys
theorem insideF_t {xs ys : List Int} (h1 : good xs = true) (h2 : good ys = true) : insideF xs ys = insideB xs ys := by simp [insideF, h1, h2]
theorem insideF_f {xs ys : List Int} (h : (good xs && good ys) = false) : insideF xs ys = false := by simp [insideF, h]

end Go.Proofs.Ytiebnnchaopbkaa
/-
  Sizes: contracts of AreSizes on both sides.
-/
namespace Go.Proofs.Ytiebnnchaopbkaa
open Go.RowKit

/-- Whether a and b have the divisor k + 2, which is at most a. -/
def comAt (a b : Int) (k : Nat) : Bool := a % ((k : Int) + 2) == 0 && b % ((k : Int) + 2) == 0
def comD (a b : Int) : Bool := (List.range (a - 1).toNat).any (comAt a b)
def mostZ (a b : Int) : Int := (a * a - 1) * (b * b - 1) / 24
def sz (a b : Int) : Bool := inB 2 7 a && inB 2 7 b && !(decide (30 < mostZ a b)) && !(comD a b)

theorem comD_hit {a b : Int} {k : Nat} (hk : (k : Int) + 2 ≤ a) (h1 : a % ((k : Int) + 2) = 0) (h2 : b % ((k : Int) + 2) = 0) : comD a b = true := by
  unfold comD
  rw [List.any_eq_true]
  exact ⟨k, List.mem_range.2 (by omega), by simp [comAt, h1, h2]⟩
theorem comD_miss {a b : Int} {k : Nat} (hk : a < (k : Int) + 2) (h : ∀ j, j < k → comAt a b j = false) : comD a b = false := by
  unfold comD
  rw [List.any_eq_false]
  intro j hj
  rw [List.mem_range] at hj
  rw [h j (by omega)]; simp
theorem below_succ {a b : Int} {k : Nat} (h : ∀ j, j < k → comAt a b j = false) (hn : comAt a b k = false) : ∀ j, j < k + 1 → comAt a b j = false := by
  intro j hj
  by_cases e : j = k
  · rw [e]; exact hn
  · exact h j (by omega)
theorem comAt_t {a b : Int} {k : Nat} (h : a % ((k : Int) + 2) = 0 → ¬ b % ((k : Int) + 2) = 0) : comAt a b k = false := by
  unfold comAt
  by_cases h1 : a % ((k : Int) + 2) = 0
  · simp [h h1]
  · simp [h1]
theorem sq7 {a : Int} (h : 2 ≤ a ∧ a ≤ 7) : 4 ≤ a * a ∧ a * a ≤ 49 := by
  rcases (show a = 2 ∨ a = 3 ∨ a = 4 ∨ a = 5 ∨ a = 6 ∨ a = 7 by omega) with rfl | rfl | rfl | rfl | rfl | rfl <;> decide
theorem ab7 {a b : Int} (h : 2 ≤ a ∧ a ≤ 7) (k : 2 ≤ b ∧ b ≤ 7) : 0 ≤ (a * a - 1) * (b * b - 1) ∧ (a * a - 1) * (b * b - 1) ≤ 2304 := by
  rcases (show a = 2 ∨ a = 3 ∨ a = 4 ∨ a = 5 ∨ a = 6 ∨ a = 7 by omega) with rfl | rfl | rfl | rfl | rfl | rfl <;>
  rcases (show b = 2 ∨ b = 3 ∨ b = 4 ∨ b = 5 ∨ b = 6 ∨ b = 7 by omega) with rfl | rfl | rfl | rfl | rfl | rfl <;> decide

theorem inB_of {n lo hi : Int} {b : Bool} (h : inB lo hi n = b) : (b = true ∧ lo ≤ n ∧ n ≤ hi) ∨ (b = false ∧ (n < lo ∨ hi < n)) := by
  subst h
  by_cases k : lo ≤ n ∧ n ≤ hi
  · exact .inl ⟨inB_iff.2 k, k⟩
  · refine .inr ⟨?_, by omega⟩
    cases e : inB lo hi n
    · rfl
    · exact absurd (inB_iff.1 e) k

theorem sz_iff {a b : Int} : sz a b = true ↔ (2 ≤ a ∧ a ≤ 7) ∧ (2 ≤ b ∧ b ≤ 7) ∧ ¬ 30 < mostZ a b ∧ comD a b = false := by
  simp [sz, inB_iff, and_assoc]

end Go.Proofs.Ytiebnnchaopbkaa
/-
  Gaps: contracts of isSum, gaps, GapsOf on both sides.
-/
namespace Go.Proofs.Ytiebnnchaopbkaa
open Go.RowKit

/-- x is j b beside i a, for some i below 64. -/
def sumA (a b x : Int) : Bool := (List.range 64).any fun i => decide ((i : Int) * a ≤ x) && (x - (i : Int) * a) % b == 0
theorem sumA_hit {a b x : Int} {k : Nat} (hk : k < 64) (h1 : (k : Int) * a ≤ x) (h2 : (x - (k : Int) * a) % b = 0) : sumA a b x = true := by
  unfold sumA
  rw [List.any_eq_true]
  exact ⟨k, List.mem_range.2 hk, by simp [h1, h2]⟩
theorem sumA_miss {a b x : Int} (h : ∀ k : Nat, (k : Int) * a ≤ x → ¬ (x - (k : Int) * a) % b = 0) : sumA a b x = false := by
  unfold sumA
  rw [List.any_eq_false]
  intro k _
  by_cases h1 : (k : Int) * a ≤ x
  · simp [h1, h k h1]
  · simp [h1]
/-- None of the multiples below k a is one. -/
def NoSum (a b x : Int) (k : Nat) : Prop := ∀ j : Nat, j < k → ¬ (x - (j : Int) * a) % b = 0
theorem noSum_end {a b x : Int} {k : Nat} (ha : 2 ≤ a) (hk : x < (k : Int) * a) (h : NoSum a b x k) : sumA a b x = false := by
  refine sumA_miss fun j hj => h j ?_
  by_cases e : j < k
  · exact e
  · exfalso
    have : (k : Int) * a ≤ (j : Int) * a := Int.mul_le_mul_of_nonneg_right (by omega) (by omega)
    omega
theorem NoSum.succ {a b x : Int} {k : Nat} (h : NoSum a b x k) (hn : ¬ (x - (k : Int) * a) % b = 0) : NoSum a b x (k + 1) := by
  intro j hj
  by_cases e : j = k
  · rw [e]; exact hn
  · exact h j (by omega)
theorem kmul_le {a : Int} {k : Nat} (ha : 2 ≤ a) : 2 * (k : Int) ≤ (k : Int) * a := by
  have : (k : Int) * 2 ≤ (k : Int) * a := Int.mul_le_mul_of_nonneg_left ha (by omega)
  omega

theorem emod_back {x k : Int} {a : Int} (h : x = k) : x % a = k % a := by rw [h]
/-! The finite table: sums are told alike in both orders. -/
theorem sumA_swapN : ∀ a < 8, ∀ b < 8, ∀ x < 64, sz ((a : Nat) : Int) ((b : Nat) : Int) = true → sumA (a : Int) (b : Int) ((x : Nat) : Int) = sumA (b : Int) (a : Int) (x : Int) := by decide +kernel
theorem sumA_swap {a b x : Int} (h : sz a b = true) (hx : 0 ≤ x ∧ x < 64) : sumA b a x = sumA a b x := by
  obtain ⟨ha, hb, -⟩ := sz_iff.1 h
  have := sumA_swapN a.toNat (by omega) b.toNat (by omega) x.toNat (by omega)
  rw [Int.toNat_of_nonneg (by omega), Int.toNat_of_nonneg (by omega), Int.toNat_of_nonneg (by omega)] at this
  exact (this h).symm

def gpN (a b : Int) (n : Nat) : Bool := decide (1 ≤ n) && !(sumA a b n)
def gpL (f : Nat → Bool) (k : Nat) : List Int := ((List.range k).filter f).map fun r : Nat => (r : Int)
theorem gpL_t {f : Nat → Bool} {k : Nat} (h : f k = true) : gpL f (k + 1) = gpL f k ++ [(k : Int)] := by
  unfold gpL; rw [List.range_succ, List.filter_append, List.map_append, List.filter_cons_of_pos h]; rfl
theorem gpL_f {f : Nat → Bool} {k : Nat} (h : f k = false) : gpL f (k + 1) = gpL f k := by
  unfold gpL; rw [List.range_succ, List.filter_append, List.filter_cons_of_neg (by rw [h]; exact Bool.false_ne_true), List.filter_nil, List.append_nil]
theorem gpL_len (f : Nat → Bool) (k : Nat) : (gpL f k).length ≤ k := by
  unfold gpL
  rw [List.length_map]
  have := List.length_filter_le f (List.range k)
  rw [List.length_range] at this; exact this
theorem gpL_one (a b : Int) : gpL (gpN a b) 1 = [] := by rw [gpL_f (by simp [gpN])]; rfl
def gapsL (a b : Int) : List Int := gpL (gpN a b) (a * b).toNat
def gapsF (a b : Int) : List Int := if sz a b then gapsL a b else []
theorem bound_GapsOf (a b : Int) : (gapsF a b).length ≤ 1048576 := by
  unfold gapsF
  split
  · rename_i h
    obtain ⟨ha, hb, -⟩ := sz_iff.1 h
    have h1 := gpL_len (gpN a b) (a * b).toNat
    have h2 : a * b ≤ 49 := by
      have : a * b ≤ 7 * 7 := Int.mul_le_mul ha.2 hb.2 (by omega) (by omega)
      omega
    unfold gapsL; omega
  · exact Nat.zero_le _
theorem ab49 {a b : Int} (ha : 2 ≤ a ∧ a ≤ 7) (hb : 2 ≤ b ∧ b ≤ 7) : 4 ≤ a * b ∧ a * b ≤ 49 := by
  rcases (show a = 2 ∨ a = 3 ∨ a = 4 ∨ a = 5 ∨ a = 6 ∨ a = 7 by omega) with rfl | rfl | rfl | rfl | rfl | rfl <;> omega

end Go.Proofs.Ytiebnnchaopbkaa
