/-
  Plain facts: the rows that meet a test, in order. No program in this text.
-/
import Derived.Test.YtabnhmjiegeldaaCellMath
namespace Go.Proofs.Ytabnhmjiegeldaa

def filt (p : Nat → Bool) (k : Nat) : List Int := ((List.range k).filter p).map fun i : Nat => (i : Int)
theorem filt_yes {p : Nat → Bool} {k : Nat} (h : p k = true) : filt p (k + 1) = filt p k ++ [(k : Int)] := by simp [filt, List.range_succ, List.filter_append, h]
theorem filt_no {p : Nat → Bool} {k : Nat} (h : p k = false) : filt p (k + 1) = filt p k := by simp [filt, List.range_succ, List.filter_append, h]
theorem filt_len (p : Nat → Bool) (k : Nat) : (filt p k).length ≤ k := by
  unfold filt; rw [List.length_map]
  have := List.length_filter_le p (List.range k)
  rw [List.length_range] at this; exact this
theorem filt_zero (p : Nat → Bool) : filt p 0 = [] := rfl
def corB (xs : List Int) (r : Nat) : Bool := decide (r + 1 = xs.length) || decide (xs.getD (r + 1) 0 < xs.getD r 0)
def addB (xs : List Int) (r : Nat) : Bool := decide (r = 0) || (decide (r = xs.length) || decide (xs.getD r 0 < xs.getD (r - 1) 0))
def corF (xs : List Int) : List Int := if good xs then filt (corB xs) xs.length else []
def addF (xs : List Int) : List Int := if good xs then filt (addB xs) (xs.length + 1) else []
theorem corF_t {xs : List Int} (h : good xs = true) : corF xs = filt (corB xs) xs.length := by simp [corF, h]
theorem corF_f {xs : List Int} (h : good xs = false) : corF xs = [] := by simp [corF, h]
theorem addF_t {xs : List Int} (h : good xs = true) : addF xs = filt (addB xs) (xs.length + 1) := by simp [addF, h]
theorem addF_f {xs : List Int} (h : good xs = false) : addF xs = [] := by simp [addF, h]
theorem bound_CornersOf (xs : List Int) : (corF xs).length ≤ 1048576 := by
  unfold corF
  split
  · rename_i h
    have := filt_len (corB xs) xs.length
    have := ((good_iff xs).1 h).len
    omega
  · simp
theorem bound_AddableOf (xs : List Int) : (addF xs).length ≤ 1048576 := by
  unfold addF
  split
  · rename_i h
    have := filt_len (addB xs) (xs.length + 1)
    have := ((good_iff xs).1 h).len
    omega
  · simp
theorem cor_last {xs : List Int} {r : Nat} (h : r + 1 = xs.length) : corB xs r = true := by simp [corB, h]
theorem cor_lt {xs : List Int} {r : Nat} (h : xs.getD (r + 1) 0 < xs.getD r 0) : corB xs r = true := by
  unfold corB; rw [decide_eq_true h, Bool.or_true]
theorem cor_no {xs : List Int} {r : Nat} (h : r + 1 ≠ xs.length) (h2 : ¬ xs.getD (r + 1) 0 < xs.getD r 0) : corB xs r = false := by
  unfold corB; rw [decide_eq_false h, decide_eq_false h2]; rfl
theorem add_zero (xs : List Int) : addB xs 0 = true := by simp [addB]
theorem add_last (xs : List Int) : addB xs xs.length = true := by
  unfold addB; rw [decide_eq_true (p := xs.length = xs.length) rfl, Bool.true_or, Bool.or_true]
theorem add_lt {xs : List Int} {r : Nat} (h : xs.getD r 0 < xs.getD (r - 1) 0) : addB xs r = true := by
  unfold addB; rw [decide_eq_true h, Bool.or_true, Bool.or_true]
theorem add_no {xs : List Int} {r : Nat} (h : r ≠ 0) (h1 : r ≠ xs.length) (h2 : ¬ xs.getD r 0 < xs.getD (r - 1) 0) : addB xs r = false := by
  unfold addB; rw [decide_eq_false h, decide_eq_false h1, decide_eq_false h2]; rfl
end Go.Proofs.Ytabnhmjiegeldaa
