/-
  Plain facts on levels told by counts, and reflected ones. No program in this text.
-/
import Derived.Test.YtabnhmjiegeldaaLevMath
namespace Go.Proofs.Ytabnhmjiegeldaa

/-- A row that is filled from the front. -/
def rowK (n : Nat) (f : Nat → Int) (k : Nat) : List Int := fnRow n fun m => if m < k then f m else 0
theorem rowK_zero (n : Nat) (f : Nat → Int) : rowK n f 0 = fnRow n (fun _ => 0) := rowF_ext _ _ _ fun j _ => by simp
theorem rowK_all (n : Nat) (f : Nat → Int) : rowK n f n = fnRow n f := rowF_ext _ _ _ fun j hj => by rw [if_pos hj]
theorem rowK_len (n : Nat) (f : Nat → Int) (k : Nat) : (rowK n f k).length = n := fnRow_len _ _
theorem rowK_succ (n : Nat) (f : Nat → Int) (k : Nat) : (rowK n f k).set k (f k) = rowK n f (k + 1) := by
  unfold rowK
  rw [fnRow_set]
  refine rowF_ext _ _ _ fun j _ => ?_
  by_cases h : j = k
  · subst h; rw [if_pos rfl, if_pos (by omega)]
  · rw [if_neg h]
    by_cases h2 : j < k
    · rw [if_pos h2, if_pos (by omega)]
    · rw [if_neg h2, if_neg (by omega)]

def diffF (xs : List Int) (m : Nat) : Int := xs.getD m 0 - xs.getD ((m + 1) % xs.length) 0
def diffL (xs : List Int) : List Int := fnRow xs.length (diffF xs)
theorem diffL_len (xs : List Int) : (diffL xs).length = xs.length := fnRow_len _ _
def cntOk (xs : List Int) : Bool := inB 2 6 (xs.length : Int) && xs.all (inB 0 30)
def fromB (xs : List Int) : Bool := cntOk xs && levB (diffL xs)
def fromCF (xs : List Int) : List Int := if fromB xs then diffL xs else []
theorem bound_LevelsFromCounts (xs : List Int) : (fromCF xs).length ≤ 1048576 := by
  unfold fromCF; split
  · rename_i h
    simp only [fromB, Bool.and_eq_true] at h
    have := (levB_iff.1 h.2).hi; omega
  · simp
theorem fromB_c {xs : List Int} (h : cntOk xs = false) : fromB xs = false := by simp [fromB, h]
theorem cntOk_len {xs : List Int} (h : inB 2 6 (xs.length : Int) = false) : cntOk xs = false := by simp [cntOk, h]
theorem cntOk_all {xs : List Int} (h : xs.all (inB 0 30) = false) : cntOk xs = false := by simp [cntOk, h]
theorem fromB_l {xs : List Int} (h : inB 2 6 (xs.length : Int) = true) (h2 : xs.all (inB 0 30) = true) : fromB xs = levB (diffL xs) := by simp [fromB, cntOk, h, h2]
theorem fromCF_f {xs : List Int} (h : fromB xs = false) : fromCF xs = [] := by simp [fromCF, h]
theorem fromCF_t {xs : List Int} (h : fromB xs = true) : fromCF xs = diffL xs := by simp [fromCF, h]

def reflL (xs : List Int) (i : Nat) : List Int :=
  if i = 0 then (xs.set 0 (xs.getD (xs.length - 1) 0 + 1)).set (xs.length - 1) (xs.getD 0 0 - 1)
  else (xs.set (i - 1) (xs.getD i 0)).set i (xs.getD (i - 1) 0)
theorem reflL_len (xs : List Int) (i : Nat) : (reflL xs i).length = xs.length := by unfold reflL; split <;> simp
def reflA (xs : List Int) (i : Int) : Bool := levB xs && (decide (0 ≤ i) && decide (i < xs.length))
def reflB (xs : List Int) (i : Int) : Bool := reflA xs i && levB (reflL xs i.toNat)
def reflF (xs : List Int) (i : Int) : List Int := if reflB xs i then reflL xs i.toNat else []
theorem reflF_f {xs : List Int} {i : Int} (h : reflB xs i = false) : reflF xs i = [] := by simp [reflF, h]
theorem reflF_t {xs : List Int} {i : Int} (h : reflB xs i = true) : reflF xs i = reflL xs i.toNat := by simp [reflF, h]
theorem reflB_a {xs : List Int} {i : Int} (h : reflA xs i = false) : reflB xs i = false := by simp [reflB, h]
theorem reflB_l {xs : List Int} {i : Int} (h : reflA xs i = true) : reflB xs i = levB (reflL xs i.toNat) := by simp [reflB, h]
theorem reflA_lev {xs : List Int} {i : Int} (h : levB xs = false) : reflA xs i = false := by simp [reflA, h]
theorem bound_ReflectLevels (xs : List Int) (i : Int) : (reflF xs i).length ≤ 1048576 := by
  unfold reflF; split
  · rename_i h
    simp only [reflB, Bool.and_eq_true] at h
    have := (levB_iff.1 h.2).hi; omega
  · simp
end Go.Proofs.Ytabnhmjiegeldaa
