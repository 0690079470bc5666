/-
  Plain facts: the numbers of cores as a series, as the program makes them and as the model makes them, step by step with the machine's own sums; both agree for all runners and sizes.
-/
import Derived.Test.YtabnhmjiegeldaaBeadMath
import Derived.IntWalk
import Derived.KernelRfl
namespace Go.Proofs.Ytabnhmjiegeldaa
open Go.RowKit

def addP (S : List Int) (k : Nat) : Nat → List Int
  | 0 => S
  | c + 1 => let R := addP S k c; R.set (k + c) (IntKind.i64.wrap (R.getD (k + c) 0 + R.getD c 0))
def subP (S : List Int) (d n : Nat) : Nat → List Int
  | 0 => S
  | c + 1 => let R := subP S d n c; R.set (n - c) (IntKind.i64.wrap (R.getD (n - c) 0 - R.getD (n - c - d) 0))
def subT (S : List Int) (d n : Nat) : Nat → List Int
  | 0 => S
  | j + 1 => subP (subT S d n j) d n (n + 1 - d)
def serS (t n : Nat) : Nat → List Int
  | 0 => (fnRow (n + 1) (fun _ => 0)).set 0 1
  | K + 1 => subT (addP (serS t n K) (K + 1) (n - K)) (t * (K + 1)) n t
theorem addP_len (S : List Int) (k c : Nat) : (addP S k c).length = S.length := by
  induction c with
  | zero => rfl
  | succ c ih => simp only [addP, List.length_set, ih]
theorem subP_len (S : List Int) (d n c : Nat) : (subP S d n c).length = S.length := by
  induction c with
  | zero => rfl
  | succ c ih => simp only [subP, List.length_set, ih]
theorem subT_len (S : List Int) (d n j : Nat) : (subT S d n j).length = S.length := by
  induction j with
  | zero => rfl
  | succ j ih => simp only [subT, subP_len, ih]
theorem serS_len (t n K : Nat) : (serS t n K).length = n + 1 := by
  induction K with
  | zero => simp [serS, fnRow]
  | succ K ih => simp only [serS, subT_len, addP_len, ih]
theorem addP_succ (S : List Int) (k c : Nat) : addP S k (c + 1) = (addP S k c).set (k + c) (IntKind.i64.wrap ((addP S k c).getD (k + c) 0 + (addP S k c).getD c 0)) := rfl
theorem subP_succ (S : List Int) (d n c : Nat) : subP S d n (c + 1) = (subP S d n c).set (n - c) (IntKind.i64.wrap ((subP S d n c).getD (n - c) 0 - (subP S d n c).getD (n - c - d) 0)) := rfl

def lgD (t k : Nat) : Nat → Int
  | 0 => 0
  | d + 1 => if k % (d + 1) = 0 then (if (d + 1) % t = 0 then IntKind.i64.wrap (IntKind.i64.wrap (lgD t k d + (d + 1 : Nat)) - IntKind.i64.wrap ((t : Int) * (d + 1 : Nat))) else IntKind.i64.wrap (lgD t k d + (d + 1 : Nat))) else lgD t k d
def lg (t k : Nat) : Int := lgD t k k
def sumI (S : List Int) (t z : Nat) : Nat → Int
  | 0 => 0
  | c + 1 => IntKind.i64.wrap (sumI S t z c + IntKind.i64.wrap (lg t (c + 1) * S.getD (z - (c + 1)) 0))
def serI (t : Nat) : Nat → List Int
  | 0 => [1]
  | K + 1 => let S := serI t K; S ++ [IntKind.i64.wrap ((sumI S t (K + 1) (K + 1)).tdiv (K + 1 : Nat))]
theorem serI_len (t K : Nat) : (serI t K).length = K + 1 := by
  induction K with
  | zero => rfl
  | succ K ih => simp only [serI, List.length_append, ih, List.length_singleton]

def serAll (t : Nat) : Bool := (List.range 31).all fun n => serI t n == serS t n n
theorem serAll2 : serAll 2 = true := by kernel_rfl
theorem serAll3 : serAll 3 = true := by kernel_rfl
theorem serAll4 : serAll 4 = true := by kernel_rfl
theorem serAll5 : serAll 5 = true := by kernel_rfl
theorem serAll6 : serAll 6 = true := by kernel_rfl
theorem ser_same {t n : Nat} (ht : 2 ≤ t ∧ t ≤ 6) (hn : n ≤ 30) : serI t n = serS t n n := by
  have key : ∀ t, serAll t = true → serI t n = serS t n n := fun t h => by
    unfold serAll at h
    rw [List.all_eq_true] at h
    exact eq_of_beq (h n (List.mem_range.2 (by omega)))
  have : t = 2 ∨ t = 3 ∨ t = 4 ∨ t = 5 ∨ t = 6 := by omega
  rcases this with rfl | rfl | rfl | rfl | rfl
  · exact key _ serAll2
  · exact key _ serAll3
  · exact key _ serAll4
  · exact key _ serAll5
  · exact key _ serAll6
end Go.Proofs.Ytabnhmjiegeldaa
