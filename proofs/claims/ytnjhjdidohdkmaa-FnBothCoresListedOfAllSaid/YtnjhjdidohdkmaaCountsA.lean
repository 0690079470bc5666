/-
  Contracts: CountsOf of the program and of the model.
-/
import Derived.Test.YtnjhjdidohdkmaaCB
namespace Go.Proofs.Ytnjhjdidohdkmaa
open Go.RowKit

def cnt (r : Nat) (xs : List Int) (j : Nat) : Int := ((xs.filter fun x => decide (x % (r : Int) = (j : Int))).length : Nat)
def cntL (r : Nat) (xs : List Int) : List Int := fnRow r (cnt r xs)
def cntK (r : Nat) (xs : List Int) (k : Nat) : List Int := cntL r (xs.take k)
theorem cntK_zero (r : Nat) (xs : List Int) : cntK r xs 0 = fnRow r (fun _ => 0) := rowF_ext _ _ _ fun j _ => by simp [cnt]
theorem cntK_all (r : Nat) (xs : List Int) : cntK r xs xs.length = cntL r xs := by unfold cntK; rw [List.take_of_length_le (Nat.le_refl _)]
theorem cntK_len (r : Nat) (xs : List Int) (k : Nat) : (cntK r xs k).length = r := fnRow_len _ _
theorem cntK_succ (r : Nat) (xs : List Int) (k m : Nat) (hk : k < xs.length) (hm : xs.getD k 0 % (r : Int) = (m : Int)) (hmr : m < r) : (cntK r xs k).set m ((cntK r xs k).getD m 0 + 1) = cntK r xs (k + 1) := by
  unfold cntK cntL
  rw [fnRow_get _ _ _ hmr, fnRow_set]
  refine rowF_ext _ _ _ fun j _ => ?_
  rw [List.take_succ_eq_append_getElem hk]
  have e : xs[k] = xs.getD k 0 := by simp [List.getD, hk]
  unfold cnt
  rw [e, List.filter_append, List.length_append]
  by_cases h : j = m
  · subst h
    rw [if_pos rfl]
    simp only [List.filter_cons, List.filter_nil, hm, decide_true, if_true, List.length_singleton]
    omega
  · rw [if_neg h]
    have : ¬ xs.getD k 0 % (r : Int) = (j : Int) := by rw [hm]; omega
    simp only [List.filter_cons, List.filter_nil, this, decide_false, Bool.false_eq_true, if_false, List.length_nil]
    omega
theorem cntK_bd (r : Nat) (xs : List Int) (k m : Nat) (hm : m < r) : 0 ≤ (cntK r xs k).getD m 0 ∧ (cntK r xs k).getD m 0 ≤ k := by
  unfold cntK cntL
  rw [fnRow_get _ _ _ hm]
  unfold cnt
  have := List.length_filter_le (fun x => decide (x % (r : Int) = (m : Int))) (xs.take k)
  have h2 : (xs.take k).length ≤ k := by rw [List.length_take]; omega
  omega
def countsF (r : Int) (xs : List Int) : List Int := if isAba r xs then cntL r.toNat xs else []
theorem bound_CountsOf (r : Int) (xs : List Int) : (countsF r xs).length ≤ 1048576 := by
  unfold countsF; split
  · rename_i h
    simp only [isAba, Bool.and_eq_true] at h
    have := inB_iff.1 h.1
    unfold cntL; rw [fnRow_len]; omega
  · simp

end Go.Proofs.Ytnjhjdidohdkmaa
