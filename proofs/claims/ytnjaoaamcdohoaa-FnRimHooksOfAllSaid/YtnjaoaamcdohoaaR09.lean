/-
  Several texts in one.
-/
import Derived.Test.YtnjaoaamcdohoaaBeadMath
import Derived.Test.YtnjaoaamcdohoaaCB
/-
  Plain facts on Maya's numbers of a list of parts, as the model and the program tell them.
-/
namespace Go.Proofs.Ytnjaoaamcdohoaa

def num (p : List Int) (i : Nat) : Int := p.getD i 0 - i - 1
def mayaA (p : List Int) : Nat → List Int
  | 0 => []
  | k + 1 => mayaA p k ++ if 0 ≤ num p k then [num p k] else []
def heldL (p : List Int) (k : Nat) : List Int := (List.range k).map (num p)
def mayaB (p : List Int) : Nat → List Int
  | 0 => []
  | j + 1 => mayaB p j ++ if (-1 - (j : Int)) ∈ heldL p p.length then [] else [-1 - (j : Int)]
def mayaL (p : List Int) : List Int := mayaA p p.length ++ mayaB p p.length
def mayaF (p : List Int) : List Int := if good p then mayaL p else []
theorem mayaA_yes {p : List Int} {k : Nat} {x : Int} (hx : x = num p k) (h : 0 ≤ x) : mayaA p (k + 1) = mayaA p k ++ [x] := by subst hx; simp only [mayaA]; rw [if_pos h]
theorem mayaA_no {p : List Int} {k : Nat} {x : Int} (hx : x = num p k) (h : ¬ 0 ≤ x) : mayaA p (k + 1) = mayaA p k := by subst hx; simp only [mayaA]; rw [if_neg h, List.append_nil]
theorem mayaB_yes {p : List Int} {j : Nat} (h : (-1 - (j : Int)) ∈ heldL p p.length) : mayaB p (j + 1) = mayaB p j := by simp only [mayaB]; rw [if_pos h, List.append_nil]
theorem mayaB_no {p : List Int} {j : Nat} (h : ¬ (-1 - (j : Int)) ∈ heldL p p.length) : mayaB p (j + 1) = mayaB p j ++ [-1 - (j : Int)] := by simp only [mayaB]; rw [if_neg h]
theorem mayaA_len (p : List Int) : ∀ k, (mayaA p k).length ≤ k
  | 0 => by simp [mayaA]
  | k + 1 => by have := mayaA_len p k; simp only [mayaA, List.length_append]; split <;> simp <;> omega
theorem mayaB_len (p : List Int) : ∀ k, (mayaB p k).length ≤ k
  | 0 => by simp [mayaB]
  | k + 1 => by have := mayaB_len p k; simp only [mayaB, List.length_append]; split <;> simp <;> omega
theorem heldL_len (p : List Int) (k : Nat) : (heldL p k).length = k := by simp [heldL]
theorem heldL_succ (p : List Int) (k : Nat) : heldL p (k + 1) = heldL p k ++ [num p k] := by simp [heldL, List.range_succ]
theorem heldL_get (p : List Int) (k j : Nat) (h : j < k) : (heldL p k).getD j 0 = num p j := by simp [heldL, List.getD, h]
theorem mayaL_len (p : List Int) : (mayaL p).length ≤ 2 * p.length := by
  unfold mayaL; rw [List.length_append]; have := mayaA_len p p.length; have := mayaB_len p p.length; omega
theorem bound_MayaOf (p : List Int) : (mayaF p).length ≤ 1048576 := by
  unfold mayaF; split
  · rename_i h; have := ((good_iff p).1 h).len; have := mayaL_len p; omega
  · simp
theorem num_bd {p : List Int} (G : Good p) {i : Nat} (h : i < p.length) : -31 ≤ num p i ∧ num p i ≤ 30 := by
  have := G.pos i h; have := G.le i h; have := G.len; unfold num; omega
/-- A bead at a place stands for a number that is held. -/
theorem bead_held (p : List Int) (j : Nat) (hj : j < p.length) : ((p.length - 1 - j : Nat) : Int) ∈ beadsL p p.length ↔ (-1 - (j : Int)) ∈ heldL p p.length := by
  have key : ∀ i, i < p.length → bead p p.length (p.length - 1 - i) = num p i + p.length := by
    intro i hi
    unfold bead num
    rw [show p.length - 1 - (p.length - 1 - i) = i by omega]; omega
  constructor
  · intro h
    simp only [beadsL, fnRow, List.mem_map, List.mem_range] at h
    obtain ⟨i, hi, e⟩ := h
    simp only [heldL, List.mem_map, List.mem_range]
    refine ⟨p.length - 1 - i, by omega, ?_⟩
    have := key (p.length - 1 - i) (by omega)
    rw [show p.length - 1 - (p.length - 1 - i) = i by omega] at this
    omega
  · intro h
    simp only [heldL, List.mem_map, List.mem_range] at h
    obtain ⟨i, hi, e⟩ := h
    simp only [beadsL, fnRow, List.mem_map, List.mem_range]
    refine ⟨p.length - 1 - i, by omega, ?_⟩
    have := key i hi
    omega
end Go.Proofs.Ytnjaoaamcdohoaa
/-
  Contracts: CountsOf of the program and of the model.
-/
namespace Go.Proofs.Ytnjaoaamcdohoaa
open Go.RowKit

def cnt (r : Nat) (xs : List Int) (j : Nat) : Int := ((xs.filter fun x => decide (x % (r : Int) = (j : Int))).length : Nat)
def cntL (r : Nat) (xs : List Int) : List Int := fnRow r (cnt r xs)
def cntK (r : Nat) (xs : List Int) (k : Nat) : List Int := cntL r (xs.take k)
theorem cntK_zero (r : Nat) (xs : List Int) : cntK r xs 0 = fnRow r (fun _ => 0) := rowF_ext _ _ _ fun j _ => by simp [cnt]
theorem cntK_all (r : Nat) (xs : List Int) : cntK r xs xs.length = cntL r xs := by unfold cntK; rw [List.take_of_length_le (Nat.le_refl _)]
theorem cntK_len (r : Nat) (xs : List Int) (k : Nat) : (cntK r xs k).length = r := fnRow_len _ _
theorem cntK_succ (r : Nat) (xs : List Int) (k m : Nat) (hk : k < xs.length) (hm : xs.getD k 0 % (r : Int) = (m : Int)) (hmr : m < r) : (cntK r xs k).set m ((cntK r xs k).getD m 0 + 1) = cntK r xs (k + 1) := by
  unfold cntK cntL
  rw [fnRow_get _ _ _ hmr, fnRow_set]
  refine rowF_ext _ _ _ fun j _ => ?_
  rw [List.take_succ_eq_append_getElem hk]
  have e : xs[k] = xs.getD k 0 := by simp [List.getD, hk]
  unfold cnt
  rw [e, List.filter_append, List.length_append]
  by_cases h : j = m
  · subst h
    rw [if_pos rfl]
    simp only [List.filter_cons, List.filter_nil, hm, decide_true, if_true, List.length_singleton]
    omega
  · rw [if_neg h]
    have : ¬ xs.getD k 0 % (r : Int) = (j : Int) := by rw [hm]; omega
    simp only [List.filter_cons, List.filter_nil, this, decide_false, Bool.false_eq_true, if_false, List.length_nil]
    omega
theorem cntK_bd (r : Nat) (xs : List Int) (k m : Nat) (hm : m < r) : 0 ≤ (cntK r xs k).getD m 0 ∧ (cntK r xs k).getD m 0 ≤ k := by
  unfold cntK cntL
  rw [fnRow_get _ _ _ hm]
  unfold cnt
  have := List.length_filter_le (fun x => decide (x % (r : Int) = (m : Int))) (xs.take k)
  have h2 : (xs.take k).length ≤ k := by rw [List.length_take]; omega
  omega
def countsF (r : Int) (xs : List Int) : List Int := if isAba r xs then cntL r.toNat xs else []
theorem bound_CountsOf (r : Int) (xs : List Int) : (countsF r xs).length ≤ 1048576 := by
  unfold countsF; split
  · rename_i h
    simp only [isAba, Bool.and_eq_true] at h
    have := inB_iff.1 h.1
    unfold cntL; rw [fnRow_len]; omega
  · simp

end Go.Proofs.Ytnjaoaamcdohoaa
