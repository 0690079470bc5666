/-
  Several texts in one.
-/
import Derived.Test.YthkkiakfmbnfeaaR29
import Derived.Test.YthkkiakfmbnfeaaR12
import Derived.Test.YthkkiakfmbnfeaaCF
import Derived.Test.YthkkiakfmbnfeaaR27
/-
  Contracts: PushDown of the program.
-/
namespace Go.Proofs.Ythkkiakfmbnfeaa
open Go.RowKit

def psR (r : Int) (xs : List Int) : Int := if isAba r xs then r else 0
def psF (r : Int) (xs : List Int) : List Int := if isAba r xs then dwL r.toNat xs else []
def psN (r : Int) (xs : List Int) : Int := if isAba r xs then dwM r.toNat xs else 0
theorem ps_no {r : Int} {xs : List Int} (h : isAba r xs = false) : psR r xs = 0 ∧ psF r xs = [] ∧ psN r xs = 0 := by simp [psR, psF, psN, h]
theorem ps_yes {t : Nat} {xs : List Int} (h : isAba t xs = true) : psR t xs = t ∧ psF t xs = dwL t xs ∧ psN t xs = dwM t xs := by simp [psR, psF, psN, h]
theorem bound_PushDown (r : Int) (xs : List Int) : (psF r xs).length ≤ 1048576 := by
  unfold psF; split
  · rename_i h
    simp only [isAba, Bool.and_eq_true] at h
    have ht := inB_iff.1 h.1
    have := (goodB_iff.1 h.2).len
    rw [dwL_len (by omega)]; omega
  · simp

end Go.Proofs.Ythkkiakfmbnfeaa
/-
  Contracts: an abacus with all beads down, of the model; PushDown of the model.
-/
namespace Go.Proofs.Ythkkiakfmbnfeaa
open Go.RowKit

/-- A row whose first numbers are counted up. -/
def prt (r : List Int) (m : Nat) : List Int := fnRow r.length fun j => if j < m then (j : Int) else r.getD j 0
theorem prt_len (r : List Int) (m : Nat) : (prt r m).length = r.length := fnRow_len _ _
theorem prt_zero (r : List Int) : prt r 0 = r := by
  have := rowF_of r
  unfold prt; rw [rowF_ext _ _ (fun j => r.getD j 0) fun j _ => by simp]; exact this
theorem prt_all (r : List Int) : prt r r.length = upTo r.length := by unfold prt upTo; exact rowF_ext _ _ _ fun j hj => by rw [if_pos hj]
theorem prt_get (r : List Int) (m : Nat) (h : m < r.length) : (prt r m).getD m 0 = r.getD m 0 := by unfold prt; rw [fnRow_get _ _ _ h, if_neg (Nat.lt_irrefl _)]
theorem prt_set (r : List Int) (m : Nat) : (prt r m).set m (m : Int) = prt r (m + 1) := by
  unfold prt
  rw [fnRow_set]
  refine rowF_ext _ _ _ fun j _ => ?_
  by_cases e : j = m
  · subst e; simp
  · rw [if_neg e]
    by_cases h : j < m
    · rw [if_pos h, if_pos (by omega)]
    · rw [if_neg h, if_neg (by omega)]
/-- The rows while they are counted up: k of them done, and m numbers of the next one. -/
def dnM (R : Nat → List Int) (k m j : Nat) : List Int := if j < k then upTo (R j).length else if j = k then prt (R j) m else R j
theorem dnM_len (R : Nat → List Int) (k m j : Nat) : (dnM R k m j).length = (R j).length := by
  unfold dnM; split
  · exact upTo_len _
  · split
    · exact prt_len _ _
    · rfl
theorem dnM_start (R : Nat → List Int) (j : Nat) : dnM R 0 0 j = R j := by
  unfold dnM; rw [if_neg (by omega)]; split
  · exact prt_zero _
  · rfl
theorem dnM_next (R : Nat → List Int) (k j : Nat) : dnM R k (R k).length j = dnM R (k + 1) 0 j := by
  unfold dnM
  by_cases h : j < k
  · rw [if_pos h, if_pos (by omega)]
  · rw [if_neg h]
    by_cases e : j = k
    · subst e; rw [if_pos rfl, if_pos (by omega), prt_all]
    · rw [if_neg e, if_neg (by omega)]
      split
      · exact (prt_zero _).symm
      · rfl
theorem dnM_done (R : Nat → List Int) (t j : Nat) (h : j < t) : dnM R t 0 j = upTo (R j).length := by unfold dnM; rw [if_pos h]
theorem dnM_same (R : Nat → List Int) (k m j : Nat) (h : j ≠ k) : dnM R k m j = dnM R k (m + 1) j := by
  unfold dnM; rw [if_neg h, if_neg h]
theorem dnM_own (R : Nat → List Int) (k m : Nat) : dnM R k m k = prt (R k) m := by unfold dnM; rw [if_neg (Nat.lt_irrefl _), if_pos rfl]
theorem sum_take_bd {L : List Int} (h : ∀ j, j < L.length → 0 ≤ L.getD j 0 ∧ L.getD j 0 ≤ 1000) : ∀ m, m ≤ L.length → 0 ≤ (L.take m).sum ∧ (L.take m).sum ≤ 1000 * m
  | 0, _ => by simp
  | m + 1, hm => by
    have ih := sum_take_bd h m (by omega)
    have := h m (by omega)
    rw [take_snoc L m (by omega) _ rfl, List.sum_append]
    simp only [List.sum_cons, List.sum_nil]; omega
theorem tri_bd : ∀ m, m ≤ 1000 → 0 ≤ tri m ∧ tri m ≤ 1000 * m
  | 0, _ => by simp [tri]
  | m + 1, h => by have := tri_bd m (by omega); rw [tri]; omega
def mvS (R : Nat → List Int) : Nat → Int := sumN fun i => (R i).sum - tri (R i).length
theorem mvS_bd {R : Nat → List Int} {t : Nat} (h : ∀ i, i < t → (R i).length ≤ 1000 ∧ ∀ j, j < (R i).length → 0 ≤ (R i).getD j 0 ∧ (R i).getD j 0 ≤ 1000) : ∀ k, k ≤ t → -1000000 * (k : Int) ≤ mvS R k ∧ mvS R k ≤ 1000000 * (k : Int)
  | 0, _ => by simp [mvS, sumN]
  | k + 1, hk => by
    have ih := mvS_bd h k (by omega)
    obtain ⟨h1, h2⟩ := h k (by omega)
    have s := sum_take_bd h2 _ (Nat.le_refl _)
    rw [List.take_of_length_le (Nat.le_refl _)] at s
    have := tri_bd (R k).length h1
    show _ ≤ mvS R k + ((R k).sum - tri (R k).length) ∧ mvS R k + ((R k).sum - tri (R k).length) ≤ _
    omega

end Go.Proofs.Ythkkiakfmbnfeaa
