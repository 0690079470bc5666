/-
  The order of cores: a strict weak order; the cores found are the model's, by a finite table.
-/
import Derived.Test.YtnjhjdidohdkmaaCoresI
import Derived.Test.YtnjhjdidohdkmaaSort
import Derived.Test.YtnjhjdidohdkmaaCmpL
import Derived.Test.YtnjhjdidohdkmaaBoAll
namespace Go.Proofs.Ytnjhjdidohdkmaa
open Go.RowKit Go.Shelf Go.Sort

theorem fcf_iff {p q : List Int} : fcf p q < 0 ↔ p.sum < q.sum ∨ (p.sum = q.sum ∧ cmpL q p < 0) := by
  unfold fcf orI cmpI
  by_cases h1 : p.sum < q.sum
  · rw [if_pos h1]; simp [h1]
  · by_cases h2 : q.sum < p.sum
    · rw [if_neg h1, if_pos h2]; simp; omega
    · rw [if_neg h1, if_neg h2]; simp; omega
theorem fcf_total {p q : List Int} (h1 : ¬ fcf p q < 0) (h2 : ¬ fcf q p < 0) : p = q := by
  rw [fcf_iff] at h1 h2
  have h3 := cmpL_anti p q
  have hs : p.sum = q.sum := by omega
  refine cmpL_zero p q ?_
  have a1 : ¬ cmpL q p < 0 := fun h => h1 (.inr ⟨hs, h⟩)
  have a2 : ¬ cmpL p q < 0 := fun h => h2 (.inr ⟨hs.symm, h⟩)
  omega
theorem fcf_irrefl (p : List Int) : ¬ fcf p p < 0 := by
  rw [fcf_iff, cmpL_refl]; omega
theorem fcf_trans {p q r : List Int} (h1 : fcf p q < 0) (h2 : fcf q r < 0) : fcf p r < 0 := by
  rw [fcf_iff] at *
  rcases h1 with h1 | ⟨h1, c1⟩
  · rcases h2 with h2 | ⟨h2, -⟩
    · left; omega
    · left; omega
  · rcases h2 with h2 | ⟨h2, c2⟩
    · left; omega
    · exact .inr ⟨by omega, cmpL_trans r q p c2 c1⟩
theorem fcf_swo : SWO (ltOf fcf) where
  irrefl p := by simp only [ltOf, decide_eq_false_iff_not]; exact fcf_irrefl p
  trans p q r h1 h2 := by
    simp only [ltOf, decide_eq_true_eq] at *
    exact fcf_trans h1 h2
  ntrans p q r h1 h2 := by
    simp only [ltOf, decide_eq_false_iff_not] at *
    intro h
    by_cases e1 : fcf q p < 0
    · by_cases e2 : fcf r q < 0
      · exact fcf_irrefl p (fcf_trans h (fcf_trans e2 e1))
      · rw [fcf_total h2 e2] at e1
        exact fcf_irrefl p (fcf_trans h e1)
    · rw [fcf_total h1 e1] at h
      exact h2 h

/-- Rows without order two ways, that are permutations of each other, are the same. -/
theorem rows_eq : ∀ {L M : List (List Int)}, L.Perm M → L.Pairwise (fun x y => ¬ fcf y x < 0) → M.Pairwise (fun x y => ¬ fcf y x < 0) → L = M
  | [], M, h, _, _ => by rw [List.nil_perm.1 h]
  | x :: L, [], h, _, _ => by have := h.length_eq; simp at this
  | x :: L, y :: M, h, h1, h2 => by
    have hxm : x ∈ y :: M := h.mem_iff.1 (List.mem_cons_self ..)
    have hym : y ∈ x :: L := h.mem_iff.2 (List.mem_cons_self ..)
    have e : x = y := by
      rcases List.mem_cons.1 hxm with e | hx
      · exact e
      · rcases List.mem_cons.1 hym with e | hy
        · exact e.symm
        · exact fcf_total (List.rel_of_pairwise_cons h2 hx) (List.rel_of_pairwise_cons h1 hy)
    subst e
    rw [rows_eq (List.Perm.cons_inv h) h1.of_cons h2.of_cons]
theorem pairs_of {L : List (List Int)} (h : ∀ i j, i < j → j < L.length → ltOf fcf (L.getD j []) (L.getD i []) = false) : L.Pairwise (fun x y => ¬ fcf y x < 0) := by
  rw [List.pairwise_iff_getElem]
  intro i j hi hj hij
  have := h i j hij hj
  rw [List.getD_eq_getElem?_getD, List.getElem?_eq_getElem hj, List.getD_eq_getElem?_getD, List.getElem?_eq_getElem hi] at this
  simp only [ltOf, decide_eq_false_iff_not] at this
  exact this

def pwB : List (List Int) → Bool
  | [] => true
  | x :: r => r.all (fun y => !decide (fcf y x < 0)) && pwB r
theorem pwB_pair : ∀ L : List (List Int), pwB L = true → L.Pairwise (fun x y => ¬ fcf y x < 0)
  | [], _ => List.Pairwise.nil
  | x :: r, h => by
    rw [pwB, Bool.and_eq_true, List.all_eq_true] at h
    exact List.Pairwise.cons (fun y hy => by have := h.1 y hy; simpa using this) (pwB_pair r h.2)
def coP (a b : Int) : List (List Int) := (coL a b).map partsL
def abChk (a b : Int) : Bool := (((coP a b).isPerm (boL a b) && pwB (boL a b)) && ((coP a b).all good && decide ((coP a b).length ≤ 100 ∧ 0 < (coP a b).length))) && (coL a b).all fun H => decide (H.length ≤ 20) && H.all (inB 0 1000)
theorem abChk_t {a b : Int} (hs : sz a b = true) : abChk a b = true := sz_nat (p := fun a b => abChk a b = true) (by decide +kernel) hs
theorem ab_parts {a b : Int} (hs : sz a b = true) : ((coP a b).Perm (boL a b) ∧ (boL a b).Pairwise (fun x y => ¬ fcf y x < 0)) ∧ ((∀ r ∈ coP a b, good r = true) ∧ (coP a b).length ≤ 100 ∧ 0 < (coP a b).length) ∧ ∀ m, m < (coL a b).length → ((coL a b).getD m []).length ≤ 20 ∧ ∀ j, j < ((coL a b).getD m []).length → 0 ≤ ((coL a b).getD m []).getD j 0 ∧ ((coL a b).getD m []).getD j 0 ≤ 1000 := by
  have h := abChk_t hs
  simp only [abChk, Bool.and_eq_true, decide_eq_true_eq, List.all_eq_true] at h
  obtain ⟨⟨⟨h1, h2⟩, h3, h4⟩, h5⟩ := h
  refine ⟨⟨List.isPerm_iff.1 h1, pwB_pair _ h2⟩, ⟨h3, h4⟩, fun m hm => ?_⟩
  have h6 := h5 ((coL a b).getD m []) (by rw [List.getD_eq_getElem?_getD, List.getElem?_eq_getElem hm]; exact List.getElem_mem hm)
  obtain ⟨R, hR⟩ : ∃ R, R = (coL a b).getD m [] := ⟨_, rfl⟩
  rw [← hR] at h6 ⊢
  refine ⟨h6.1, fun j hj => inB_iff.1 (h6.2 _ ?_)⟩
  rw [List.getD_eq_getElem?_getD, List.getElem?_eq_getElem hj]; exact List.getElem_mem hj
end Go.Proofs.Ytnjhjdidohdkmaa
