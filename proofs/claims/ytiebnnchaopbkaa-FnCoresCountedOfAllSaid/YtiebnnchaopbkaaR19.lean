/-
  Several texts in one.
-/
import Derived.Test.YtiebnnchaopbkaaR18
import Derived.Test.YtiebnnchaopbkaaR06
/-
  Contracts: a bead put to another place, and LiftBead, of the model.
-/
namespace Go.Proofs.Ytiebnnchaopbkaa
open Go.RowKit

theorem own_at_len' {w : World} {B : Nat} {A : Option Addr} {c n : Nat} {xs : List Int} (h : Own w B A c xs) (e : xs.length = n) : w.ownsRow B 3 1 (.slice A n c) n (IL xs) := by subst e; exact h
theorem own_of_len' {w : World} {B : Nat} {A : Option Addr} {c n : Nat} {xs : List Int} (h : w.ownsRow B 3 1 (.slice A n c) n (IL xs)) (e : xs.length = n) : Own w B A c xs := by subst e; exact h
theorem mvL_len (a b : Int) (xs : List Int) : (mvL a b xs).length = xs.length := by simp [mvL]
theorem mvL_get (a b : Int) (xs : List Int) (k : Nat) (hk : k < xs.length) : (mvL a b xs).getD k 0 = mvB a b (xs.getD k 0) := by
  unfold mvL
  rw [List.getD_eq_getElem?_getD, List.getElem?_map, List.getElem?_eq_getElem hk, List.getD_eq_getElem?_getD, List.getElem?_eq_getElem hk]; rfl
theorem ins_take_facts {ys : List Int} (h : ys.Nodup) (k : Nat) (hk : k < ys.length) : (insF (ys.take k)).length = k ∧ ∀ j, j < (insF (ys.take k)).length → (insF (ys.take k)).getD j 0 ≠ ys.getD k 0 := by
  have hn : (ys.take k).Nodup := (List.take_sublist k ys).nodup h
  obtain ⟨_, h2, h3⟩ := insF_all hn
  have hl : (ys.take k).length = k := by rw [List.length_take]; omega
  refine ⟨by rw [h3, hl], fun j hj e => ?_⟩
  have hm := (h2 _).1 (mem_getD.2 ⟨j, hj, rfl⟩)
  rw [e] at hm
  have hs : ys = ys.take k ++ ys.drop k := (List.take_append_drop k ys).symm
  rw [hs, List.nodup_append] at h
  refine h.2.2 _ hm _ ?_ rfl
  rw [drop_cons ys k hk]; simp

end Go.Proofs.Ytiebnnchaopbkaa
/-
  Contracts: the abacus with rows on its runners, of the model.
-/
namespace Go.Proofs.Ytiebnnchaopbkaa
open Go.RowKit

theorem ins_next {P : List Int} {y : Int} (h : (P ++ [y]).Nodup) : (insF P).length = P.length ∧ (∀ j, j < (insF P).length → (insF P).getD j 0 ≠ y) ∧ insF (P ++ [y]) = insL (insF P) y := by
  rw [List.nodup_append] at h
  obtain ⟨_, h2, h3⟩ := insF_all h.1
  refine ⟨h3, fun j hj e => ?_, insF_snoc P y⟩
  have hm := (h2 _).1 (mem_getD.2 ⟨j, hj, rfl⟩)
  rw [e] at hm
  exact h.2.2 y hm y (by simp) rfl
theorem abfL_sub {t : Nat} {R : Nat → List Int} (k : Nat) : ∀ d, (abfL t R k).Sublist (abfL t R (k + d))
  | 0 => List.Sublist.refl _
  | d + 1 => (abfL_sub k d).trans (by rw [show k + (d + 1) = k + d + 1 by omega, abfL]; exact List.sublist_append_left _ _)
theorem abfL_step {t : Nat} {R : Nat → List Int} {k m : Nat} (hm : m < (R k).length) :
    abfL t R k ++ ((R k).take (m + 1)).map (fun x => x * (t : Int) + (k : Int)) = (abfL t R k ++ ((R k).take m).map (fun x => x * (t : Int) + (k : Int))) ++ [(R k).getD m 0 * (t : Int) + (k : Int)] := by
  rw [take_snoc (R k) m hm _ rfl, List.map_append, ← List.append_assoc]; rfl
theorem abfL_pre {t : Nat} {R : Nat → List Int} {k m : Nat} (hk : k < t) : (abfL t R k ++ ((R k).take m).map (fun x => x * (t : Int) + (k : Int))).Sublist (abfL t R t) := by
  obtain ⟨d, hd⟩ : ∃ d, t = k + 1 + d := ⟨t - (k + 1), by omega⟩
  have h1 : (abfL t R k ++ ((R k).take m).map (fun x => x * (t : Int) + (k : Int))).Sublist (abfL t R (k + 1)) := by
    rw [abfL]
    exact (List.Sublist.refl _).append ((List.take_sublist m (R k)).map _)
  refine h1.trans ?_
  have := abfL_sub (t := t) (R := R) (k + 1) d
  rw [← hd] at this; exact this

end Go.Proofs.Ytiebnnchaopbkaa
/-
  Contracts: LiftBead of the model.
-/
namespace Go.Proofs.Ytiebnnchaopbkaa
open Go.RowKit

end Go.Proofs.Ytiebnnchaopbkaa
