/-
  Several texts in one.
-/
import Derived.Test.YtnjaoaamcdohoaaR13
import Derived.Test.YtnjaoaamcdohoaaR14
/-
  Contracts: a bead put to another place, and LiftBead, of the model.
-/
namespace Go.Proofs.Ytnjaoaamcdohoaa
open Go.RowKit

theorem own_at_len' {w : World} {B : Nat} {A : Option Addr} {c n : Nat} {xs : List Int} (h : Own w B A c xs) (e : xs.length = n) : w.ownsRow B 3 1 (.slice A n c) n (IL xs) := by subst e; exact h
theorem own_of_len' {w : World} {B : Nat} {A : Option Addr} {c n : Nat} {xs : List Int} (h : w.ownsRow B 3 1 (.slice A n c) n (IL xs)) (e : xs.length = n) : Own w B A c xs := by subst e; exact h
theorem mvL_len (a b : Int) (xs : List Int) : (mvL a b xs).length = xs.length := by simp [mvL]
theorem mvL_get (a b : Int) (xs : List Int) (k : Nat) (hk : k < xs.length) : (mvL a b xs).getD k 0 = mvB a b (xs.getD k 0) := by
  unfold mvL
  rw [List.getD_eq_getElem?_getD, List.getElem?_map, List.getElem?_eq_getElem hk, List.getD_eq_getElem?_getD, List.getElem?_eq_getElem hk]; rfl
theorem ins_take_facts {ys : List Int} (h : ys.Nodup) (k : Nat) (hk : k < ys.length) : (insF (ys.take k)).length = k ∧ ∀ j, j < (insF (ys.take k)).length → (insF (ys.take k)).getD j 0 ≠ ys.getD k 0 := by
  have hn : (ys.take k).Nodup := (List.take_sublist k ys).nodup h
  obtain ⟨_, h2, h3⟩ := insF_all hn
  have hl : (ys.take k).length = k := by rw [List.length_take]; omega
  refine ⟨by rw [h3, hl], fun j hj e => ?_⟩
  have hm := (h2 _).1 (mem_getD.2 ⟨j, hj, rfl⟩)
  rw [e] at hm
  have hs : ys = ys.take k ++ ys.drop k := (List.take_append_drop k ys).symm
  rw [hs, List.nodup_append] at h
  refine h.2.2 _ hm _ ?_ rfl
  rw [drop_cons ys k hk]; simp

end Go.Proofs.Ytnjaoaamcdohoaa
/-
  Contracts: how many beads stand between two places (both sides).
-/
namespace Go.Proofs.Ytnjaoaamcdohoaa
open Go.RowKit

def btB (lo hi x : Int) : Bool := decide (lo < x) && decide (x < hi)
def btV (lo hi x : Int) : Int := if btB lo hi x then 1 else 0
def btN (xs : List Int) (lo hi : Int) (k : Nat) : Int := (((xs.take k).filter (btB lo hi)).length : Nat)
theorem btN_succ (xs : List Int) (lo hi : Int) (k : Nat) (h : k < xs.length) : btN xs lo hi (k + 1) = btN xs lo hi k + btV lo hi (xs.getD k 0) := by
  unfold btN btV
  cases hb : btB lo hi (xs.getD k 0)
  · rw [filt_f xs k h hb]; simp
  · rw [filt_t xs k h hb, List.length_append]; simp
theorem btN_bd (xs : List Int) (lo hi : Int) (k : Nat) : 0 ≤ btN xs lo hi k ∧ btN xs lo hi k ≤ k := by
  unfold btN
  have := List.length_filter_le (btB lo hi) (xs.take k)
  rw [List.length_take] at this
  omega

end Go.Proofs.Ytnjaoaamcdohoaa
