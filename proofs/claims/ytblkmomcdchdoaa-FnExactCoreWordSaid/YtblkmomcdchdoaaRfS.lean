/-
  Plain facts for chReflect of the model.
-/
import Derived.Test.YtblkmomcdchdoaaRfMath
import Derived.Test.YtblkmomcdchdoaaRfCore
import Derived.Test.YtblkmomcdchdoaaLvlS
import Derived.Test.YtblkmomcdchdoaaOwnCopy
import Derived.Test.YtblkmomcdchdoaaAddable
import Derived.Test.YtblkmomcdchdoaaOutF
import Derived.Maps.AppendAt
namespace Go.Proofs.Ytblkmomcdchdoaa
open Go.RowKit

theorem p_row (p : List Int) : p = fnRow p.length (fun r => p.getD r 0) := by
  apply List.ext_getElem
  · simp [fnRow]
  · intro j h1 h2
    simp [fnRow, List.getD, h1]
theorem stp_more {n : Nat} {g : Nat → Int} {q : Nat → Bool} {d : Int} {L : List Int} {j : Nat} (hg : g n = 0) (hn : (n : Int) ∉ L.take j) : stp n g q d L j ++ [0] = stp (n + 1) g q d L j := by
  unfold stp fnRow
  rw [List.range_succ, List.map_append]
  congr 1
  simp [hg, hn]
/-- Whether the row below the last one has been made. -/
def topK (p : List Int) (t : Nat) (i : Int) (L : List Int) (j : Nat) : Bool := decide ((p.length : Int) ∈ L.take j) && qA p t i p.length
def moL (p : List Int) (t : Nat) (i : Int) (L : List Int) (j : Nat) : List Int := stp (if topK p t i L j then p.length + 1 else p.length) (fun r => p.getD r 0) (qA p t i) 1 L j
theorem topK_succ {p : List Int} {t : Nat} {i : Int} {L : List Int} {j r : Nat} (hj : j < L.length) (hr : L.getD j 0 = (r : Int)) : topK p t i L (j + 1) = (topK p t i L j || (decide (r = p.length) && qA p t i p.length)) := by
  unfold topK
  rw [take_succ_get hj, hr]
  have e2 : decide ((p.length : Int) ∈ L.take j ++ [(r : Int)]) = (decide ((p.length : Int) ∈ L.take j) || decide (r = p.length)) := by
    rw [Bool.eq_iff_iff]
    simp only [decide_eq_true_eq, Bool.or_eq_true, List.mem_append, List.mem_singleton]
    constructor
    · rintro (h | h)
      · exact .inl h
      · exact .inr (by omega)
    · rintro (h | h)
      · exact .inl h
      · exact .inr (by omega)
  rw [e2, Bool.and_or_distrib_right]
theorem mo_zero (p : List Int) (t : Nat) (i : Int) (L : List Int) : moL p t i L 0 = p := by
  unfold moL topK
  rw [stp_zero]; simp only [List.take_zero, List.not_mem_nil, decide_false, Bool.false_and, Bool.false_eq_true, if_false]
  exact (p_row p).symm
theorem mo_skip {p : List Int} {t : Nat} {i : Int} {L : List Int} {j r : Nat} (hj : j < L.length) (hr : L.getD j 0 = (r : Int)) (hq : qA p t i r = false) : moL p t i L j = moL p t i L (j + 1) := by
  unfold moL
  rw [topK_succ hj hr, ← stp_skip hj hr hq]
  by_cases e : r = p.length
  · subst e; rw [hq]; simp
  · rw [decide_eq_false e]; simp
theorem mo_low {p : List Int} {t : Nat} {i : Int} {L : List Int} (nd : L.Nodup) {j r : Nat} (hj : j < L.length) (hr : L.getD j 0 = (r : Int)) (hq : qA p t i r = true) (hlt : r < p.length) : (moL p t i L j).getD r 0 = p.getD r 0 ∧ (moL p t i L j).set r (p.getD r 0 + 1) = moL p t i L (j + 1) ∧ r < (moL p t i L j).length := by
  unfold moL
  rw [topK_succ hj hr, decide_eq_false (show ¬ r = p.length by omega), Bool.false_and, Bool.or_false]
  refine ⟨stp_get nd hj hr (by split <;> omega), stp_set hj hr hq, by rw [stp_len]; split <;> omega⟩
theorem mo_top {p : List Int} {t : Nat} {i : Int} {L : List Int} (nd : L.Nodup) {j : Nat} (hj : j < L.length) (hr : L.getD j 0 = (p.length : Int)) (hq : qA p t i p.length = true) : (moL p t i L j).length = p.length ∧ (moL p t i L j ++ [0]).getD p.length 0 = 0 ∧ (moL p t i L j ++ [0]).set p.length 1 = moL p t i L (j + 1) := by
  have hn : (p.length : Int) ∉ L.take j := by rw [← hr]; exact nodup_not_mem nd hj
  have ht : topK p t i L j = false := by unfold topK; rw [decide_eq_false hn]; rfl
  have hm : moL p t i L j = stp p.length (fun r => p.getD r 0) (qA p t i) 1 L j := by unfold moL; rw [ht]; rfl
  have hm2 : moL p t i L (j + 1) = stp (p.length + 1) (fun r => p.getD r 0) (qA p t i) 1 L (j + 1) := by unfold moL; rw [topK_succ hj hr, ht, hq]; simp
  have h0 : p.getD p.length 0 = 0 := getD_out (Nat.le_refl _)
  rw [hm, hm2, stp_more h0 hn]
  refine ⟨stp_len _ _ _ _ _ _, (stp_get nd hj hr (Nat.lt_succ_self _)).trans h0, ?_⟩
  have := stp_set (m := p.length + 1) (g := fun r => p.getD r 0) (d := 1) hj hr hq
  simp only [h0] at this
  exact this
/-- The rows without the corners of a residue, the first k of them. -/
def coK (p : List Int) (t : Nat) (i : Int) (k : Nat) : List Int := fnRow p.length fun r => p.getD r 0 + if (decide (r < k) && corB p r) && qC p t i r then -1 else 0
theorem coK_len (p : List Int) (t : Nat) (i : Int) (k : Nat) : (coK p t i k).length = p.length := fnRow_len _ _
theorem coK_zero (p : List Int) (t : Nat) (i : Int) : coK p t i 0 = p := by
  unfold coK
  rw [show (fun r => p.getD r 0 + if (decide (r < 0) && corB p r) && qC p t i r then (-1 : Int) else 0) = fun r => p.getD r 0 from by funext r; simp]
  exact (p_row p).symm
theorem coK_get (p : List Int) (t : Nat) (i : Int) (k : Nat) (h : k < p.length) : (coK p t i k).getD k 0 = p.getD k 0 := by
  unfold coK; rw [fnRow_get _ _ _ h]; simp
theorem coK_set {p : List Int} {t : Nat} {i : Int} {k : Nat} (h : (corB p k && qC p t i k) = true) : (coK p t i k).set k (p.getD k 0 - 1) = coK p t i (k + 1) := by
  unfold coK
  rw [fnRow_set]
  refine rowF_ext _ _ _ fun s _ => ?_
  by_cases e : s = k
  · subst e
    rw [if_pos rfl, decide_eq_true (show s < s + 1 by omega), Bool.true_and, h]; simp; omega
  · rw [if_neg e]
    have : decide (s < k) = decide (s < k + 1) := by rw [decide_eq_decide]; omega
    rw [this]
theorem coK_skip {p : List Int} {t : Nat} {i : Int} {k : Nat} (h : (corB p k && qC p t i k) = false) : coK p t i k = coK p t i (k + 1) := by
  unfold coK
  refine rowF_ext _ _ _ fun s _ => ?_
  by_cases e : s = k
  · subst e
    rw [Bool.and_assoc, Bool.and_assoc, h]; simp
  · have : decide (s < k) = decide (s < k + 1) := by rw [decide_eq_decide]; omega
    rw [this]

theorem own_setOther {w : World} {B g k c : Nat} {A : Option Addr} {u : Value} {xs : List Int} (h : Own w B A c xs) (hg : ∀ b, A.map Addr.block = some b → b ≠ g) : Own (w.setCell ⟨g, k, none⟩ u) B A c xs :=
  h.keep fun b hb _ => Below.heap_setCell _ _ _ _ (hg b hb)
end Go.Proofs.Ytblkmomcdchdoaa
