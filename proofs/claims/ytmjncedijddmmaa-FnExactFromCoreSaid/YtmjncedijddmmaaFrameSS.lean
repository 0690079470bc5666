/-
  What frames need for a slice of slices among the arguments: from its reading to the facts that the walks ask.
-/
import Derived.Test.YtmjncedijddmmaaCB
import Derived.ProofKit
import Derived.OpenShut
import Derived.Deep.Matrix
namespace Go.Proofs.Ytmjncedijddmmaa
open Go.ChangeShapes Go.WideShapes Go.ChangeAt Go.RowKit

theorem addr_spot {w : World} {x : Addr} {v : Value} (h : w.cell? (x.add 0) = some v) : x.spot = none := by
  obtain ⟨b, o, spot⟩ := x
  simpa [Addr.add] using World.cell?_spot h
theorem addr_addN (b o j : Nat) : (⟨b, o, none⟩ : Addr).add j = ⟨b, o + j, none⟩ := by unfold Addr.add; split <;> simp_all
theorem cells_take {w : World} {x : Addr} {zs : List Int} {l : Nat} (h : ∀ i, i < zs.length → w.cell? (x.add i) = some (.int .i64 (zs.getD i 0))) : Cells w (some x) (zs.take l) := by
  intro hp
  rw [List.length_take] at hp
  have h0 := h 0 (by omega)
  have hs := addr_spot h0
  obtain ⟨b, o, spot⟩ := x
  simp only at hs
  subst hs
  refine ⟨b, o, rfl, fun j hj => ?_⟩
  rw [List.length_take] at hj
  have := h j (by omega)
  rw [addr_addN] at this
  rw [List.getD_eq_getElem?_getD, List.getElem?_take, if_pos (by omega), ← List.getD_eq_getElem?_getD, ← this]
theorem rows_of_cells {w : World} {base : Nat} {x : Addr} {len cap : Nat} {A : Nat → Option Addr} {L C : Nat → Nat} {Z : Nat → List Int} (hl : len ≤ cap) (hm : cap ≤ maxLen)
    (h : ∀ r, r < cap → w.cell? (x.add r) = some (.slice (A r) (L r) (C r)) ∧ L r ≤ C r ∧ C r ≤ maxLen ∧ (Z r).length = C r ∧ (∀ n ∈ Z r, (Lit.int .i64 n).wf = true) ∧ (A r = none → C r = 0) ∧
      ∀ a', A r = some a' → base ≤ a'.block ∧ ∀ c, c < C r → w.cell? (a'.add c) = some (.int .i64 ((Z r).getD c 0))) :
    ∃ rs : List (List Int), rs.length = len ∧ (rs.length ≤ 9223372036854775807 ∧ ∀ j, j < rs.length → (rs.getD j []).length ≤ 9223372036854775807) ∧ Cells2 w (some x) rs := by
  have hM : maxLen ≤ 9223372036854775807 := by unfold maxLen; omega
  have hg : ∀ j, j < len → ((List.range len).map fun r => (Z r).take (L r)).getD j [] = (Z j).take (L j) := fun j hj => by simp [List.getD, hj]
  have hlen : ∀ j, j < len → ((Z j).take (L j)).length = L j := fun j hj => by
    obtain ⟨_, h2, _, h4, _⟩ := h j (by omega)
    rw [List.length_take]; omega
  have hz : ((List.range len).map fun r => (Z r).take (L r)).length = len := by simp
  refine ⟨(List.range len).map fun r => (Z r).take (L r), hz, ⟨by rw [hz]; omega, fun j hj => ?_⟩, A, C, fun hp => ?_, fun j hj => ?_⟩
  · rw [hz] at hj
    obtain ⟨_, h2, h3, _⟩ := h j (by omega)
    rw [hg j hj, hlen j hj]; omega
  · rw [hz] at hp
    have h0 := (h 0 (by omega)).1
    have hs := addr_spot h0
    obtain ⟨b, o, spot⟩ := x
    simp only at hs
    subst hs
    refine ⟨b, o, rfl, fun j hj => ?_⟩
    rw [hz] at hj
    have := (h j (by omega)).1
    rw [addr_addN] at this
    rw [this, hg j hj, hlen j hj]
  · rw [hz] at hj
    obtain ⟨_, h2, _, h4, _, h6, h7⟩ := h j (by omega)
    rw [hg j hj]
    cases hA : A j with
    | none =>
      have hc := h6 hA
      have : (Z j).take (L j) = [] := List.eq_nil_of_length_eq_zero (by rw [hlen j hj]; omega)
      rw [this]; exact Cells.nil _ _
    | some a' =>
      exact cells_take fun i hi => (h7 a' hA).2 i (by omega)
end Go.Proofs.Ytmjncedijddmmaa
