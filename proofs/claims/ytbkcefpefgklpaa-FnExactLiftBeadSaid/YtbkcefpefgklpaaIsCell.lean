/-
  Contracts: what is a cell, of the program and of the model.
-/
import Derived.Test.YtbkcefpefgklpaaIsPart
import Derived.Test.YtbkcefpefgklpaaSmall
import Derived.Test.YtbkcefpefgklpaaCellMath
namespace Go.Proofs.Ytbkcefpefgklpaa
open Go.RowKit

theorem at_no_good {xs : List Int} {r k : Int} (h : good xs = false) : atB xs r k = false := by simp [atB, h]
theorem at_good {xs : List Int} {r k : Int} (h : good xs = true) : atB xs r k = cellB xs r k := by simp [atB, h]
theorem cell_no {xs : List Int} {r k : Int} (h : ¬ (0 ≤ r ∧ r < xs.length ∧ 0 ≤ k ∧ k < xs.getD r.toNat 0)) : cellB xs r k = false := by
  cases hcb : cellB xs r k
  · rfl
  · exact absurd (cellB_iff.1 hcb) h

theorem Cells.get {w : World} {A : Option Addr} {xs : List Int} (h : Cells w A xs) {j : Nat} (hj : j < xs.length) : ∃ b o, A = some ⟨b, o, none⟩ ∧ w.cell? ⟨b, o + j, none⟩ = some (.int .i64 (xs.getD j 0)) := by
  obtain ⟨b, o, e, hc⟩ := h (by omega)
  exact ⟨b, o, e, hc j hj⟩

end Go.Proofs.Ytbkcefpefgklpaa
