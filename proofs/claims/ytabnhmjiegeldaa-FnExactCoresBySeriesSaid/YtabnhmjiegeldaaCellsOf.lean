/-
  Contracts: IsPartition, CellsOf, IsInside, of the program and of the model.
-/
import Derived.Test.YtabnhmjiegeldaaIsPart
namespace Go.Proofs.Ytabnhmjiegeldaa
open Go.RowKit

theorem impl_IsPartition (A : Option Addr) (c : Nat) (xs : List Int) (w : World) (hl : xs.length ≤ 1048576) (hc : Cells w A xs) :
    Calls Try.prog 160 #[.slice A xs.length c] w fun e w' => e = .returned (.bool (good xs)) ∧ Below w.heap.size w w' :=
  (IsPartition_any A xs c w hl hc).mono fun _ _ ⟨he, hw⟩ => ⟨he, by rw [hw]; exact Below.refl _ _⟩

theorem Good.b1000 {xs : List Int} (h : Good xs) : ∀ j, j < xs.length → 0 ≤ xs.getD j 0 ∧ xs.getD j 0 ≤ 1000 := fun j hj => by have := h.pos j hj; have := h.le j hj; omega

def cellsF (xs : List Int) : Int := if good xs then xs.sum else 0
theorem cellsF_t {xs : List Int} (h : good xs = true) : cellsF xs = xs.sum := by simp [cellsF, h]
theorem cellsF_f {xs : List Int} (h : good xs = false) : cellsF xs = 0 := by simp [cellsF, h]

end Go.Proofs.Ytabnhmjiegeldaa
