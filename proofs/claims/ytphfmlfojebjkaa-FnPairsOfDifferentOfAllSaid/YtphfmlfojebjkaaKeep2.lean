/-
  Rows of rows of the call's own: what stays of them, with their rows told.
-/
import Derived.Test.YtphfmlfojebjkaaCB
namespace Go.Proofs.Ytphfmlfojebjkaa
open Go.RowKit

theorem Own2At.top1 {w : World} {B S : Nat} {A : Option Addr} {c : Nat} {rows : List (List Int)} {P : Nat → Option Addr} {C : Nat → Nat} (h : Own2At w B S A c rows P C) {j : Nat} (hj : j < rows.length) :
    ∃ b, A = some ⟨b, 0, none⟩ ∧ w.cell? ⟨b, j, none⟩ = some (.slice (P j) (rows.getD j []).length (C j)) := by
  rcases h.out.2 with ⟨_, h0⟩ | ⟨g, cap, cur, hv, _⟩
  · omega
  · have hA : A = some ⟨g, 0, none⟩ := by injection hv
    subst hA
    refine ⟨g, rfl, ?_⟩
    rw [World.ownsRow.cellAt h.out j (by omega), RL_get P C rows j hj]
theorem Own2At.keep {w w' : World} {B S : Nat} {A : Option Addr} {c : Nat} {rows : List (List Int)} {P : Nat → Option Addr} {C : Nat → Nat} (h : Own2At w B S A c rows P C) (hk : ∀ b, b < w.heap.size → B ≤ b → b < S → w'.heap[b]? = w.heap[b]?) : Own2At w' B S A c rows P C :=
  ⟨ownsRow_keep h.out fun b hb hlt => hk b hlt (ownsRow_block h.out b hb).1 (h.outS b hb), h.outS,
    fun j hj => (h.row j hj).keep fun b hb hlt => hk b hlt ((h.row j hj).block b hb).1 (h.rowS j hj b hb), h.rowS, h.apart⟩
end Go.Proofs.Ytphfmlfojebjkaa
