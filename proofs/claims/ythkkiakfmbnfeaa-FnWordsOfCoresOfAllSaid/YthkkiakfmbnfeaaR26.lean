/-
  Several texts in one.
-/
import Derived.Test.YthkkiakfmbnfeaaCB
import Derived.Test.YthkkiakfmbnfeaaCA
import Derived.Maps.AppendAt
import Derived.Test.YthkkiakfmbnfeaaCE
/-
  Contracts: Maya's numbers, the model's side.
-/
namespace Go.Proofs.Ythkkiakfmbnfeaa
open Go.RowKit

theorem cells_blk {w : World} {A : Option Addr} {xs : List Int} (h : Cells w A xs) (h0 : 0 < xs.length) : ∀ b, A.map Addr.block = some b → b < w.heap.size := by
  intro b hb
  obtain ⟨b', o, rfl, hcc⟩ := h h0
  have := World.block_lt_of_cell? w _ (hcc 0 h0)
  simp at hb
  subst hb
  exact this
theorem ownsRow_grown {w w1 : World} {B e s n : Nat} {u v : Value} {xs : List Value} {o : Obj} (h : w.ownsRow B e s v n xs) (hg : (w.alloc o).grownBy w1 u.ownBlock) (hne : ∀ b, v.ownBlock = some b → u.ownBlock ≠ some b) : w1.ownsRow B e s v n xs := by
  refine ⟨h.1, ?_⟩
  rcases h.2 with hn | ⟨g, cap, cur, rfl, hb, hgg, rest⟩
  · exact .inl hn
  · have hlt : g < w.heap.size := (Array.getElem?_eq_some_iff.1 hgg).1
    refine .inr ⟨g, cap, cur, rfl, hb, ?_, rest⟩
    rw [hg.block g (by simp; omega) (fun e => hne g rfl e.symm), Below.heap_alloc _ _ _ hlt]; exact hgg

end Go.Proofs.Ythkkiakfmbnfeaa
/-
  Contracts: MovableBeads of the model.
-/
namespace Go.Proofs.Ythkkiakfmbnfeaa
open Go.RowKit

end Go.Proofs.Ythkkiakfmbnfeaa
