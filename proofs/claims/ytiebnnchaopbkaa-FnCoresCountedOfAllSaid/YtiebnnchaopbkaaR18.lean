/-
  Several texts in one.
-/
import Derived.Test.YtiebnnchaopbkaaCF
import Derived.Test.YtiebnnchaopbkaaCB
import Derived.Test.YtiebnnchaopbkaaCA
import Derived.Maps.AppendAt
import Derived.Test.YtiebnnchaopbkaaCE
/-
  Contracts: LiftBead of the program.
-/
namespace Go.Proofs.Ytiebnnchaopbkaa
open Go.RowKit

def lfB (r : Int) (xs : List Int) (a : Int) : Bool := isAba r xs && (canGo xs a (a + r) && isAba r (insF (mvL a (a + r) xs)))
def lfR (r : Int) (xs : List Int) (a : Int) : Int := if lfB r xs a then r else 0
def lfF (r : Int) (xs : List Int) (a : Int) : List Int := if lfB r xs a then insF (mvL a (a + r) xs) else []
theorem lf_no {r : Int} {xs : List Int} {a : Int} (h : lfB r xs a = false) : lfR r xs a = 0 ∧ lfF r xs a = [] := by simp [lfR, lfF, h]
theorem lf_yes {r : Int} {xs : List Int} {a : Int} (h : lfB r xs a = true) : lfR r xs a = r ∧ lfF r xs a = insF (mvL a (a + r) xs) := by simp [lfR, lfF, h]

theorem bound_LiftBead (r : Int) (xs : List Int) (a : Int) : (lfF r xs a).length ≤ 1048576 := by
  cases h : lfB r xs a
  · rw [(lf_no h).2]; simp
  · rw [(lf_yes h).2]
    simp only [lfB, Bool.and_eq_true] at h
    have h2 := h.2.2
    simp only [isAba, Bool.and_eq_true] at h2
    have := (goodB_iff.1 h2.2).len; omega

end Go.Proofs.Ytiebnnchaopbkaa
/-
  Contracts: Maya's numbers, the model's side.
-/
namespace Go.Proofs.Ytiebnnchaopbkaa
open Go.RowKit

theorem cells_blk {w : World} {A : Option Addr} {xs : List Int} (h : Cells w A xs) (h0 : 0 < xs.length) : ∀ b, A.map Addr.block = some b → b < w.heap.size := by
  intro b hb
  obtain ⟨b', o, rfl, hcc⟩ := h h0
  have := World.block_lt_of_cell? w _ (hcc 0 h0)
  simp at hb
  subst hb
  exact this
theorem ownsRow_grown {w w1 : World} {B e s n : Nat} {u v : Value} {xs : List Value} {o : Obj} (h : w.ownsRow B e s v n xs) (hg : (w.alloc o).grownBy w1 u.ownBlock) (hne : ∀ b, v.ownBlock = some b → u.ownBlock ≠ some b) : w1.ownsRow B e s v n xs := by
  refine ⟨h.1, ?_⟩
  rcases h.2 with hn | ⟨g, cap, cur, rfl, hb, hgg, rest⟩
  · exact .inl hn
  · have hlt : g < w.heap.size := (Array.getElem?_eq_some_iff.1 hgg).1
    refine .inr ⟨g, cap, cur, rfl, hb, ?_, rest⟩
    rw [hg.block g (by simp; omega) (fun e => hne g rfl e.symm), Below.heap_alloc _ _ _ hlt]; exact hgg

end Go.Proofs.Ytiebnnchaopbkaa
/-
  Contracts: MovableBeads of the model.
-/
namespace Go.Proofs.Ytiebnnchaopbkaa
open Go.RowKit

end Go.Proofs.Ytiebnnchaopbkaa
