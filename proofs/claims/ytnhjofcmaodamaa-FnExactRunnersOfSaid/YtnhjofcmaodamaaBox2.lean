/-
  A block that holds a variable of two cells (a struct of two fields): what is read of it, and what a store leaves.
-/
import Derived.Test.YtnhjofcmaodamaaBase
import Derived.RangeFuncBox
namespace Go.Proofs.Ytnhjofcmaodamaa
open Go.RowKit

def Box2 (W : World) (g : Nat) (t : TypeId) (a b : Value) : Prop := W.heap[g]? = some (.cells #[a, b] t (0, 0))
theorem Box2.lt {W : World} {g : Nat} {t : TypeId} {a b : Value} (h : Box2 W g t a b) : g < W.heap.size := (Array.getElem?_eq_some_iff.1 h).1
theorem Box2.cell0 {W : World} {g : Nat} {t : TypeId} {a b : Value} (h : Box2 W g t a b) : W.cell? ⟨g, 0, none⟩ = some a := by simp [World.cell?, show W.heap[g]? = _ from h]
theorem Box2.cell1 {W : World} {g : Nat} {t : TypeId} {a b : Value} (h : Box2 W g t a b) : W.cell? ⟨g, 1, none⟩ = some b := by simp [World.cell?, show W.heap[g]? = _ from h]
theorem Box2.froz {W : World} {g : Nat} {t : TypeId} {a b : Value} (h : Box2 W g t a b) (k : Nat) : W.frozen? ⟨g, k, none⟩ = false := by simp [World.frozen?, show W.heap[g]? = _ from h]
theorem Box2.new (W : World) (t : TypeId) (a b : Value) : Box2 (W.alloc (.cells #[a, b] t)) W.heap.size t a b := World.alloc_heap_new W _
theorem Box2.keep {W W' : World} {g : Nat} {t : TypeId} {a b : Value} (h : Box2 W g t a b) (hk : W'.heap[g]? = W.heap[g]?) : Box2 W' g t a b := hk.trans h
theorem Box2.below {W W' : World} {n g : Nat} {t : TypeId} {a b : Value} (h : Box2 W g t a b) (hb : Below n W W') (hn : g < n) : Box2 W' g t a b := h.keep (hb.block g hn)
theorem Box2.next {W W' : World} {g : Nat} {t : TypeId} {a b : Value} (h : Box2 W g t a b) (hb : Below W.heap.size W W') : Box2 W' g t a b := h.below hb h.lt
theorem Box2.alloc {W : World} {g : Nat} {t : TypeId} {a b : Value} (h : Box2 W g t a b) (o : Obj) : Box2 (W.alloc o) g t a b := h.keep ((World.grownBy_alloc W o none).block g h.lt (by simp))
theorem Box2.set0 {W : World} {g : Nat} {t : TypeId} {a b : Value} (v : Value) (h : Box2 W g t a b) : Box2 (W.setCell ⟨g, 0, none⟩ v) g t v b := by
  obtain ⟨hlt, hk⟩ := Array.getElem?_eq_some_iff.1 h
  show (W.heap.modify g _)[g]? = _
  rw [Array.getElem?_eq_getElem (by rw [Array.size_modify]; exact hlt), Array.getElem_modify_self, hk]
  rfl
theorem Box2.set1 {W : World} {g : Nat} {t : TypeId} {a b : Value} (v : Value) (h : Box2 W g t a b) : Box2 (W.setCell ⟨g, 1, none⟩ v) g t a v := by
  obtain ⟨hlt, hk⟩ := Array.getElem?_eq_some_iff.1 h
  show (W.heap.modify g _)[g]? = _
  rw [Array.getElem?_eq_getElem (by rw [Array.size_modify]; exact hlt), Array.getElem_modify_self, hk]
  rfl
theorem Box2.other {W : World} {g g' k : Nat} {t : TypeId} {a b : Value} (h : Box2 W g t a b) (hne : g ≠ g') (v : Value) : Box2 (W.setCell ⟨g', k, none⟩ v) g t a b := h.keep (Below.heap_setCell _ _ _ g (fun e => hne (by rw [e])))
theorem Box2.only {W W' : World} {g B S : Nat} {t : TypeId} {a b : Value} (h : Box2 W g t a b) (ho : ∀ k, k < W.heap.size → (k < B ∨ S ≤ k) → W'.heap[k]? = W.heap[k]?) (hg : g < B ∨ S ≤ g) : Box2 W' g t a b := h.keep (ho g h.lt hg)
end Go.Proofs.Ytnhjofcmaodamaa
