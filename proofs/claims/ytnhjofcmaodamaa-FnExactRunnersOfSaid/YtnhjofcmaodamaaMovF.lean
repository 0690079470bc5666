/-
  Contracts: MovableBeads of the program (made by genmov.py).
-/
import Derived.Test.YtnhjofcmaodamaaMovMath
import Derived.Test.YtnhjofcmaodamaaBase2
import Derived.Test.YtnhjofcmaodamaaGrow
import Derived.Deep.RegionWith
namespace Go.Proofs.Ytnhjofcmaodamaa
open Go.RowKit

theorem Blk.keepG {W W' : World} {g : Nat} {t : TypeId} {n : Nat} {c : Nat → Value} {o : Obj} {row : Option Nat} (h : Blk W g t n c) (hg : (W.alloc o).grownBy W' row) (hne : some g ≠ row) : Blk W' g t n c :=
  (h.alloc o).keep (hg.block g (h.alloc o).lt hne)
theorem Box2.keepG {W W' : World} {g : Nat} {t : TypeId} {a b : Value} {o : Obj} {row : Option Nat} (h : Box2 W g t a b) (hg : (W.alloc o).grownBy W' row) (hne : some g ≠ row) : Box2 W' g t a b :=
  (h.alloc o).keep (hg.block g (h.alloc o).lt hne)
theorem owns_below {W W' : World} {B n : Nat} {v : Value} {xs : List Value} (h : W.ownsRow B 3 1 v n xs) (hb : Below W.heap.size W W') : W'.ownsRow B 3 1 v n xs := by
  refine ⟨h.1, ?_⟩
  rcases h.2 with hn | ⟨g, cap, cur, hv, hbb, hgg, rest⟩
  · exact .inl hn
  · exact .inr ⟨g, cap, cur, hv, hbb, by rw [hb.block g (Array.getElem?_eq_some_iff.1 hgg).1]; exact hgg, rest⟩
theorem own_ne_blk {W : World} {B g m n : Nat} {c : Nat → Value} {v : Value} {xs : List Value} (h : W.ownsRow B 3 1 v n xs) (hb : Blk W g 77 m c) : some g = v.ownBlock → False := by
  intro e
  rcases h.2 with ⟨rfl, _⟩ | ⟨g1, cap, cur, rfl, _, hg, _⟩
  · simp [Value.ownBlock] at e
  · have e1 : g = g1 := by simpa [Value.ownBlock] using e
    subst e1
    rw [show W.heap[g]? = _ from hb] at hg
    injection hg with hg
    injection hg with _ ht
    exact absurd ht (by decide)
theorem own_ne_box {W : World} {B g n : Nat} {a b : Value} {v : Value} {xs : List Value} (h : W.ownsRow B 3 1 v n xs) (hb : Box2 W g 26 a b) : some g = v.ownBlock → False := by
  intro e
  rcases h.2 with ⟨rfl, _⟩ | ⟨g1, cap, cur, rfl, _, hg, _⟩
  · simp [Value.ownBlock] at e
  · have e1 : g = g1 := by simpa [Value.ownBlock] using e
    subst e1
    rw [show W.heap[g]? = _ from hb] at hg
    injection hg with hg
    injection hg with _ ht
    exact absurd ht (by decide)

end Go.Proofs.Ytnhjofcmaodamaa
