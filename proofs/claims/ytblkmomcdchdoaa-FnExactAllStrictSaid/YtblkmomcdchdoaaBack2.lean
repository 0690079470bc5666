/-
  The library's walk backwards over a list of ints, once more: what the loop's body must keep is the list's own block and the box of the walk.
-/
import Derived.Test.YtblkmomcdchdoaaCB
import Derived.Test.YtblkmomcdchdoaaMaya
import Derived.RangeFuncNested
import Derived.Maps.OwnIn
namespace Go.Proofs.Ytblkmomcdchdoaa
open Go.RowKit Go.Shelf
attribute [local go_sem] Oper.semAt_some

/-- Block Bs lies as it lay, and block Ba, where there are numbers. -/
def KeepC (Bs Ba n : Nat) (W W' : World) : Prop := W'.heap[Bs]? = W.heap[Bs]? ∧ (0 < n → W'.heap[Ba]? = W.heap[Ba]?)
theorem KeepC.refl (Bs Ba n : Nat) (W : World) : KeepC Bs Ba n W W := ⟨rfl, fun _ => rfl⟩
theorem KeepC.trans {Bs Ba n : Nat} {A B C : World} (h : KeepC Bs Ba n A B) (k : KeepC Bs Ba n B C) : KeepC Bs Ba n A C := ⟨k.1.trans h.1, fun h0 => (k.2 h0).trans (h.2 h0)⟩
theorem KeepC.cell {Bs Ba n : Nat} {W W' : World} (h : KeepC Bs Ba n W W') : W'.cell? ⟨Bs, 0, none⟩ = W.cell? ⟨Bs, 0, none⟩ := by simp [World.cell?, h.1]
theorem KeepC.row {Bs Ba n : Nat} {W W' : World} (h : KeepC Bs Ba n W W') (h0 : 0 < n) {b : Nat} (hb : b = Ba) (j : Nat) : W'.cell? ⟨b, j, none⟩ = W.cell? ⟨b, j, none⟩ := by subst hb; simp [World.cell?, h.2 h0]
theorem keepC_b {Bs Ba n B : Nat} (h : 0 < n → Ba < B) (h2 : Bs < B) (W : World) (l : Nat) (o o' : Obj) (hl : B ≤ l) (ho : W.heap[l]? = some o) (_ : o.isCells = false) (_ : o.isWalk = false) : KeepC Bs Ba n W (W.putObj l o') :=
  ⟨(grownBy_putObj' W l o').block Bs (by have := (Array.getElem?_eq_some_iff.1 ho).1; omega) (by simp; omega), fun h0 => (grownBy_putObj' W l o').block Ba (by have := (Array.getElem?_eq_some_iff.1 ho).1; have := h h0; omega) (by have := h h0; simp; omega)⟩

end Go.Proofs.Ytblkmomcdchdoaa
