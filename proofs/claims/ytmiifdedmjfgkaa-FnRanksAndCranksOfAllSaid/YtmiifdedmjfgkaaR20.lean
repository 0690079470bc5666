/-
  Several texts in one.
-/
import Derived.Test.YtmiifdedmjfgkaaR01
import Derived.Test.YtmiifdedmjfgkaaR19
import Derived.RangeFuncBox
import Derived.RangeFuncLeaves
import Derived.Shelf.Abstract
import Derived.WalkKit
import Derived.OwnWalkIn
import Derived.TacticsInMore
import Derived.LoopNIn
import Derived.LoopIn
import Derived.Maps.AppendAt
import Derived.RangeFuncNested
/-
  The library's walk backwards over a list of ints: what it hands to the loop's body; and the list of parts that the program makes of beads by it.
-/
namespace Go.Proofs.Ytmiifdedmjfgkaa
open Go.RowKit Go.Shelf
attribute [local go_sem] Oper.semAt_some

def upto {α : Type} (f : Nat → α) (k : Nat) : List α := (List.range k).map f
theorem upto_succ {α : Type} (f : Nat → α) (k : Nat) : upto f (k + 1) = upto f k ++ [f k] := by simp [upto, List.range_succ]
theorem upto_length {α : Type} (f : Nat → α) (k : Nat) : (upto f k).length = k := by simp [upto]
/-- What comes as number k of a walk backwards. -/
def bk (zs : List Int) (k : Nat) : Int × Int := (((zs.length - 1 - k : Nat) : Int), zs.getD (zs.length - 1 - k) 0)

/-- What lay below n₀ lies as it lay, and so does block Bs. -/
def KeepB (n₀ Bs : Nat) (W W' : World) : Prop := Below n₀ W W' ∧ W'.heap[Bs]? = W.heap[Bs]?
theorem KeepB.refl (n₀ Bs : Nat) (W : World) : KeepB n₀ Bs W W := ⟨Below.refl _ _, rfl⟩
theorem KeepB.trans {n₀ Bs : Nat} {A B C : World} (h : KeepB n₀ Bs A B) (k : KeepB n₀ Bs B C) : KeepB n₀ Bs A C := ⟨h.1.trans k.1, k.2.trans h.2⟩
theorem KeepB.cell {n₀ Bs : Nat} {W W' : World} (h : KeepB n₀ Bs W W') : W'.cell? ⟨Bs, 0, none⟩ = W.cell? ⟨Bs, 0, none⟩ := by simp [World.cell?, h.2]
theorem keepB_b {n₀ Bs B : Nat} (h : n₀ ≤ B) (h2 : Bs < B) (W : World) (l : Nat) (o o' : Obj) (hl : B ≤ l) (ho : W.heap[l]? = some o) (_ : o.isCells = false) (_ : o.isWalk = false) : KeepB n₀ Bs W (W.putObj l o') :=
  ⟨(Below.refl n₀ W).grown (grownBy_putObj' W l o') (by have := (Array.getElem?_eq_some_iff.1 ho).1; omega) (fun k e => by cases e; omega), (grownBy_putObj' W l o').block Bs (by have := (Array.getElem?_eq_some_iff.1 ho).1; omega) (by simp; omega)⟩

theorem cells_lt {w : World} {A : Option Addr} {xs : List Int} (h : Cells w A xs) (h0 : 0 < xs.length) : ∀ b, A.map Addr.block = some b → b < w.heap.size := by
  intro b hb
  obtain ⟨b', o, rfl, hcc⟩ := h h0
  have := World.block_lt_of_cell? w _ (hcc 0 h0)
  simp at hb
  subst hb
  exact this
end Go.Proofs.Ytmiifdedmjfgkaa
/-
  The list of parts of beads, as the program makes it in a walk backwards.
-/
namespace Go.Proofs.Ytmiifdedmjfgkaa
open Go.RowKit Go.Shelf
attribute [local go_sem] Oper.semAt_some

def posP (pre : List (Int × Int)) : List Int := pre.filterMap fun x => if x.1 < x.2 then some (wrap64 (x.2 - x.1)) else none
theorem posP_hit (pre : List (Int × Int)) {x : Int × Int} (h : x.1 < x.2) : posP (pre ++ [x]) = posP pre ++ [wrap64 (x.2 - x.1)] := by simp [posP, h]
theorem posP_miss (pre : List (Int × Int)) {x : Int × Int} (h : ¬ x.1 < x.2) : posP (pre ++ [x]) = posP pre := by simp [posP, h]
theorem posP_len (pre : List (Int × Int)) : (posP pre).length ≤ pre.length := List.length_filterMap_le _ _
theorem posP_pk {xs : List Int} (hb : ∀ j, j < xs.length → 0 ≤ xs.getD j 0 ∧ xs.getD j 0 ≤ 1000) (hl : xs.length ≤ 1000) : ∀ k, k ≤ xs.length → posP (upto (bk xs) k) = bpk xs k
  | 0, _ => rfl
  | k + 1, h => by
    have ih := posP_pk hb hl k (by omega)
    have := hb (xs.length - 1 - k) (by omega)
    rw [upto_succ]
    by_cases hh : ((xs.length - 1 - k : Nat) : Int) < xs.getD (xs.length - 1 - k) 0
    · rw [posP_hit _ hh, ih, bpk_yes rfl rfl hh]
      simp only [bk]
      have e : wrap64 (xs.getD (xs.length - 1 - k) 0 - ((xs.length - 1 - k : Nat) : Int)) = xs.getD (xs.length - 1 - k) 0 - ((xs.length - 1 - k : Nat) : Int) := IntWalk.wrap64_in _ (by omega)
      rw [e]
    · rw [posP_miss _ hh, ih, bpk_no rfl rfl hh]

theorem own_form' {w : World} {B : Nat} {v : Value} {xs : List Int} (h : w.ownsRow B 3 1 v xs.length (IL xs)) : ∃ A c, v = .slice A xs.length c ∧ Own w B A c xs := by
  rcases h.2 with ⟨rfl, h0⟩ | ⟨g, cap, cur, rfl, _⟩
  · refine ⟨none, 0, by rw [h0], ?_⟩
    unfold Own; rw [h0] at h ⊢; exact h
  · exact ⟨_, _, rfl, h⟩
end Go.Proofs.Ytmiifdedmjfgkaa
