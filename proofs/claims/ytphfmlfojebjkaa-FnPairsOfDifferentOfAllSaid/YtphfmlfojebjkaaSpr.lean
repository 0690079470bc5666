/-
  Maps that count values.
-/
import Derived.Test.YtphfmlfojebjkaaCB
import Derived.Maps.Own
import Derived.Maps.OwnSet
namespace Go.Proofs.Ytphfmlfojebjkaa
open Go.RowKit Go.Maps

/-- How often x is met among the first k values. -/
def cntV {α : Type} [DecidableEq α] (V : Nat → α) (x : α) : Nat → Nat
  | 0 => 0
  | k + 1 => cntV V x k + if V k = x then 1 else 0
theorem cntV_yes {α : Type} [DecidableEq α] {V : Nat → α} {x : α} {k : Nat} (h : V k = x) : cntV V x (k + 1) = cntV V x k + 1 := by simp [cntV, h]
theorem cntV_no {α : Type} [DecidableEq α] {V : Nat → α} {x : α} {k : Nat} (h : ¬ V k = x) : cntV V x (k + 1) = cntV V x k := by simp [cntV, h]
theorem cntV_le {α : Type} [DecidableEq α] (V : Nat → α) (x : α) : ∀ k, cntV V x k ≤ k
  | 0 => Nat.le_refl _
  | k + 1 => by have := cntV_le V x k; rw [cntV]; split <;> omega
theorem lit_injI {a b : Int} (h : (DataW.lit (H := Unit) (.int .i64 a)) = .lit (.int .i64 b)) : a = b := by
  injection h with h; injection h
theorem cells2_below {w w' : World} {A : Option Addr} {rows : List (List Int)} (h : Cells2 w A rows) (hb : Below w.heap.size w w') : Cells2 w' A rows := by
  obtain ⟨P, C, h1, h2⟩ := h
  refine ⟨P, C, fun hp => ?_, fun j hj => (h2 j hj).later hb⟩
  obtain ⟨b, o, rfl, hc⟩ := h1 hp
  exact ⟨b, o, rfl, fun j hj => (hb.cell (World.block_lt_of_cell? w _ (hc j hj))).trans (hc j hj)⟩
end Go.Proofs.Ytphfmlfojebjkaa
