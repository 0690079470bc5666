/-
  Several texts in one.
-/
import Derived.Test.YtdoahfjccpniaaaCB
import Derived.Test.YtdoahfjccpniaaaCA
import Derived.Deep.RegionHeld3
import Derived.StillTailTactics
import Derived.Test.YtdoahfjccpniaaaCC
/-
  Contracts: the program's table of counted partitions.
-/
namespace Go.Proofs.Ytdoahfjccpniaaa
open Go.RowKit

def zeroTab : Array Value := Array.replicate 961 (.int .i64 0)
/-- Block b is a table of 961 numbers: number i is f i. -/
structure Tab (w : World) (b : Nat) (f : Nat → Int) : Prop where
  lt : b < w.heap.size
  cell : ∀ i, i < 961 → w.cell? ⟨b, i, none⟩ = some (.int .i64 (f i))
  frozen : ∀ i, w.frozen? ⟨b, i, none⟩ = false
theorem Tab.keep {w w' : World} {b : Nat} {f : Nat → Int} (h : Tab w b f) (hs : w.heap.size ≤ w'.heap.size) (hk : w'.heap[b]? = w.heap[b]?) : Tab w' b f :=
  ⟨Nat.lt_of_lt_of_le h.lt hs, fun i hi => (World.cell?_of_block (w := w) (w' := w') (a := ⟨b, i, none⟩) hk).trans (h.cell i hi), fun i => (World.frozen?_of_block (w := w) (w' := w') (a := ⟨b, i, none⟩) hk).trans (h.frozen i)⟩
theorem Tab.below {w w' : World} {b : Nat} {f : Nat → Int} (h : Tab w b f) (hb : Below w.heap.size w w') : Tab w' b f := h.keep hb.size (hb.block b h.lt)
theorem Tab.drewN {w : World} {b : Nat} {f : Nat → Int} (h : Tab w b f) (n : Nat) : Tab (w.drewN n) b f := ⟨h.lt, h.cell, h.frozen⟩
theorem Tab.set {w : World} {b : Nat} {f : Nat → Int} (h : Tab w b f) {i : Nat} (hi : i < 961) (v : Int) : Tab (w.setCell ⟨b, i, none⟩ (.int .i64 v)) b (fun j => if j = i then v else f j) := by
  refine ⟨by simp only [World.setCell, Array.size_modify]; exact h.lt, fun j hj => ?_, fun j => ?_⟩
  · by_cases e : j = i
    · subst e
      rw [if_pos rfl]
      exact World.cell?_setCell_same w _ _ (h.cell j hj)
    · rw [if_neg e]
      exact (World.cell?_setCell_other w _ _ _ (fun he => e (by injection he with _ h2 _; exact h2.symm))).trans (h.cell j hj)
  · rw [World.frozen?_setCell]; exact h.frozen j
theorem Tab.congr {w : World} {b : Nat} {f g : Nat → Int} (h : Tab w b f) (e : ∀ i, i < 961 → f i = g i) : Tab w b g := ⟨h.lt, fun i hi => by rw [← e i hi]; exact h.cell i hi, h.frozen⟩
/-- The table's numbers while row n is filled up to column k (k - 1 the last that is right): rows before n are right; what is to come is 0, the first number 1. -/
def stT (n k : Nat) (i : Nat) : Int := if i / 31 < n ∨ i / 31 = n ∧ i % 31 < k then (T (i / 31) (i % 31) : Int) else if i = 0 then 1 else 0

theorem stT_done {n k i : Nat} (h : i / 31 < n ∨ i / 31 = n ∧ i % 31 < k) : stT n k i = T (i / 31) (i % 31) := by unfold stT; rw [if_pos h]
theorem stT_todo {n k i : Nat} (h : ¬ (i / 31 < n ∨ i / 31 = n ∧ i % 31 < k)) : stT n k i = if i = 0 then 1 else 0 := by unfold stT; rw [if_neg h]
theorem stT_first {n : Nat} (hn : n < 31) (i : Nat) : stT n 0 i = stT n 1 i := by
  by_cases h : i / 31 < n
  · rw [stT_done (k := 0) (.inl h), stT_done (k := 1) (.inl h)]
  · by_cases h2 : i / 31 = n ∧ i % 31 < 1
    · rw [stT_todo (k := 0) (by omega), stT_done (k := 1) (.inr h2)]
      have hm : i % 31 = 0 := by omega
      rw [h2.1, hm, T_zero n hn]
      by_cases hn0 : n = 0
      · rw [if_pos hn0, if_pos (by omega)]; rfl
      · rw [if_neg hn0, if_neg (by omega)]; rfl
    · rw [stT_todo (k := 0) (by omega), stT_todo (k := 1) (by omega)]
theorem stT_row (n i : Nat) : stT n 31 i = stT (n + 1) 0 i := by
  by_cases h : i / 31 < n + 1
  · rw [stT_done (n := n) (k := 31) (by omega), stT_done (n := n + 1) (k := 0) (.inl h)]
  · rw [stT_todo (n := n) (k := 31) (by omega), stT_todo (n := n + 1) (k := 0) (by omega)]
theorem stT_step {n k i : Nat} (hk : k < 31) (x : Int) (hx : x = T n k) : (if i = n * 31 + k then x else stT n k i) = stT n (k + 1) i := by
  by_cases e : i = n * 31 + k
  · rw [if_pos e, stT_done (k := k + 1) (by omega), hx, show i / 31 = n by omega, show i % 31 = k by omega]
  · rw [if_neg e]
    by_cases h : i / 31 < n ∨ i / 31 = n ∧ i % 31 < k
    · rw [stT_done h, stT_done (k := k + 1) (by omega)]
    · rw [stT_todo h, stT_todo (k := k + 1) (by omega)]
theorem stT_start (i : Nat) (_hi : i < 961) : (if i = 0 then (1 : Int) else 0) = stT 0 0 i := by rw [stT_todo (by omega)]
theorem T_no {n k : Nat} (hn : n < 31) (hk1 : 1 ≤ k) (hk : k < 31) (h : ¬ k ≤ n) : T n k = T n (k - 1) := by
  have := T_rec n hn (k - 1) (by omega)
  rw [show k - 1 + 1 = k by omega, if_neg h] at this
  exact this

end Go.Proofs.Ytdoahfjccpniaaa
/-
  Contracts: the model's table of counted partitions.
-/
namespace Go.Proofs.Ytdoahfjccpniaaa
open Go.RowKit

def tF (m j : Nat) : Int := (T m j : Int)
def rowsT (n k : Nat) : List (List Int) := (List.range k).map fun m => rowF tF m (n + 1)
theorem rowsT_len (n k : Nat) : (rowsT n k).length = k := by simp [rowsT]
theorem rowsT_succ (n k : Nat) : rowsT n (k + 1) = rowsT n k ++ [rowF tF k (n + 1)] := by simp [rowsT, List.range_succ]
theorem rowsT_get (n k m : Nat) (h : m < k) : (rowsT n k).getD m [] = rowF tF m (n + 1) := by
  rw [List.getD_eq_getElem?_getD, rowsT, List.getElem?_map, List.getElem?_range h]; rfl
def part (ys : List Int) (k : Nat) : List Value := IL (ys.take k) ++ List.replicate (ys.length - k) (.int .i64 0)
theorem part_set (ys : List Int) (k : Nat) (hk : k < ys.length) : (part ys k).set k (.int .i64 (ys.getD k 0)) = part ys (k + 1) := by
  unfold part
  have hl : (IL (ys.take k)).length = k := by simp [IL]; omega
  rw [List.set_append_right _ _ (by omega), hl, Nat.sub_self]
  obtain ⟨m, hm⟩ : ∃ m, ys.length - k = m + 1 := ⟨ys.length - k - 1, by omega⟩
  rw [hm, show ys.length - (k + 1) = m by omega, List.replicate_succ, List.set_cons_zero, ← IL_snoc ys k hk, List.append_assoc]; rfl
theorem part_len (ys : List Int) (k : Nat) (hk : k ≤ ys.length) : (part ys k).length = ys.length := by simp [part, IL]; omega
theorem part_get (ys : List Int) (k j : Nat) (hj : j < k) (hk : k ≤ ys.length) : (part ys k)[j]? = some (.int .i64 (ys.getD j 0)) := by
  unfold part
  rw [List.getElem?_append_left (by simp [IL]; omega), IL_get _ j (by simp; omega), getD_take ys k j hj]
theorem part_full (ys : List Int) : part ys ys.length = IL ys := by simp [part]
theorem part_zero (ys : List Int) : part ys 0 = List.replicate ys.length (.int .i64 0) := by simp [part, IL]
theorem part_one (ys : List Int) (h : 0 < ys.length) (h0 : ys.getD 0 0 = 0) : part ys 1 = List.replicate ys.length (.int .i64 0) := by
  have := part_set ys 0 h
  rw [h0, part_zero] at this
  rw [← this]
  obtain ⟨m, hm⟩ : ∃ m, ys.length = m + 1 := ⟨ys.length - 1, by omega⟩
  rw [hm, List.replicate_succ, List.set_cons_zero]
theorem tF_get (m n j : Nat) (h : j < n + 1) : (rowF tF m (n + 1)).getD j 0 = T m j := rowF_get tF m (n + 1) j h

end Go.Proofs.Ytdoahfjccpniaaa
