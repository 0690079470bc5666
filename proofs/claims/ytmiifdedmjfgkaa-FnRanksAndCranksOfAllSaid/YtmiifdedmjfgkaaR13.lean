/-
  Several texts in one.
-/
import Derived.Test.YtmiifdedmjfgkaaR12
import Derived.Deep.RegionHeld3
import Derived.Test.YtmiifdedmjfgkaaR11
import Derived.Test.YtmiifdedmjfgkaaR07
/-
  Contracts: the program's rows of numbers, a number for each cell.
-/
namespace Go.Proofs.Ytmiifdedmjfgkaa
open Go.RowKit

theorem IL_append (a b : List Int) : IL (a ++ b) = IL a ++ IL b := by simp [IL]

/-- Some rows are made; the outer row, block g with n cells, holds them and behind them empty ones. -/
structure Fill (w : World) (B g n : Nat) (rows : List (List Int)) (P : Nat → Option Addr) (C : Nat → Nat) : Prop where
  out : w.ownsRow B 22 1 (.slice (some ⟨g, 0, none⟩) n n) n (RL P C rows ++ List.replicate (n - rows.length) (.slice none 0 0))
  row : ∀ j, j < rows.length → Own w B (P j) (C j) (rows.getD j [])
  apart : ∀ i j, i < j → j < rows.length → ∀ b, (P i).map Addr.block = some b → (P j).map Addr.block ≠ some b
theorem Fill.lt {w : World} {B g n : Nat} {rows : List (List Int)} {P : Nat → Option Addr} {C : Nat → Nat} (h : Fill w B g n rows P C) : g < w.heap.size := (h.out.lt g rfl).2
theorem fill_start (w : World) (n : Nat) (hn : n ≤ maxLen) : Fill (w.alloc (.cells (madeCells #[.slice none 0 0] n) 22)) w.heap.size w.heap.size n [] (fun _ => none) (fun _ => 0) := by
  refine ⟨?_, fun j h => absurd h (by simp), fun i j _ h => absurd h (by simp)⟩
  have h := World.ownsRow_lit (base := w.heap.size) (e := 22) (size := 1) w (madeCells #[.slice none 0 0] n) n (Nat.le_refl _) hn (by rw [size_madeCells]; omega)
  rw [toList_madeCells_one] at h
  simpa [RL] using h
theorem Fill.keep {w w' : World} {B g n : Nat} {rows : List (List Int)} {P : Nat → Option Addr} {C : Nat → Nat} (h : Fill w B g n rows P C) (hb : Below w.heap.size w w') : Fill w' B g n rows P C := by
  refine ⟨ownsRow_keep h.out fun b _ hlt => hb.block b hlt, fun j hj => (h.row j hj).below hb, h.apart⟩
theorem cells_some {w : World} {B e g n : Nat} {vs : List Value} (h : w.ownsRow B e 1 (.slice (some ⟨g, 0, none⟩) n n) n vs) {j : Nat} (hj : j < n) : ∃ u, w.cell? ⟨g, j, none⟩ = some u := by
  rw [World.ownsRow.cellAt h j (by omega)]
  exact ⟨_, List.getElem?_eq_getElem (by have := h.1; omega)⟩
/-- What stands when the next row is made and laid into the outer row. -/
theorem Fill.start {w : World} {B g n : Nat} {rows : List (List Int)} {P : Nat → Option Addr} {C : Nat → Nat} (h : Fill w B g n rows P C) (hlt : rows.length < n) (m : Nat) (hm : m ≤ 1048576) (wa : World) (hwa : wa = w.alloc (.cells (madeCells #[.int .i64 0] m) 3)) :
    (wa.setCell ⟨g, rows.length, none⟩ (.slice (some ⟨w.heap.size, 0, none⟩) m m)).cell? ⟨g, rows.length, none⟩ = some (.slice (some ⟨w.heap.size, 0, none⟩) m m) ∧
    (∃ u, wa.cell? ⟨g, rows.length, none⟩ = some u) ∧ wa.frozen? ⟨g, rows.length, none⟩ = false ∧
    (wa.setCell ⟨g, rows.length, none⟩ (.slice (some ⟨w.heap.size, 0, none⟩) m m)).ownsRow w.heap.size 3 1 (.slice (some ⟨w.heap.size, 0, none⟩) m m) m (IL (rowF (fun _ _ => 0) 0 0) ++ List.replicate (m - 0) (.int .i64 0)) ∧
    Below B w (wa.setCell ⟨g, rows.length, none⟩ (.slice (some ⟨w.heap.size, 0, none⟩) m m)) := by
  have hg := h.lt
  have ho : wa.ownsRow B 22 1 (.slice (some ⟨g, 0, none⟩) n n) n (RL P C rows ++ List.replicate (n - rows.length) (.slice none 0 0)) := by rw [hwa]; exact h.out.alloc _
  obtain ⟨u, hu⟩ := cells_some ho hlt
  have hst := (ho.stored rows.length (.slice (some ⟨w.heap.size, 0, none⟩) m m)).1
  refine ⟨?_, ⟨u, hu⟩, World.ownsRow.frozenAt ho _, ?_, ?_⟩
  · rw [World.ownsRow.cellAt hst rows.length (by omega), List.getElem?_set_self (by have := ho.1; omega)]
  · have hr := World.ownsRow_lit (base := w.heap.size) (e := 3) (size := 1) w (madeCells #[.int .i64 0] m) m (Nat.le_refl _) (by unfold maxLen; omega) (by rw [size_madeCells]; omega)
    rw [toList_madeCells_one, ← hwa] at hr
    have e : IL (rowF (fun _ _ => 0) 0 0) ++ List.replicate (m - 0) (Value.int .i64 0) = List.replicate m (Value.int .i64 0) := by simp [IL, rowF]
    rw [e]
    exact ownsRow_keep hr fun b hb _ => by
      have hbw : b = w.heap.size := by simpa using hb.symm
      exact Below.heap_setCell _ _ _ _ (by show b ≠ g; omega)
  · rw [hwa]
    exact ((Below.refl B w).alloc (by have := (h.out.lt g rfl).1; omega) _).setCell (h.out.lt g rfl).1 _
theorem _root_.Go.World.ownsRow.base_le {w : World} {B e n g : Nat} {vs : List Value} (h : w.ownsRow B e 1 (.slice (some ⟨g, 0, none⟩) n n) n vs) : B ≤ w.heap.size := by
  have := h.lt g rfl; omega
/-- A cell of the row is written behind a call that writes nothing old. -/
theorem fill_row {w w2 : World} {B g n m : Nat} {zs : List Int} (h : w.ownsRow B 3 1 (.slice (some ⟨g, 0, none⟩) n n) n (IL zs ++ List.replicate (n - m) (.int .i64 0))) (hb : Below w.drew.heap.size w.drew w2) (y : Int) (hm : m < n) (hz : zs.length = m) :
    (∃ u, w2.cell? ⟨g, m, none⟩ = some u) ∧ w2.frozen? ⟨g, m, none⟩ = false ∧ (w2.setCell ⟨g, m, none⟩ (.int .i64 y)).ownsRow B 3 1 (.slice (some ⟨g, 0, none⟩) n n) n (IL zs ++ IL [y] ++ List.replicate (n - (m + 1)) (.int .i64 0)) := by
  have h2 : w2.ownsRow B 3 1 (.slice (some ⟨g, 0, none⟩) n n) n (IL zs ++ List.replicate (n - m) (.int .i64 0)) := ownsRow_keep h fun b _ hlt => hb.block b hlt
  refine ⟨cells_some h2 hm, World.ownsRow.frozenAt h2 _, ?_⟩
  have hst := (h2.stored m (.int .i64 y)).1
  have hl : (IL zs).length = m := by simp [IL, hz]
  rw [List.set_append_right _ _ (by omega), hl, Nat.sub_self] at hst
  obtain ⟨d, hd⟩ : ∃ d, n - m = d + 1 := ⟨n - m - 1, by omega⟩
  rw [hd, List.replicate_succ, List.set_cons_zero] at hst
  rw [show n - (m + 1) = d by omega, List.append_assoc]
  exact hst
/-- The row is full: one row more. -/
theorem Fill.next {w : World} {B g n : Nat} {rows : List (List Int)} {P : Nat → Option Addr} {C : Nat → Nat} (h : Fill w B g n rows P C) (hlt : rows.length < n) {m : Nat} {r : List Int} (wa : World) (hwa : wa = w.alloc (.cells (madeCells #[.int .i64 0] m) 3)) (wb : World)
    (hwb : wb = wa.setCell ⟨g, rows.length, none⟩ (.slice (some ⟨w.heap.size, 0, none⟩) m m)) {wi : World} (hbi : Below w.heap.size wb wi) (hr : Own wi w.heap.size (some ⟨w.heap.size, 0, none⟩) m r) (hrl : r.length = m) :
    Fill wi B g n (rows ++ [r]) (setAt P rows.length (some ⟨w.heap.size, 0, none⟩)) (setAt C rows.length m) := by
  have hg := h.out.lt g rfl
  have ho : wa.ownsRow B 22 1 (.slice (some ⟨g, 0, none⟩) n n) n (RL P C rows ++ List.replicate (n - rows.length) (.slice none 0 0)) := by rw [hwa]; exact h.out.alloc _
  have hst := (ho.stored rows.length (.slice (some ⟨w.heap.size, 0, none⟩) m m)).1
  rw [← hwb] at hst
  have hold : ∀ j, j < rows.length → Own wi B (P j) (C j) (rows.getD j []) := fun j hj => by
    have hx := h.row j hj
    refine hx.keep fun b hb hlt2 => ?_
    rw [hbi.block b hlt2, hwb, Below.heap_setCell _ _ _ _ (fun e => row_ne' h.out hx b hb (by simp only [Value.ownBlock]; rw [e])), hwa]
    exact Below.heap_alloc _ _ _ hlt2
  refine ⟨?_, fun j hj => ?_, fun i j hij hj b hbb => ?_⟩
  · have e1 : RL (setAt P rows.length (some ⟨w.heap.size, 0, none⟩)) (setAt C rows.length m) (rows ++ [r]) = RL P C rows ++ [.slice (some ⟨w.heap.size, 0, none⟩) m m] := by rw [RL_snoc, hrl]
    rw [e1, List.length_append, List.length_singleton]
    have e2 : (RL P C rows ++ List.replicate (n - rows.length) (Value.slice none 0 0)).set rows.length (.slice (some ⟨w.heap.size, 0, none⟩) m m) = RL P C rows ++ [.slice (some ⟨w.heap.size, 0, none⟩) m m] ++ List.replicate (n - (rows.length + 1)) (Value.slice none 0 0) := by
      rw [List.set_append_right _ _ (by rw [RL_len]; exact Nat.le_refl _), RL_len, Nat.sub_self]
      obtain ⟨d, hd⟩ : ∃ d, n - rows.length = d + 1 := ⟨n - rows.length - 1, by omega⟩
      rw [hd, List.replicate_succ, List.set_cons_zero, show n - (rows.length + 1) = d by omega, List.append_assoc]; rfl
    rw [e2] at hst
    exact ownsRow_keep hst fun b hb _ => hbi.block b (by have hbg : b = g := by simpa using hb.symm
                                                         omega)
  · rw [List.length_append, List.length_singleton] at hj
    by_cases e : j = rows.length
    · subst e
      rw [setAt_eq, setAt_eq, getD_snoc_eq]
      exact hr.more (by omega)
    · rw [setAt_ne P _ e, setAt_ne C _ e, getD_snoc_lt rows r j (by omega)]
      exact hold j (by omega)
  · rw [List.length_append, List.length_singleton] at hj
    rw [setAt_ne P _ (show i ≠ rows.length by omega)] at hbb
    by_cases e : j = rows.length
    · subst e
      rw [setAt_eq]
      intro he
      have hbw : w.heap.size = b := by simpa using he
      have := ((h.row i (by omega)).block b hbb).2
      omega
    · rw [setAt_ne P _ e]
      exact h.apart i j hij (by omega) b hbb
theorem Fill.own2 {w : World} {B g n : Nat} {rows : List (List Int)} {P : Nat → Option Addr} {C : Nat → Nat} (h : Fill w B g n rows P C) (hl : rows.length = n) : Own2 w B w.heap.size (some ⟨g, 0, none⟩) n rows := by
  have ho := h.out
  rw [hl, Nat.sub_self, List.replicate_zero, List.append_nil] at ho
  exact ⟨P, C, by rw [hl]; exact ho, fun b hb => (ownsRow_block ho b hb).2, h.row, fun j hj b hb => ((h.row j hj).block b hb).2, h.apart⟩

end Go.Proofs.Ytmiifdedmjfgkaa
/-
  Contracts: ContentsOf and HooksOf of the program and of the model.
-/
namespace Go.Proofs.Ytmiifdedmjfgkaa
open Go.RowKit

end Go.Proofs.Ytmiifdedmjfgkaa
