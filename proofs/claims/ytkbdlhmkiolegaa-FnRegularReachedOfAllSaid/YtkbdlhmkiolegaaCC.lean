/-
  Several texts in one.
-/
import Derived.Test.YtkbdlhmkiolegaaCA
import Derived.Test.YtkbdlhmkiolegaaCB
import Derived.Test.YtkbdlhmkiolegaaPab
import Derived.Deep.RegionHeld3
import Derived.Deep.RegionWith
/-
  Plain facts: a number for each cell, row by row. No program in this text.
-/
namespace Go.Proofs.Ytkbdlhmkiolegaa
open Go.RowKit

def rowF (f : Nat → Nat → Int) (r n : Nat) : List Int := (List.range n).map (f r)
def rowsF (xs : List Int) (f : Nat → Nat → Int) (k : Nat) : List (List Int) := (List.range k).map fun r => rowF f r (xs.getD r 0).toNat
theorem rowF_len (f : Nat → Nat → Int) (r n : Nat) : (rowF f r n).length = n := by simp [rowF]
theorem rowF_succ (f : Nat → Nat → Int) (r n : Nat) : rowF f r (n + 1) = rowF f r n ++ [f r n] := by simp [rowF, List.range_succ]
theorem rowF_get (f : Nat → Nat → Int) (r n c : Nat) (h : c < n) : (rowF f r n).getD c 0 = f r c := by
  rw [List.getD_eq_getElem?_getD, rowF, List.getElem?_map, List.getElem?_range h]; rfl
theorem rowsF_len (xs : List Int) (f : Nat → Nat → Int) (k : Nat) : (rowsF xs f k).length = k := by simp [rowsF]
theorem rowsF_succ (xs : List Int) (f : Nat → Nat → Int) (k : Nat) : rowsF xs f (k + 1) = rowsF xs f k ++ [rowF f k (xs.getD k 0).toNat] := by simp [rowsF, List.range_succ]
theorem rowsF_get (xs : List Int) (f : Nat → Nat → Int) (k r : Nat) (h : r < k) : (rowsF xs f k).getD r [] = rowF f r (xs.getD r 0).toNat := by
  rw [List.getD_eq_getElem?_getD, rowsF, List.getElem?_map, List.getElem?_range h]; rfl
theorem tot_append (a b : List (List Int)) : tot (a ++ b) = tot a + tot b := by
  induction a with
  | nil => simp [tot]
  | cons x t ih => simp only [List.cons_append, tot, ih]; omega
theorem tot_rowsF (xs : List Int) (f : Nat → Nat → Int) (h : ∀ j, j < xs.length → xs.getD j 0 ≤ 30) : ∀ k, k ≤ xs.length → tot (rowsF xs f k) ≤ k * 30
  | 0, _ => by simp [rowsF, tot]
  | k + 1, hk => by
    rw [rowsF_succ, tot_append]
    have := tot_rowsF xs f h k (by omega)
    have := h k (by omega)
    simp only [tot, rowF_len]; omega
def contN (r c : Nat) : Int := (c : Int) - r
def contF (xs : List Int) : List (List Int) := if good xs then rowsF xs contN xs.length else []
def hooksF (xs : List Int) : List (List Int) := if good xs then rowsF xs (hookN xs) xs.length else []
theorem contF_t {xs : List Int} (h : good xs = true) : contF xs = rowsF xs contN xs.length := by simp [contF, h]
theorem contF_f {xs : List Int} (h : good xs = false) : contF xs = [] := by simp [contF, h]
theorem hooksF_t {xs : List Int} (h : good xs = true) : hooksF xs = rowsF xs (hookN xs) xs.length := by simp [hooksF, h]
theorem hooksF_f {xs : List Int} (h : good xs = false) : hooksF xs = [] := by simp [hooksF, h]
theorem bound_rows (xs : List Int) (f : Nat → Nat → Int) (G : Good xs) : (rowsF xs f xs.length).length ≤ 1048576 ∧ tot (rowsF xs f xs.length) ≤ 1048576 := by
  have := tot_rowsF xs f G.le xs.length (Nat.le_refl _)
  have := G.len
  rw [rowsF_len]; omega
theorem bound_ContentsOf (xs : List Int) : (contF xs).length ≤ 1048576 ∧ tot (contF xs) ≤ 1048576 := by
  cases h : good xs
  · rw [contF_f h]; simp [tot]
  · rw [contF_t h]; exact bound_rows xs _ ((good_iff xs).1 h)
theorem bound_HooksOf (xs : List Int) : (hooksF xs).length ≤ 1048576 ∧ tot (hooksF xs) ≤ 1048576 := by
  cases h : good xs
  · rw [hooksF_f h]; simp [tot]
  · rw [hooksF_t h]; exact bound_rows xs _ ((good_iff xs).1 h)

end Go.Proofs.Ytkbdlhmkiolegaa
/-
  Contracts: the columns of a partition, of the program and of the model.
-/
namespace Go.Proofs.Ytkbdlhmkiolegaa
open Go.RowKit




theorem colsRow_below {w w' : World} {B e n : Nat} {A : Option Addr} {m c : Nat} {xs : List Value} (h : w.ownsRow B e 1 (.slice A m c) n xs) (hw : Below w.heap.size w w') : w'.ownsRow B e 1 (.slice A m c) n xs := by
  refine ⟨h.1, ?_⟩
  rcases h.2 with hn | ⟨g, cap, cur, hv, hb, hgg, rest⟩
  · exact .inl hn
  · refine .inr ⟨g, cap, cur, hv, hb, ?_, rest⟩
    rw [hw.block g (Array.getElem?_eq_some_iff.1 hgg).1]
    exact hgg
theorem repl_zero (n : Nat) : IL ([] : List Int) ++ List.replicate (n - 0) (Value.int .i64 0) = List.replicate n (Value.int .i64 0) := by simp [IL]

end Go.Proofs.Ytkbdlhmkiolegaa
/-
  Contracts: ConjugateOf of the program and of the model.
-/
namespace Go.Proofs.Ytkbdlhmkiolegaa
open Go.RowKit

end Go.Proofs.Ytkbdlhmkiolegaa
/-
  Contracts: CornersOf of the program and of the model.
-/
namespace Go.Proofs.Ytkbdlhmkiolegaa
open Go.RowKit


set_option maxRecDepth 100000 in
set_option maxHeartbeats 1000000 in
theorem impl_CornersOf (A : Option Addr) (c : Nat) (xs : List Int) (w : World) (hl : xs.length ≤ 1048576) (hc : Cells w A xs) :
    Calls Try.prog 80 #[.slice A xs.length c] w fun e w' => ∃ A' c', e = .returned (.tuple #[.slice A' (corF xs).length c', .bool (good xs)]) ∧ Own w' w.heap.size A' c' (corF xs) ∧ Below w.heap.size w w' := by
  obtain ⟨i0, hi, hz0, hz1, hz2⟩ := info_parts Try.infoInt
  cases hg : good xs
  · rw [corF_f hg]
    have HG := hid hg; clear hg
    go_enter Try.func80, Try.ntmps80
    go_wp2_with (go_at_call 36; refine (IsPartition_b _ _ _ _ hl hc _ HG.out).mono ?_; rintro e w' ⟨rfl, rfl⟩)
    go_ret2
    exact ⟨none, 0, rfl, own_nil _ _, Below.refl _ _⟩
  rw [corF_t hg]
  have hlen := ((good_iff xs).1 hg).len
  have HG := hid hg; clear hg
  go_enter Try.func80, Try.ntmps80
  go_wp2_with (go_at_call 36; refine (IsPartition_b _ _ _ _ hl hc _ HG.out).mono ?_; rintro e w' ⟨rfl, rfl⟩)
  go_loopw [4, 12] (fun v i wr => ∃ k : Nat, k ≤ xs.length ∧ i = .int .i64 k ∧ wr.ownsRow w.heap.size 3 1 v (filt (corB xs) k).length (IL (filt (corB xs) k)) ∧ Below w.heap.size w wr) (fun _ i _ => xs.length - (intOf i).toNat)
  case atStart => exact ⟨0, Nat.zero_le _, rfl, World.ownsRow_nil _ _ _ _, Below.refl _ _⟩
  case round =>
    obtain ⟨k, hk, rfl, hown, hbel⟩ := hrel
    have hfl := filt_len (corB xs) k
    by_cases hlt : k < xs.length
    · have hcr : Cells wr A xs := hc.later hbel
      obtain ⟨b, o, rfl, hcc⟩ := hcr (by omega)
      have hck := hcc k hlt
      obtain ⟨x, hx⟩ : ∃ x, x = xs.getD k 0 := ⟨_, rfl⟩
      rw [← hx] at hck
      have HX := hid hx; clear hx
      have HF := hid hfl; clear hfl
      have hfl := HF.out
      by_cases hlast : k + 1 = xs.length
      · have HL := hid hlast
        have hkl : (k : Int) = (xs.length : Int) - 1 := by omega
        have hke : ((k : Int) == (xs.length : Int) - 1) = true := beq_iff_eq.2 hkl
        clear hcc hlast hkl
        go_wp2_with (at_builtin; refine wpList_append_own _ rfl _ _ 22 rfl w.heap.size 3 i0 (.int .i64 0) 1 8 Try.underlying22 hi hz0 hz1 hz2 rfl (by decide) _ _ _ rfl (hown.alloc _) ⟨wr.heap.size, 0, none⟩ 1 1 [.int .i64 (k : Int)] rfl rfl one_at (one_cell _) (by have := hfl; unfold maxLen; omega) (by have := hfl; omega) (by have := hbel.size; simp; omega) ?_)
        intro v' w1 hown' hgrow _
        have hb1 : Below w.heap.size w w1 := (hbel.alloc hbel.size _).grown hgrow (by have := hbel.size; simp; omega) (fun q hq => (hown.lt q hq).1)
        have hown2 := own_snoc (filt_yes (cor_last HL.out)) hown'
        clear hgrow hown hown'
        go_wp2_with fail
        go_roundw
        case rel => exact ⟨k + 1, by omega, by go_num, hown2, hb1⟩
        case measure => simp [intOf]; omega
      have hke : ((k : Int) == (xs.length : Int) - 1) = false := beq_eq_false_iff_ne.2 (by omega)
      have hck1 := hcc (k + 1) (by omega)
      have HLa := hid hlast; clear hlast
      have hk2 : k + 1 < xs.length := by have := HLa.out; omega
      obtain ⟨y, hy⟩ : ∃ y, y = xs.getD (k + 1) 0 := ⟨_, rfl⟩
      rw [← hy] at hck1
      have HY := hid hy; clear hy hcc
      by_cases hxy : y < x
      · have HXY := hid hxy
        go_wp2_with (at_builtin; refine wpList_append_own _ rfl _ _ 22 rfl w.heap.size 3 i0 (.int .i64 0) 1 8 Try.underlying22 hi hz0 hz1 hz2 rfl (by decide) _ _ _ rfl (hown.alloc _) ⟨wr.heap.size, 0, none⟩ 1 1 [.int .i64 (k : Int)] rfl rfl one_at (one_cell _) (by have := hfl; unfold maxLen; omega) (by have := hfl; omega) (by have := hbel.size; simp; omega) ?_)
        intro v' w1 hown' hgrow _
        have hb1 : Below w.heap.size w w1 := (hbel.alloc hbel.size _).grown hgrow (by have := hbel.size; simp; omega) (fun q hq => (hown.lt q hq).1)
        have hown2 := own_snoc (filt_yes (cor_lt (by rw [← HX.out, ← HY.out]; exact HXY.out))) hown'
        clear hgrow hown hown'
        go_wp2_with fail
        go_roundw
        case rel => exact ⟨k + 1, by omega, by go_num, hown2, hb1⟩
        case measure => simp [intOf]; omega
      · go_wp2_with fail
        go_roundw
        case rel => exact ⟨k + 1, by omega, by go_num, by rw [filt_no (cor_no HLa.out (by rw [← HX.out, ← HY.out]; exact hxy))]; exact hown, hbel⟩
        case measure => simp [intOf]; omega
    · have hkl : k = xs.length := by omega
      subst hkl
      obtain ⟨A', c', rfl, ho⟩ := own_form hown rfl
      clear hown hfl
      go_wp2_with fail
      go_ret2
      exact ⟨A', c', rfl, ho, hbel⟩
end Go.Proofs.Ytkbdlhmkiolegaa
/-
  Contract: the hook of a cell, of the program.
-/
namespace Go.Proofs.Ytkbdlhmkiolegaa
open Go.RowKit

end Go.Proofs.Ytkbdlhmkiolegaa
/-
  Contracts: HookAt of the program and of the model.
-/
namespace Go.Proofs.Ytkbdlhmkiolegaa
open Go.RowKit

end Go.Proofs.Ytkbdlhmkiolegaa
/-
  Contracts: the model's rows of contents and of hooks.
-/
namespace Go.Proofs.Ytkbdlhmkiolegaa
open Go.RowKit

theorem cols_get' (xs : List Int) (G : Good xs) {k n m : Nat} (hk : k < xs.length) (hn : (n : Int) = xs.getD k 0) (hm : m < n) : m < (cols xs).length ∧ (m : Int) < xs.getD k 0 := by
  have h : (m : Int) < xs.getD k 0 := by omega
  exact ⟨col_lt G hk h, h⟩

end Go.Proofs.Ytkbdlhmkiolegaa
/-
  Contracts: the program's rows of numbers, a number for each cell.
-/
namespace Go.Proofs.Ytkbdlhmkiolegaa
open Go.RowKit

theorem IL_append (a b : List Int) : IL (a ++ b) = IL a ++ IL b := by simp [IL]

/-- Some rows are made; the outer row, block g with n cells, holds them and behind them empty ones. -/
structure Fill (w : World) (B g n : Nat) (rows : List (List Int)) (P : Nat → Option Addr) (C : Nat → Nat) : Prop where
  out : w.ownsRow B 22 1 (.slice (some ⟨g, 0, none⟩) n n) n (RL P C rows ++ List.replicate (n - rows.length) (.slice none 0 0))
  row : ∀ j, j < rows.length → Own w B (P j) (C j) (rows.getD j [])
  apart : ∀ i j, i < j → j < rows.length → ∀ b, (P i).map Addr.block = some b → (P j).map Addr.block ≠ some b
theorem Fill.lt {w : World} {B g n : Nat} {rows : List (List Int)} {P : Nat → Option Addr} {C : Nat → Nat} (h : Fill w B g n rows P C) : g < w.heap.size := (h.out.lt g rfl).2
theorem fill_start (w : World) (n : Nat) (hn : n ≤ maxLen) : Fill (w.alloc (.cells (madeCells #[.slice none 0 0] n) 22)) w.heap.size w.heap.size n [] (fun _ => none) (fun _ => 0) := by
  refine ⟨?_, fun j h => absurd h (by simp), fun i j _ h => absurd h (by simp)⟩
  have h := World.ownsRow_lit (base := w.heap.size) (e := 22) (size := 1) w (madeCells #[.slice none 0 0] n) n (Nat.le_refl _) hn (by rw [size_madeCells]; omega)
  rw [toList_madeCells_one] at h
  simpa [RL] using h
theorem Fill.keep {w w' : World} {B g n : Nat} {rows : List (List Int)} {P : Nat → Option Addr} {C : Nat → Nat} (h : Fill w B g n rows P C) (hb : Below w.heap.size w w') : Fill w' B g n rows P C := by
  refine ⟨ownsRow_keep h.out fun b _ hlt => hb.block b hlt, fun j hj => (h.row j hj).below hb, h.apart⟩
theorem cells_some {w : World} {B e g n : Nat} {vs : List Value} (h : w.ownsRow B e 1 (.slice (some ⟨g, 0, none⟩) n n) n vs) {j : Nat} (hj : j < n) : ∃ u, w.cell? ⟨g, j, none⟩ = some u := by
  rw [World.ownsRow.cellAt h j (by omega)]
  exact ⟨_, List.getElem?_eq_getElem (by have := h.1; omega)⟩
/-- What stands when the next row is made and laid into the outer row. -/
theorem Fill.start {w : World} {B g n : Nat} {rows : List (List Int)} {P : Nat → Option Addr} {C : Nat → Nat} (h : Fill w B g n rows P C) (hlt : rows.length < n) (m : Nat) (hm : m ≤ 1048576) (wa : World) (hwa : wa = w.alloc (.cells (madeCells #[.int .i64 0] m) 3)) :
    (wa.setCell ⟨g, rows.length, none⟩ (.slice (some ⟨w.heap.size, 0, none⟩) m m)).cell? ⟨g, rows.length, none⟩ = some (.slice (some ⟨w.heap.size, 0, none⟩) m m) ∧
    (∃ u, wa.cell? ⟨g, rows.length, none⟩ = some u) ∧ wa.frozen? ⟨g, rows.length, none⟩ = false ∧
    (wa.setCell ⟨g, rows.length, none⟩ (.slice (some ⟨w.heap.size, 0, none⟩) m m)).ownsRow w.heap.size 3 1 (.slice (some ⟨w.heap.size, 0, none⟩) m m) m (IL (rowF (fun _ _ => 0) 0 0) ++ List.replicate (m - 0) (.int .i64 0)) ∧
    Below B w (wa.setCell ⟨g, rows.length, none⟩ (.slice (some ⟨w.heap.size, 0, none⟩) m m)) := by
  have hg := h.lt
  have ho : wa.ownsRow B 22 1 (.slice (some ⟨g, 0, none⟩) n n) n (RL P C rows ++ List.replicate (n - rows.length) (.slice none 0 0)) := by rw [hwa]; exact h.out.alloc _
  obtain ⟨u, hu⟩ := cells_some ho hlt
  have hst := (ho.stored rows.length (.slice (some ⟨w.heap.size, 0, none⟩) m m)).1
  refine ⟨?_, ⟨u, hu⟩, World.ownsRow.frozenAt ho _, ?_, ?_⟩
  · rw [World.ownsRow.cellAt hst rows.length (by omega), List.getElem?_set_self (by have := ho.1; omega)]
  · have hr := World.ownsRow_lit (base := w.heap.size) (e := 3) (size := 1) w (madeCells #[.int .i64 0] m) m (Nat.le_refl _) (by unfold maxLen; omega) (by rw [size_madeCells]; omega)
    rw [toList_madeCells_one, ← hwa] at hr
    have e : IL (rowF (fun _ _ => 0) 0 0) ++ List.replicate (m - 0) (Value.int .i64 0) = List.replicate m (Value.int .i64 0) := by simp [IL, rowF]
    rw [e]
    exact ownsRow_keep hr fun b hb _ => by
      have hbw : b = w.heap.size := by simpa using hb.symm
      exact Below.heap_setCell _ _ _ _ (by show b ≠ g; omega)
  · rw [hwa]
    exact ((Below.refl B w).alloc (by have := (h.out.lt g rfl).1; omega) _).setCell (h.out.lt g rfl).1 _
theorem _root_.Go.World.ownsRow.base_le {w : World} {B e n g : Nat} {vs : List Value} (h : w.ownsRow B e 1 (.slice (some ⟨g, 0, none⟩) n n) n vs) : B ≤ w.heap.size := by
  have := h.lt g rfl; omega
/-- A cell of the row is written behind a call that writes nothing old. -/
theorem fill_row {w w2 : World} {B g n m : Nat} {zs : List Int} (h : w.ownsRow B 3 1 (.slice (some ⟨g, 0, none⟩) n n) n (IL zs ++ List.replicate (n - m) (.int .i64 0))) (hb : Below w.drew.heap.size w.drew w2) (y : Int) (hm : m < n) (hz : zs.length = m) :
    (∃ u, w2.cell? ⟨g, m, none⟩ = some u) ∧ w2.frozen? ⟨g, m, none⟩ = false ∧ (w2.setCell ⟨g, m, none⟩ (.int .i64 y)).ownsRow B 3 1 (.slice (some ⟨g, 0, none⟩) n n) n (IL zs ++ IL [y] ++ List.replicate (n - (m + 1)) (.int .i64 0)) := by
  have h2 : w2.ownsRow B 3 1 (.slice (some ⟨g, 0, none⟩) n n) n (IL zs ++ List.replicate (n - m) (.int .i64 0)) := ownsRow_keep h fun b _ hlt => hb.block b hlt
  refine ⟨cells_some h2 hm, World.ownsRow.frozenAt h2 _, ?_⟩
  have hst := (h2.stored m (.int .i64 y)).1
  have hl : (IL zs).length = m := by simp [IL, hz]
  rw [List.set_append_right _ _ (by omega), hl, Nat.sub_self] at hst
  obtain ⟨d, hd⟩ : ∃ d, n - m = d + 1 := ⟨n - m - 1, by omega⟩
  rw [hd, List.replicate_succ, List.set_cons_zero] at hst
  rw [show n - (m + 1) = d by omega, List.append_assoc]
  exact hst
/-- The row is full: one row more. -/
theorem Fill.next {w : World} {B g n : Nat} {rows : List (List Int)} {P : Nat → Option Addr} {C : Nat → Nat} (h : Fill w B g n rows P C) (hlt : rows.length < n) {m : Nat} {r : List Int} (wa : World) (hwa : wa = w.alloc (.cells (madeCells #[.int .i64 0] m) 3)) (wb : World)
    (hwb : wb = wa.setCell ⟨g, rows.length, none⟩ (.slice (some ⟨w.heap.size, 0, none⟩) m m)) {wi : World} (hbi : Below w.heap.size wb wi) (hr : Own wi w.heap.size (some ⟨w.heap.size, 0, none⟩) m r) (hrl : r.length = m) :
    Fill wi B g n (rows ++ [r]) (setAt P rows.length (some ⟨w.heap.size, 0, none⟩)) (setAt C rows.length m) := by
  have hg := h.out.lt g rfl
  have ho : wa.ownsRow B 22 1 (.slice (some ⟨g, 0, none⟩) n n) n (RL P C rows ++ List.replicate (n - rows.length) (.slice none 0 0)) := by rw [hwa]; exact h.out.alloc _
  have hst := (ho.stored rows.length (.slice (some ⟨w.heap.size, 0, none⟩) m m)).1
  rw [← hwb] at hst
  have hold : ∀ j, j < rows.length → Own wi B (P j) (C j) (rows.getD j []) := fun j hj => by
    have hx := h.row j hj
    refine hx.keep fun b hb hlt2 => ?_
    rw [hbi.block b hlt2, hwb, Below.heap_setCell _ _ _ _ (fun e => row_ne' h.out hx b hb (by simp only [Value.ownBlock]; rw [e])), hwa]
    exact Below.heap_alloc _ _ _ hlt2
  refine ⟨?_, fun j hj => ?_, fun i j hij hj b hbb => ?_⟩
  · have e1 : RL (setAt P rows.length (some ⟨w.heap.size, 0, none⟩)) (setAt C rows.length m) (rows ++ [r]) = RL P C rows ++ [.slice (some ⟨w.heap.size, 0, none⟩) m m] := by rw [RL_snoc, hrl]
    rw [e1, List.length_append, List.length_singleton]
    have e2 : (RL P C rows ++ List.replicate (n - rows.length) (Value.slice none 0 0)).set rows.length (.slice (some ⟨w.heap.size, 0, none⟩) m m) = RL P C rows ++ [.slice (some ⟨w.heap.size, 0, none⟩) m m] ++ List.replicate (n - (rows.length + 1)) (Value.slice none 0 0) := by
      rw [List.set_append_right _ _ (by rw [RL_len]; exact Nat.le_refl _), RL_len, Nat.sub_self]
      obtain ⟨d, hd⟩ : ∃ d, n - rows.length = d + 1 := ⟨n - rows.length - 1, by omega⟩
      rw [hd, List.replicate_succ, List.set_cons_zero, show n - (rows.length + 1) = d by omega, List.append_assoc]; rfl
    rw [e2] at hst
    exact ownsRow_keep hst fun b hb _ => hbi.block b (by have hbg : b = g := by simpa using hb.symm
                                                         omega)
  · rw [List.length_append, List.length_singleton] at hj
    by_cases e : j = rows.length
    · subst e
      rw [setAt_eq, setAt_eq, getD_snoc_eq]
      exact hr.more (by omega)
    · rw [setAt_ne P _ e, setAt_ne C _ e, getD_snoc_lt rows r j (by omega)]
      exact hold j (by omega)
  · rw [List.length_append, List.length_singleton] at hj
    rw [setAt_ne P _ (show i ≠ rows.length by omega)] at hbb
    by_cases e : j = rows.length
    · subst e
      rw [setAt_eq]
      intro he
      have hbw : w.heap.size = b := by simpa using he
      have := ((h.row i (by omega)).block b hbb).2
      omega
    · rw [setAt_ne P _ e]
      exact h.apart i j hij (by omega) b hbb
theorem Fill.own2 {w : World} {B g n : Nat} {rows : List (List Int)} {P : Nat → Option Addr} {C : Nat → Nat} (h : Fill w B g n rows P C) (hl : rows.length = n) : Own2 w B w.heap.size (some ⟨g, 0, none⟩) n rows := by
  have ho := h.out
  rw [hl, Nat.sub_self, List.replicate_zero, List.append_nil] at ho
  exact ⟨P, C, by rw [hl]; exact ho, fun b hb => (ownsRow_block ho b hb).2, h.row, fun j hj b hb => ((h.row j hj).block b hb).2, h.apart⟩

end Go.Proofs.Ytkbdlhmkiolegaa
/-
  Contracts: ContentsOf and HooksOf of the program and of the model.
-/
namespace Go.Proofs.Ytkbdlhmkiolegaa
open Go.RowKit

end Go.Proofs.Ytkbdlhmkiolegaa
/-
  Plain facts: the cells with a given hook, row by row. No program in this text.
-/
namespace Go.Proofs.Ytkbdlhmkiolegaa
open Go.RowKit

def hitRow (row : List Int) (t : Int) (r : Nat) : Nat → List (Nat × Nat)
  | 0 => []
  | m + 1 => if row.getD m 0 = t then hitRow row t r m ++ [(r, m)] else hitRow row t r m
def hits (R : List (List Int)) (t : Int) : Nat → List (Nat × Nat)
  | 0 => []
  | k + 1 => hits R t k ++ hitRow (R.getD k []) t k (R.getD k []).length
def hitsAt (R : List (List Int)) (t : Int) (k m : Nat) : List (Nat × Nat) := hits R t k ++ hitRow (R.getD k []) t k m
theorem hitsAt_zero (R : List (List Int)) (t : Int) (k : Nat) : hitsAt R t k 0 = hits R t k := by simp [hitsAt, hitRow]
theorem hitsAt_t (R : List (List Int)) (t : Int) (k m : Nat) (h : (R.getD k []).getD m 0 = t) : hitsAt R t k (m + 1) = hitsAt R t k m ++ [(k, m)] := by simp only [hitsAt, hitRow]; rw [if_pos h, List.append_assoc]
theorem hitsAt_f (R : List (List Int)) (t : Int) (k m : Nat) (h : ¬ (R.getD k []).getD m 0 = t) : hitsAt R t k (m + 1) = hitsAt R t k m := by simp only [hitsAt, hitRow]; rw [if_neg h]
theorem hits_succ (R : List (List Int)) (t : Int) (k : Nat) : hits R t (k + 1) = hitsAt R t k (R.getD k []).length := rfl
theorem hitRow_len (row : List Int) (t : Int) (r : Nat) : ∀ m, (hitRow row t r m).length ≤ m
  | 0 => by simp [hitRow]
  | m + 1 => by
    have := hitRow_len row t r m
    simp only [hitRow]; split
    · simp; omega
    · omega
theorem hits_len (R : List (List Int)) (t : Int) : ∀ k, k ≤ R.length → (hits R t k).length ≤ tot (R.take k)
  | 0, _ => by simp [hits]
  | k + 1, h => by
    have := hits_len R t k (by omega)
    have := hitRow_len (R.getD k []) t k (R.getD k []).length
    rw [hits, List.length_append, tot_take_succ R k (by omega)]; omega
theorem hitsAt_len (R : List (List Int)) (t : Int) (k m : Nat) (hk : k < R.length) (hm : m ≤ (R.getD k []).length) : (hitsAt R t k m).length ≤ tot R := by
  have := hits_len R t k (by omega)
  have := hitRow_len (R.getD k []) t k m
  have := tot_take_succ R k hk
  have := tot_take_le R (k + 1)
  rw [hitsAt, List.length_append]; omega
theorem hits_le (R : List (List Int)) (t : Int) (k : Nat) (hk : k ≤ R.length) : (hits R t k).length ≤ tot R := by
  have := hits_len R t k hk
  have := tot_take_le R k
  omega
theorem hitRow_mem {row : List Int} {t : Int} {r : Nat} {q : Nat × Nat} : ∀ {m : Nat}, q ∈ hitRow row t r m → q.1 = r ∧ q.2 < m ∧ row.getD q.2 0 = t
  | 0, h => by simp [hitRow] at h
  | m + 1, h => by
    simp only [hitRow] at h
    split at h
    · rename_i e
      rw [List.mem_append] at h
      rcases h with h | h
      · obtain ⟨a, b, c⟩ := hitRow_mem h; exact ⟨a, by omega, c⟩
      · simp at h; subst h; exact ⟨rfl, by simp, e⟩
    · obtain ⟨a, b, c⟩ := hitRow_mem h; exact ⟨a, by omega, c⟩
theorem hits_mem {R : List (List Int)} {t : Int} {q : Nat × Nat} : ∀ {k : Nat}, q ∈ hits R t k → q.1 < k ∧ q.2 < (R.getD q.1 []).length ∧ (R.getD q.1 []).getD q.2 0 = t
  | 0, h => by simp [hits] at h
  | k + 1, h => by
    rw [hits, List.mem_append] at h
    rcases h with h | h
    · obtain ⟨a, b⟩ := hits_mem h; exact ⟨by omega, b⟩
    · obtain ⟨a, b, c⟩ := hitRow_mem h; rw [a]; exact ⟨by omega, b, c⟩

def hooksR (xs : List Int) : List (List Int) := rowsF xs (hookN xs) xs.length
theorem hooksR_len (xs : List Int) : (hooksR xs).length = xs.length := rowsF_len _ _ _
theorem hooksR_tot {xs : List Int} (G : Good xs) : tot (hooksR xs) ≤ 900 := by
  have := tot_rowsF xs (hookN xs) G.le xs.length (Nat.le_refl _)
  have := G.len
  unfold hooksR; omega
/-- All cells with a hook. -/
def rimCs (xs : List Int) (t : Int) : List (Nat × Nat) := hits (hooksR xs) t xs.length
theorem rimCs_len {xs : List Int} (G : Good xs) (t : Int) : (rimCs xs t).length ≤ 900 := by
  have := hits_le (hooksR xs) t xs.length (by rw [hooksR_len]; exact Nat.le_refl _)
  have := hooksR_tot G
  unfold rimCs; omega
theorem rimCs_mem {xs : List Int} {t : Int} {q : Nat × Nat} (h : q ∈ rimCs xs t) : q.1 < xs.length ∧ (q.2 : Int) < xs.getD q.1 0 := by
  obtain ⟨a, b, _⟩ := hits_mem h
  unfold hooksR at b
  rw [rowsF_get xs _ _ _ a, rowF_len] at b
  exact ⟨a, by omega⟩
def crB (xs : List Int) (t : Int) : Bool := good xs && inB 2 6 t
def rimCellsF (xs : List Int) (t : Int) : List (List Int) := if crB xs t then pairs (rimCs xs t) else []
theorem bound_RimCells (xs : List Int) (t : Int) : (rimCellsF xs t).length ≤ 1048576 ∧ tot (rimCellsF xs t) ≤ 1048576 := by
  unfold rimCellsF
  split
  · rename_i h
    simp only [crB, Bool.and_eq_true] at h
    have := rimCs_len ((good_iff xs).1 h.1) t
    rw [pairs_len, tot_pairs]; omega
  · simp [tot]
end Go.Proofs.Ytkbdlhmkiolegaa
/-
  Contracts: RimCells and IsCore of the program and of the model.
-/
namespace Go.Proofs.Ytkbdlhmkiolegaa
open Go.RowKit

theorem crB_good {xs : List Int} {t : Int} (h : crB xs t = true) : good xs = true ∧ inB 2 6 t = true := by
  simp only [crB, Bool.and_eq_true] at h; exact h

theorem cast0 (n : Nat) : ((n : Int) == 0) = decide (n = 0) := by rw [Bool.eq_iff_iff]; simp
def isCoreF (xs : List Int) (t : Int) : Bool := crB xs t && decide ((rimCellsF xs t).length = 0)
theorem isCoreF_t {xs : List Int} {t : Int} (h : crB xs t = true) : isCoreF xs t = decide ((rimCellsF xs t).length = 0) := by simp [isCoreF, h]
end Go.Proofs.Ytkbdlhmkiolegaa
