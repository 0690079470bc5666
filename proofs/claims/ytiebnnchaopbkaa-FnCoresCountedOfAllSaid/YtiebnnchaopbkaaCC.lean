/-
  Several texts in one.
-/
import Derived.Test.YtiebnnchaopbkaaCA
import Derived.Test.YtiebnnchaopbkaaCB
import Derived.Test.YtiebnnchaopbkaaR01
import Derived.Deep.RegionHeld3
import Derived.Deep.RegionWith
/-
  Plain facts: a number for each cell, row by row. No program in this text.
-/
namespace Go.Proofs.Ytiebnnchaopbkaa
open Go.RowKit

def rowF (f : Nat → Nat → Int) (r n : Nat) : List Int := (List.range n).map (f r)
def rowsF (xs : List Int) (f : Nat → Nat → Int) (k : Nat) : List (List Int) := (List.range k).map fun r => rowF f r (xs.getD r 0).toNat
theorem rowF_len (f : Nat → Nat → Int) (r n : Nat) : (rowF f r n).length = n := by simp [rowF]
theorem rowF_succ (f : Nat → Nat → Int) (r n : Nat) : rowF f r (n + 1) = rowF f r n ++ [f r n] := by simp [rowF, List.range_succ]
theorem rowF_get (f : Nat → Nat → Int) (r n c : Nat) (h : c < n) : (rowF f r n).getD c 0 = f r c := by
  rw [List.getD_eq_getElem?_getD, rowF, List.getElem?_map, List.getElem?_range h]; rfl
theorem rowsF_len (xs : List Int) (f : Nat → Nat → Int) (k : Nat) : (rowsF xs f k).length = k := by simp [rowsF]
theorem rowsF_succ (xs : List Int) (f : Nat → Nat → Int) (k : Nat) : rowsF xs f (k + 1) = rowsF xs f k ++ [rowF f k (xs.getD k 0).toNat] := by simp [rowsF, List.range_succ]
theorem rowsF_get (xs : List Int) (f : Nat → Nat → Int) (k r : Nat) (h : r < k) : (rowsF xs f k).getD r [] = rowF f r (xs.getD r 0).toNat := by
  rw [List.getD_eq_getElem?_getD, rowsF, List.getElem?_map, List.getElem?_range h]; rfl
theorem tot_append (a b : List (List Int)) : tot (a ++ b) = tot a + tot b := by
  induction a with
  | nil => simp [tot]
  | cons x t ih => simp only [List.cons_append, tot, ih]; omega
theorem tot_rowsF (xs : List Int) (f : Nat → Nat → Int) (h : ∀ j, j < xs.length → xs.getD j 0 ≤ 30) : ∀ k, k ≤ xs.length → tot (rowsF xs f k) ≤ k * 30
  | 0, _ => by simp [rowsF, tot]
  | k + 1, hk => by
    rw [rowsF_succ, tot_append]
    have := tot_rowsF xs f h k (by omega)
    have := h k (by omega)
    simp only [tot, rowF_len]; omega
def contN (r c : Nat) : Int := (c : Int) - r
def contF (xs : List Int) : List (List Int) := if good xs then rowsF xs contN xs.length else []
def hooksF (xs : List Int) : List (List Int) := if good xs then rowsF xs (hookN xs) xs.length else []
theorem contF_t {xs : List Int} (h : good xs = true) : contF xs = rowsF xs contN xs.length := by simp [contF, h]
theorem contF_f {xs : List Int} (h : good xs = false) : contF xs = [] := by simp [contF, h]
theorem hooksF_t {xs : List Int} (h : good xs = true) : hooksF xs = rowsF xs (hookN xs) xs.length := by simp [hooksF, h]
theorem hooksF_f {xs : List Int} (h : good xs = false) : hooksF xs = [] := by simp [hooksF, h]
theorem bound_rows (xs : List Int) (f : Nat → Nat → Int) (G : Good xs) : (rowsF xs f xs.length).length ≤ 1048576 ∧ tot (rowsF xs f xs.length) ≤ 1048576 := by
  have := tot_rowsF xs f G.le xs.length (Nat.le_refl _)
  have := G.len
  rw [rowsF_len]; omega
theorem bound_ContentsOf (xs : List Int) : (contF xs).length ≤ 1048576 ∧ tot (contF xs) ≤ 1048576 := by
  cases h : good xs
  · rw [contF_f h]; simp [tot]
  · rw [contF_t h]; exact bound_rows xs _ ((good_iff xs).1 h)
theorem bound_HooksOf (xs : List Int) : (hooksF xs).length ≤ 1048576 ∧ tot (hooksF xs) ≤ 1048576 := by
  cases h : good xs
  · rw [hooksF_f h]; simp [tot]
  · rw [hooksF_t h]; exact bound_rows xs _ ((good_iff xs).1 h)

end Go.Proofs.Ytiebnnchaopbkaa
/-
  Contracts: the columns of a partition, of the program and of the model.
-/
namespace Go.Proofs.Ytiebnnchaopbkaa
open Go.RowKit




theorem colsRow_below {w w' : World} {B e n : Nat} {A : Option Addr} {m c : Nat} {xs : List Value} (h : w.ownsRow B e 1 (.slice A m c) n xs) (hw : Below w.heap.size w w') : w'.ownsRow B e 1 (.slice A m c) n xs := by
  refine ⟨h.1, ?_⟩
  rcases h.2 with hn | ⟨g, cap, cur, hv, hb, hgg, rest⟩
  · exact .inl hn
  · refine .inr ⟨g, cap, cur, hv, hb, ?_, rest⟩
    rw [hw.block g (Array.getElem?_eq_some_iff.1 hgg).1]
    exact hgg
theorem repl_zero (n : Nat) : IL ([] : List Int) ++ List.replicate (n - 0) (Value.int .i64 0) = List.replicate n (Value.int .i64 0) := by simp [IL]

set_option maxRecDepth 100000 in
set_option maxHeartbeats 1000000 in
theorem columnsOf_any (A : Option Addr) (c : Nat) (xs : List Int) (w : World) (G : Good xs) (hc : Cells w A xs) :
    Calls Try.prog 85 #[.slice A xs.length c] w fun e w' => ∃ A' c', e = .returned (.slice A' (cols xs).length c') ∧ Own w' w.heap.size A' c' (cols xs) ∧ Below w.heap.size w w' := by
  have hlen := G.len
  have HG := hid G; clear G
  by_cases h0 : xs.length = 0
  · have hx : xs = [] := List.eq_nil_of_length_eq_zero h0
    subst hx
    go_enter Try.func85, Try.ntmps85
    go_wp2_with fail
    go_ret
    exact ⟨none, 0, rfl, own_nil _ _, Below.refl _ _⟩
  have hb0 := HG.out.le 0 (by omega)
  have hp0 := HG.out.pos 0 (by omega)
  obtain ⟨b, o, rfl, hcc⟩ := hc (by omega)
  have hc0 := hcc 0 (by omega)
  rw [Nat.add_zero] at hc0
  obtain ⟨p0, hp⟩ : ∃ p : Nat, xs.getD 0 0 = (p : Int) := ⟨(xs.getD 0 0).toNat, by omega⟩
  rw [hp] at hc0 hb0 hp0
  have hcl : (cols xs).length = p0 := by rw [cols_len, hp]; rfl
  have HCL := hid hcl; clear hcl
  have HP := hid hp; clear hp
  have HCC := hid hcc; clear hcc
  have hmk := run_make_row' (P := Try.prog) 28 3 (.int .i64 0) 8 Try.underlying28 Try.infoInt rfl .i64 .i64 p0 (by omega) (by omega)
  have hne : ((xs.length : Int) == 0) = false := beq_eq_false_iff_ne.2 (by omega)
  go_enter Try.func85, Try.ntmps85
  go_wp2_with fail
  go_loopw [4, 14] (fun _ i wr => ∃ k : Nat, k ≤ p0 ∧ i = .int .i64 k ∧ wr.ownsRow w.heap.size 3 1 (.slice (some ⟨w.heap.size, 0, none⟩) p0 p0) p0 (IL ((cols xs).take k) ++ List.replicate (p0 - k) (.int .i64 0)) ∧ Below w.heap.size w wr) (fun _ i _ => p0 - (intOf i).toNat)
  case atStart =>
    refine ⟨0, Nat.zero_le _, rfl, ?_, (Below.refl _ _).alloc (Nat.le_refl _) _⟩
    have h := World.ownsRow_lit (base := w.heap.size) (e := 3) (size := 1) w (madeCells #[.int .i64 0] p0) p0 (Nat.le_refl _) (by unfold maxLen; omega) (by rw [size_madeCells]; omega)
    rw [toList_madeCells_one] at h
    rw [List.take_zero, repl_zero]
    exact h
  case round =>
    obtain ⟨k, hk, rfl, hown, hbel⟩ := hrel
    by_cases hlt : k < p0
    · have hcol := cols_get xs k (by rw [HP.out]; exact hlt)
      obtain ⟨y, hy⟩ : ∃ y, y = colH xs k := ⟨_, rfl⟩
      have HQ := hid (fun wx (hb : Below w.heap.size w wx) => partsAbove_any (some ⟨b, o, none⟩) c xs (k : Int) wx hlen (hc.later hb))
      rw [← hy] at hcol HQ
      obtain ⟨u, hu⟩ : ∃ u, (IL ((cols xs).take k) ++ List.replicate (p0 - k) (Value.int .i64 0))[k]? = some u := by
        refine ⟨_, List.getElem?_eq_getElem (by have := hown.1; omega)⟩
      have HU := hid hu
      have HCO := hid hcol
      have HO := hid hown
      have HB := hid hbel
      have hp1 : (k : Int) < (p0 : Int) := by omega
      clear hu hcol hown hbel hy hc
      go_wp2_with fail
      go_at_call 91
      refine (HQ.out _ HB.out).mono ?_
      rintro e w5 ⟨rfl, b5⟩
      have ho5 := colsRow_below HO.out b5
      have B5 := hid (HB.out.trans (b5.mono HB.out.size))
      have hst := toCopy (cols xs) k (by rw [HCL.out]; exact hlt) w.heap.size w5 w.heap.size (by rw [HCL.out]; exact ho5)
      rw [HCL.out, HCO.out] at hst
      have hcur := World.ownsRow.cellAt ho5 k (by omega)
      rw [HU.out] at hcur
      have hfz := World.ownsRow.frozenAt ho5 k
      have HS := hid hst
      clear ho5 hst
      go_wp2_with fail
      go_roundw
      case rel => exact ⟨k + 1, by omega, by go_num, HS.out, B5.out.setCell (Nat.le_refl _) _⟩
      case measure => simp [intOf]; omega
    · have hkp : k = p0 := by omega
      subst hkp
      have hown2 := hown
      rw [List.take_of_length_le (by rw [HCL.out]; exact Nat.le_refl _), Nat.sub_self, List.replicate_zero, List.append_nil] at hown2
      have ho : Own wr w.heap.size (some ⟨w.heap.size, 0, none⟩) k (cols xs) := by unfold Own; rw [HCL.out]; exact hown2
      have HO := hid ho
      clear hown hown2 ho
      go_wp2_with fail
      go_ret
      refine ⟨some ⟨w.heap.size, 0, none⟩, k, ?_, HO.out, hbel⟩
      rw [HCL.out]; rfl
end Go.Proofs.Ytiebnnchaopbkaa
/-
  Contracts: ConjugateOf of the program and of the model.
-/
namespace Go.Proofs.Ytiebnnchaopbkaa
open Go.RowKit

end Go.Proofs.Ytiebnnchaopbkaa
/-
  Contracts: CornersOf of the program and of the model.
-/
namespace Go.Proofs.Ytiebnnchaopbkaa
open Go.RowKit


end Go.Proofs.Ytiebnnchaopbkaa
/-
  Contract: the hook of a cell, of the program.
-/
namespace Go.Proofs.Ytiebnnchaopbkaa
open Go.RowKit

set_option maxHeartbeats 1000000 in
theorem hookOf_any (A : Option Addr) (c : Nat) (xs : List Int) (B : Option Addr) (d : Nat) (ys : List Int) (r k : Nat) (w : World) (hr : r < xs.length) (hk : k < ys.length) (hl : xs.length ≤ 1048576) (hl2 : ys.length ≤ 1048576)
    (hx : 0 ≤ xs.getD r 0 ∧ xs.getD r 0 ≤ 1000) (hy : 0 ≤ ys.getD k 0 ∧ ys.getD k 0 ≤ 1000) (hc : Cells w A xs) (hd : Cells w B ys) (v : Int) (hv : v = xs.getD r 0 - k + ys.getD k 0 - r - 1) :
    Calls Try.prog 88 #[.slice A xs.length c, .slice B ys.length d, .agg #[.int .i64 r, .int .i64 k]] w fun e w' => e = .returned (.int .i64 v) ∧ Below w.heap.size w w' := by
  subst hv
  obtain ⟨b, o, rfl, hck⟩ := hc.get hr
  obtain ⟨b2, o2, rfl, hdk⟩ := hd.get hk
  obtain ⟨x, hxx⟩ : ∃ x, x = xs.getD r 0 := ⟨_, rfl⟩
  obtain ⟨y, hyy⟩ : ∃ y, y = ys.getD k 0 := ⟨_, rfl⟩
  rw [← hxx] at hck hx
  rw [← hyy] at hdk hy
  rw [← hxx, ← hyy]
  clear hxx hyy
  have hck' := (World.cell?_alloc_lt w (.cells #[.int .i64 r, .int .i64 k] 102) ⟨b, o + r, none⟩ (World.block_lt_of_cell? w _ hck)).trans hck
  have hdk' := (World.cell?_alloc_lt w (.cells #[.int .i64 r, .int .i64 k] 102) ⟨b2, o2 + k, none⟩ (World.block_lt_of_cell? w _ hdk)).trans hdk
  go_enter Try.func88, Try.ntmps88
  go_wp2_with fail
  go_quiet (fail)
  go_wp2_with fail
  go_quiet (fail)
  go_wp2_with fail
  go_ret
  exact ⟨ret_int (by omega), below_drewN ((Below.refl _ _).alloc (Nat.le_refl _) _) _⟩
end Go.Proofs.Ytiebnnchaopbkaa
/-
  Contracts: HookAt of the program and of the model.
-/
namespace Go.Proofs.Ytiebnnchaopbkaa
open Go.RowKit

end Go.Proofs.Ytiebnnchaopbkaa
/-
  Contracts: the model's rows of contents and of hooks.
-/
namespace Go.Proofs.Ytiebnnchaopbkaa
open Go.RowKit

theorem cols_get' (xs : List Int) (G : Good xs) {k n m : Nat} (hk : k < xs.length) (hn : (n : Int) = xs.getD k 0) (hm : m < n) : m < (cols xs).length ∧ (m : Int) < xs.getD k 0 := by
  have h : (m : Int) < xs.getD k 0 := by omega
  exact ⟨col_lt G hk h, h⟩

end Go.Proofs.Ytiebnnchaopbkaa
/-
  Contracts: the program's rows of numbers, a number for each cell.
-/
namespace Go.Proofs.Ytiebnnchaopbkaa
open Go.RowKit

theorem IL_append (a b : List Int) : IL (a ++ b) = IL a ++ IL b := by simp [IL]

/-- Some rows are made; the outer row, block g with n cells, holds them and behind them empty ones. -/
structure Fill (w : World) (B g n : Nat) (rows : List (List Int)) (P : Nat → Option Addr) (C : Nat → Nat) : Prop where
  out : w.ownsRow B 28 1 (.slice (some ⟨g, 0, none⟩) n n) n (RL P C rows ++ List.replicate (n - rows.length) (.slice none 0 0))
  row : ∀ j, j < rows.length → Own w B (P j) (C j) (rows.getD j [])
  apart : ∀ i j, i < j → j < rows.length → ∀ b, (P i).map Addr.block = some b → (P j).map Addr.block ≠ some b
theorem Fill.lt {w : World} {B g n : Nat} {rows : List (List Int)} {P : Nat → Option Addr} {C : Nat → Nat} (h : Fill w B g n rows P C) : g < w.heap.size := (h.out.lt g rfl).2
theorem fill_start (w : World) (n : Nat) (hn : n ≤ maxLen) : Fill (w.alloc (.cells (madeCells #[.slice none 0 0] n) 28)) w.heap.size w.heap.size n [] (fun _ => none) (fun _ => 0) := by
  refine ⟨?_, fun j h => absurd h (by simp), fun i j _ h => absurd h (by simp)⟩
  have h := World.ownsRow_lit (base := w.heap.size) (e := 28) (size := 1) w (madeCells #[.slice none 0 0] n) n (Nat.le_refl _) hn (by rw [size_madeCells]; omega)
  rw [toList_madeCells_one] at h
  simpa [RL] using h
theorem Fill.keep {w w' : World} {B g n : Nat} {rows : List (List Int)} {P : Nat → Option Addr} {C : Nat → Nat} (h : Fill w B g n rows P C) (hb : Below w.heap.size w w') : Fill w' B g n rows P C := by
  refine ⟨ownsRow_keep h.out fun b _ hlt => hb.block b hlt, fun j hj => (h.row j hj).below hb, h.apart⟩
theorem cells_some {w : World} {B e g n : Nat} {vs : List Value} (h : w.ownsRow B e 1 (.slice (some ⟨g, 0, none⟩) n n) n vs) {j : Nat} (hj : j < n) : ∃ u, w.cell? ⟨g, j, none⟩ = some u := by
  rw [World.ownsRow.cellAt h j (by omega)]
  exact ⟨_, List.getElem?_eq_getElem (by have := h.1; omega)⟩
/-- What stands when the next row is made and laid into the outer row. -/
theorem Fill.start {w : World} {B g n : Nat} {rows : List (List Int)} {P : Nat → Option Addr} {C : Nat → Nat} (h : Fill w B g n rows P C) (hlt : rows.length < n) (m : Nat) (hm : m ≤ 1048576) (wa : World) (hwa : wa = w.alloc (.cells (madeCells #[.int .i64 0] m) 3)) :
    (wa.setCell ⟨g, rows.length, none⟩ (.slice (some ⟨w.heap.size, 0, none⟩) m m)).cell? ⟨g, rows.length, none⟩ = some (.slice (some ⟨w.heap.size, 0, none⟩) m m) ∧
    (∃ u, wa.cell? ⟨g, rows.length, none⟩ = some u) ∧ wa.frozen? ⟨g, rows.length, none⟩ = false ∧
    (wa.setCell ⟨g, rows.length, none⟩ (.slice (some ⟨w.heap.size, 0, none⟩) m m)).ownsRow w.heap.size 3 1 (.slice (some ⟨w.heap.size, 0, none⟩) m m) m (IL (rowF (fun _ _ => 0) 0 0) ++ List.replicate (m - 0) (.int .i64 0)) ∧
    Below B w (wa.setCell ⟨g, rows.length, none⟩ (.slice (some ⟨w.heap.size, 0, none⟩) m m)) := by
  have hg := h.lt
  have ho : wa.ownsRow B 28 1 (.slice (some ⟨g, 0, none⟩) n n) n (RL P C rows ++ List.replicate (n - rows.length) (.slice none 0 0)) := by rw [hwa]; exact h.out.alloc _
  obtain ⟨u, hu⟩ := cells_some ho hlt
  have hst := (ho.stored rows.length (.slice (some ⟨w.heap.size, 0, none⟩) m m)).1
  refine ⟨?_, ⟨u, hu⟩, World.ownsRow.frozenAt ho _, ?_, ?_⟩
  · rw [World.ownsRow.cellAt hst rows.length (by omega), List.getElem?_set_self (by have := ho.1; omega)]
  · have hr := World.ownsRow_lit (base := w.heap.size) (e := 3) (size := 1) w (madeCells #[.int .i64 0] m) m (Nat.le_refl _) (by unfold maxLen; omega) (by rw [size_madeCells]; omega)
    rw [toList_madeCells_one, ← hwa] at hr
    have e : IL (rowF (fun _ _ => 0) 0 0) ++ List.replicate (m - 0) (Value.int .i64 0) = List.replicate m (Value.int .i64 0) := by simp [IL, rowF]
    rw [e]
    exact ownsRow_keep hr fun b hb _ => by
      have hbw : b = w.heap.size := by simpa using hb.symm
      exact Below.heap_setCell _ _ _ _ (by show b ≠ g; omega)
  · rw [hwa]
    exact ((Below.refl B w).alloc (by have := (h.out.lt g rfl).1; omega) _).setCell (h.out.lt g rfl).1 _
theorem _root_.Go.World.ownsRow.base_le {w : World} {B e n g : Nat} {vs : List Value} (h : w.ownsRow B e 1 (.slice (some ⟨g, 0, none⟩) n n) n vs) : B ≤ w.heap.size := by
  have := h.lt g rfl; omega
/-- A cell of the row is written behind a call that writes nothing old. -/
theorem fill_row {w w2 : World} {B g n m : Nat} {zs : List Int} (h : w.ownsRow B 3 1 (.slice (some ⟨g, 0, none⟩) n n) n (IL zs ++ List.replicate (n - m) (.int .i64 0))) (hb : Below w.drew.heap.size w.drew w2) (y : Int) (hm : m < n) (hz : zs.length = m) :
    (∃ u, w2.cell? ⟨g, m, none⟩ = some u) ∧ w2.frozen? ⟨g, m, none⟩ = false ∧ (w2.setCell ⟨g, m, none⟩ (.int .i64 y)).ownsRow B 3 1 (.slice (some ⟨g, 0, none⟩) n n) n (IL zs ++ IL [y] ++ List.replicate (n - (m + 1)) (.int .i64 0)) := by
  have h2 : w2.ownsRow B 3 1 (.slice (some ⟨g, 0, none⟩) n n) n (IL zs ++ List.replicate (n - m) (.int .i64 0)) := ownsRow_keep h fun b _ hlt => hb.block b hlt
  refine ⟨cells_some h2 hm, World.ownsRow.frozenAt h2 _, ?_⟩
  have hst := (h2.stored m (.int .i64 y)).1
  have hl : (IL zs).length = m := by simp [IL, hz]
  rw [List.set_append_right _ _ (by omega), hl, Nat.sub_self] at hst
  obtain ⟨d, hd⟩ : ∃ d, n - m = d + 1 := ⟨n - m - 1, by omega⟩
  rw [hd, List.replicate_succ, List.set_cons_zero] at hst
  rw [show n - (m + 1) = d by omega, List.append_assoc]
  exact hst
/-- The row is full: one row more. -/
theorem Fill.next {w : World} {B g n : Nat} {rows : List (List Int)} {P : Nat → Option Addr} {C : Nat → Nat} (h : Fill w B g n rows P C) (hlt : rows.length < n) {m : Nat} {r : List Int} (wa : World) (hwa : wa = w.alloc (.cells (madeCells #[.int .i64 0] m) 3)) (wb : World)
    (hwb : wb = wa.setCell ⟨g, rows.length, none⟩ (.slice (some ⟨w.heap.size, 0, none⟩) m m)) {wi : World} (hbi : Below w.heap.size wb wi) (hr : Own wi w.heap.size (some ⟨w.heap.size, 0, none⟩) m r) (hrl : r.length = m) :
    Fill wi B g n (rows ++ [r]) (setAt P rows.length (some ⟨w.heap.size, 0, none⟩)) (setAt C rows.length m) := by
  have hg := h.out.lt g rfl
  have ho : wa.ownsRow B 28 1 (.slice (some ⟨g, 0, none⟩) n n) n (RL P C rows ++ List.replicate (n - rows.length) (.slice none 0 0)) := by rw [hwa]; exact h.out.alloc _
  have hst := (ho.stored rows.length (.slice (some ⟨w.heap.size, 0, none⟩) m m)).1
  rw [← hwb] at hst
  have hold : ∀ j, j < rows.length → Own wi B (P j) (C j) (rows.getD j []) := fun j hj => by
    have hx := h.row j hj
    refine hx.keep fun b hb hlt2 => ?_
    rw [hbi.block b hlt2, hwb, Below.heap_setCell _ _ _ _ (fun e => row_ne' h.out hx b hb (by simp only [Value.ownBlock]; rw [e])), hwa]
    exact Below.heap_alloc _ _ _ hlt2
  refine ⟨?_, fun j hj => ?_, fun i j hij hj b hbb => ?_⟩
  · have e1 : RL (setAt P rows.length (some ⟨w.heap.size, 0, none⟩)) (setAt C rows.length m) (rows ++ [r]) = RL P C rows ++ [.slice (some ⟨w.heap.size, 0, none⟩) m m] := by rw [RL_snoc, hrl]
    rw [e1, List.length_append, List.length_singleton]
    have e2 : (RL P C rows ++ List.replicate (n - rows.length) (Value.slice none 0 0)).set rows.length (.slice (some ⟨w.heap.size, 0, none⟩) m m) = RL P C rows ++ [.slice (some ⟨w.heap.size, 0, none⟩) m m] ++ List.replicate (n - (rows.length + 1)) (Value.slice none 0 0) := by
      rw [List.set_append_right _ _ (by rw [RL_len]; exact Nat.le_refl _), RL_len, Nat.sub_self]
      obtain ⟨d, hd⟩ : ∃ d, n - rows.length = d + 1 := ⟨n - rows.length - 1, by omega⟩
      rw [hd, List.replicate_succ, List.set_cons_zero, show n - (rows.length + 1) = d by omega, List.append_assoc]; rfl
    rw [e2] at hst
    exact ownsRow_keep hst fun b hb _ => hbi.block b (by have hbg : b = g := by simpa using hb.symm
                                                         omega)
  · rw [List.length_append, List.length_singleton] at hj
    by_cases e : j = rows.length
    · subst e
      rw [setAt_eq, setAt_eq, getD_snoc_eq]
      exact hr.more (by omega)
    · rw [setAt_ne P _ e, setAt_ne C _ e, getD_snoc_lt rows r j (by omega)]
      exact hold j (by omega)
  · rw [List.length_append, List.length_singleton] at hj
    rw [setAt_ne P _ (show i ≠ rows.length by omega)] at hbb
    by_cases e : j = rows.length
    · subst e
      rw [setAt_eq]
      intro he
      have hbw : w.heap.size = b := by simpa using he
      have := ((h.row i (by omega)).block b hbb).2
      omega
    · rw [setAt_ne P _ e]
      exact h.apart i j hij (by omega) b hbb
theorem Fill.own2 {w : World} {B g n : Nat} {rows : List (List Int)} {P : Nat → Option Addr} {C : Nat → Nat} (h : Fill w B g n rows P C) (hl : rows.length = n) : Own2 w B w.heap.size (some ⟨g, 0, none⟩) n rows := by
  have ho := h.out
  rw [hl, Nat.sub_self, List.replicate_zero, List.append_nil] at ho
  exact ⟨P, C, by rw [hl]; exact ho, fun b hb => (ownsRow_block ho b hb).2, h.row, fun j hj b hb => ((h.row j hj).block b hb).2, h.apart⟩

set_option maxRecDepth 100000 in
set_option maxHeartbeats 4000000 in
theorem rowsHook_any (A : Option Addr) (c : Nat) (xs : List Int) (gp gc : Nat) (w : World) (G : Good xs) (hc : Cells w A xs)
    (hnum : ∀ (W : World) (r k : Nat), Below w.heap.size w W → r < xs.length → (k : Int) < xs.getD r 0 → Calls Try.prog 87 #[.agg #[.int .i64 r, .int .i64 k], .pointer (some ⟨gp, 0, none⟩), .pointer (some ⟨gc, 0, none⟩)] W fun e W' => e = .returned (.int .i64 (hookN xs r k)) ∧ Below W.heap.size W W') :
    Calls Try.prog 86 #[.slice A xs.length c, .func (.func 87) #[] #[.pointer (some ⟨gp, 0, none⟩), .pointer (some ⟨gc, 0, none⟩)]] w fun e w' => ∃ A' c', e = .returned (.slice A' (rowsF xs (hookN xs) xs.length).length c') ∧ Own2 w' w.heap.size w'.heap.size A' c' (rowsF xs (hookN xs) xs.length) ∧ Below w.heap.size w w' := by
  have HNUM := hid hnum; clear hnum
  have HG := hid G; clear G
  have hlen := HG.out.len
  have hmkO := run_make_row' (P := Try.prog) 22 28 (.slice none 0 0) 24 Try.underlying22 Try.infoInts rfl .i64 .i64 xs.length (by omega) (by omega)
  go_enter Try.func86, Try.ntmps86
  go_wp2_with fail
  go_loopw [14] (fun i wr => ∃ k : Nat, k ≤ xs.length ∧ i = .int .i64 k ∧ (∃ P C, Fill wr w.heap.size w.heap.size xs.length (rowsF xs (hookN xs) k) P C) ∧ Below w.heap.size w wr) (fun i _ => xs.length - (intOf i).toNat)
  case atStart => exact ⟨0, Nat.zero_le _, rfl, ⟨_, _, fill_start w xs.length (by unfold maxLen; omega)⟩, (Below.refl _ _).alloc (Nat.le_refl _) _⟩
  case round =>
    obtain ⟨k, hk, rfl, ⟨P, C, hfill⟩, hbel⟩ := hrel
    obtain ⟨wo, rfl⟩ : ∃ wo : World, wo = wr := ⟨_, rfl⟩
    have HF := hid hfill; clear hfill
    have HRL := hid (rowsF_len xs (hookN xs) k)
    by_cases hlt : k < xs.length
    · have hx1 := HG.out.pos k hlt
      have hx2 := HG.out.le k hlt
      have hcr : Cells wo A xs := hc.later hbel
      obtain ⟨b, o, rfl, hck⟩ := hcr.get hlt
      obtain ⟨n, hn⟩ : ∃ n : Nat, (n : Int) = xs.getD k 0 := ⟨(xs.getD k 0).toNat, by omega⟩
      rw [← hn] at hck hx1 hx2
      have HN := hid hn; clear hn
      have hmk := run_make_row' (P := Try.prog) 28 3 (.int .i64 0) 8 Try.underlying28 Try.infoInt rfl .i64 .i64 n (by omega) (by omega)
      obtain ⟨wa, hwa⟩ : ∃ wa, wa = wo.alloc (.cells (madeCells #[.int .i64 0] n) 3) := ⟨_, rfl⟩
      have hst := HF.out.start (by rw [HRL.out]; exact hlt) n (by omega) wa hwa
      rw [HRL.out] at hst
      obtain ⟨ho0, hcur, hfz, hrow0, hbelb⟩ := hst
      have HO0 := hid ho0
      have HROW0 := hid hrow0
      have HBB := hid hbelb
      have HWA := hid hwa
      obtain ⟨uo, huo⟩ := hcur
      rw [hwa] at huo hfz
      have hlt0 : w.heap.size < wo.heap.size := HF.out.lt
      clear ho0 hrow0 hbelb hwa
      have hwbe : wa.setCell ⟨w.heap.size, k, none⟩ (.slice (some ⟨wo.heap.size, 0, none⟩) n n) = (wo.setCell ⟨w.heap.size, k, none⟩ (.slice (some ⟨wo.heap.size, 0, none⟩) n n)).alloc (.cells (madeCells #[.int .i64 0] n) 3) := by
        rw [HWA.out]; exact World.setCell_alloc_past _ _ _ _ hlt0
      have HWBE := hid hwbe; clear hwbe
      go_wp2_with fail
      rw [← HWBE.out]
      obtain ⟨wb, hwb⟩ : ∃ wb, wb = wa.setCell ⟨w.heap.size, k, none⟩ (.slice (some ⟨wo.heap.size, 0, none⟩) n n) := ⟨_, rfl⟩
      rw [← hwb]
      have HWB := hid hwb; clear hwb hmk huo hfz
      go_loopw [25] (fun j wi => ∃ m : Nat, m ≤ n ∧ j = .int .i64 m ∧ wi.ownsRow wo.heap.size 3 1 (.slice (some ⟨wo.heap.size, 0, none⟩) n n) n (IL (rowF (hookN xs) k m) ++ List.replicate (n - m) (.int .i64 0)) ∧ Below wo.heap.size wb wi) (fun j _ => n - (intOf j).toNat)
      case atStart => exact ⟨0, Nat.zero_le _, rfl, by rw [HWB.out]; exact HROW0.out, Below.refl _ _⟩
      case round =>
        obtain ⟨m, hm, rfl, hown, hbi⟩ := hrel
        have hSo : wb.cell? ⟨w.heap.size, k, none⟩ = some (.slice (some ⟨wo.heap.size, 0, none⟩) n n) := by rw [HWB.out]; exact HO0.out
        have hS0 : ∀ W, Below wo.heap.size wb W → W.cell? ⟨w.heap.size, k, none⟩ = some (.slice (some ⟨wo.heap.size, 0, none⟩) n n) := fun W hW => (hW.cell hlt0).trans hSo
        have HS0 := hid hS0
        clear hSo hS0
        by_cases hml : m < n
        · have hwi : Below w.heap.size w wr.drew := (hbel.trans (HBB.out.trans (by rw [← HWB.out]; exact hbi.mono (by omega)))).drew
          have hcallm := HNUM.out wr.drew k m hwi hlt (by rw [← HN.out]; omega)
          have HC := hid hcallm; clear hcallm
          have hS1 : wr.drew.cell? ⟨w.heap.size, k, none⟩ = some (.slice (some ⟨wo.heap.size, 0, none⟩) n n) := HS0.out _ hbi.drew
          have hmn' : (m : Int) < (n : Int) := by omega
          have hk0 : (0 : Int) ≤ (k : Int) := by omega
          have hkl : (k : Int) < (xs.length : Int) := by omega
          have hm0 : (0 : Int) ≤ (m : Int) := by omega
          have HOW := hid hown; clear hown
          obtain ⟨y, hy⟩ : ∃ y, y = (hookN xs) k m := ⟨_, rfl⟩
          have HY := hid hy
          have hcc := HC.out
          rw [← hy] at hcc
          have HC2 := hid hcc; clear hcc hy
          go_wp2_with fail
          go_region_held3 (fun w' => w'.cell? ⟨w.heap.size, k, none⟩ = some (.slice (some ⟨wo.heap.size, 0, none⟩) n n)) (first | exact hS1 | exact hS2 | exact hS3) (first | (go_at_call 87; refine HC2.out.mono ?_; rintro e w2 ⟨rfl, b2⟩; have hb2 : Below wo.heap.size wb w2 := hbi.drew.trans (b2.mono HOW.out.base_le); have hS2 : w2.cell? ⟨w.heap.size, k, none⟩ = some (.slice (some ⟨wo.heap.size, 0, none⟩) n n) := HS0.out _ hb2; have how2 := fill_row HOW.out b2 y hml (rowF_len (hookN xs) k m); obtain ⟨⟨u2, hu2⟩, hfz2, hrow2⟩ := how2; have HROW2 := hid hrow2; clear hrow2; have hS3 : (w2.setCell ⟨wo.heap.size, m, none⟩ (.int .i64 y)).cell? ⟨w.heap.size, k, none⟩ = some (.slice (some ⟨wo.heap.size, 0, none⟩) n n) := (World.cell?_setCell_other w2 _ _ _ (fun e => by injection e; omega)).trans hS2))
          go_wp2_with fail
          go_roundw
          case rel =>
            refine ⟨m + 1, by omega, by go_num, ?_, hb2.setCell (Nat.le_refl _) _⟩
            have h := HROW2.out
            rw [rowF_succ, IL_append, ← HY.out]; exact h
          case measure => simp [intOf]; omega
        · have hmn : m = n := by omega
          subst hmn
          have hrow : Own wr wo.heap.size (some ⟨wo.heap.size, 0, none⟩) m (rowF (hookN xs) k m) := by
            have h := hown
            rw [Nat.sub_self, List.replicate_zero, List.append_nil] at h
            unfold Own; rw [rowF_len]; exact h
          have hxk : (xs.getD k 0).toNat = m := by rw [← HN.out]; omega
          have hnext := HF.out.next (by rw [HRL.out]; exact hlt) wa HWA.out wb (by rw [HRL.out]; exact HWB.out) hbi hrow (by rw [rowF_len])
          have e := rowsF_succ xs (hookN xs) k
          rw [hxk] at e
          rw [← e] at hnext
          have HNX := hid hnext
          have hb3 : Below w.heap.size w wr := hbel.trans (HBB.out.trans (by rw [← HWB.out]; exact hbi.mono (by omega)))
          clear hown hnext e hrow
          go_wp2_with fail
          go_roundw
          case rel => exact ⟨k + 1, by omega, by go_num, ⟨_, _, HNX.out⟩, hb3⟩
          case measure => simp [intOf]; omega
    · have hkl : k = xs.length := by omega
      subst hkl
      have ho := HF.out.own2 HRL.out
      have HO := hid ho
      clear ho
      go_wp2_with fail
      go_ret
      refine ⟨some ⟨w.heap.size, 0, none⟩, xs.length, ?_, HO.out, hbel⟩
      rw [HRL.out]; rfl
end Go.Proofs.Ytiebnnchaopbkaa
/-
  Contracts: ContentsOf and HooksOf of the program and of the model.
-/
namespace Go.Proofs.Ytiebnnchaopbkaa
open Go.RowKit

set_option maxHeartbeats 1000000 in
theorem hookClosure_any (A A2 : Option Addr) (c c2 : Nat) (xs : List Int) (gp gc r k : Nat) (w : World) (G : Good xs) (hr : r < xs.length) (hk : (k : Int) < xs.getD r 0) (hc : Cells w A xs) (h2 : Cells w A2 (cols xs))
    (hp : w.cell? ⟨gp, 0, none⟩ = some (.slice A xs.length c)) (hq : w.cell? ⟨gc, 0, none⟩ = some (.slice A2 (cols xs).length c2)) :
    Calls Try.prog 87 #[.agg #[.int .i64 r, .int .i64 k], .pointer (some ⟨gp, 0, none⟩), .pointer (some ⟨gc, 0, none⟩)] w fun e w' => e = .returned (.int .i64 (hookN xs r k)) ∧ Below w.heap.size w w' := by
  have hkl := col_lt G hr hk
  have hx := G.b1000 r hr
  have hy := col_bound xs G k
  have hln := G.len
  have hcl : (cols xs).length ≤ 1048576 := by rw [cols_len]; have := G.le 0 (by omega); omega
  have hp' := fun o => (World.cell?_alloc_lt w o ⟨gp, 0, none⟩ (World.block_lt_of_cell? w _ hp)).trans hp
  have hq' := fun o => (World.cell?_alloc_lt w o ⟨gc, 0, none⟩ (World.block_lt_of_cell? w _ hq)).trans hq
  have HG := hid G; clear G
  have b1 : ∀ o, Below w.heap.size w (w.alloc o) := fun o => (Below.refl _ _).alloc (Nat.le_refl _) o
  have B1 := hid b1; clear b1
  go_enter Try.func87, Try.ntmps87
  go_wp2_with fail
  refine (hookOf_any _ _ _ _ _ _ _ _ _ hr hkl (by omega) hcl hx (by omega) (hc.below (B1.out _)) (h2.below (B1.out _)) (hookN xs r k) rfl).mono ?_
  rintro e w3 ⟨rfl, b3⟩
  go_wp2_with fail
  go_ret
  exact ⟨rfl, Below.next (B1.out _) b3⟩

set_option maxHeartbeats 2000000 in
theorem impl_HooksOf (A : Option Addr) (c : Nat) (xs : List Int) (w : World) (hl : xs.length ≤ 1048576) (hc : Cells w A xs) :
    Calls Try.prog 75 #[.slice A xs.length c] w fun e w' => ∃ A' c', e = .returned (.tuple #[.slice A' (hooksF xs).length c', .bool (good xs)]) ∧ Own2 w' w.heap.size w'.heap.size A' c' (hooksF xs) ∧ Below w.heap.size w w' := by
  obtain ⟨wa, hwa⟩ : ∃ wa, wa = w.alloc (.cells #[.slice A xs.length c] 28) := ⟨_, rfl⟩
  have hba : Below w.heap.size w wa := by rw [hwa]; exact (Below.refl _ _).alloc (Nat.le_refl _) _
  have hpa : wa.cell? ⟨w.heap.size, 0, none⟩ = some (.slice A xs.length c) := by rw [hwa]; exact cell_one_new w _ _ 0 _ rfl
  have hsa : wa.heap.size = w.heap.size + 1 := by rw [hwa]; simp
  have HWA := hid hwa
  have HSA := hid hsa
  have hca : Cells wa A xs := hc.below hba
  cases hg : good xs
  · rw [hooksF_f hg]
    have HB := hid hg; clear hg
    clear hwa hsa
    go_enter Try.func75, Try.ntmps75
    go_wp2_with fail
    rw [← HWA.out]
    refine (IsPartition_b _ _ _ _ hl hca _ HB.out).mono ?_
    rintro e w1 ⟨rfl, rfl⟩
    go_wp2_with fail
    go_ret2
    exact ⟨none, 0, rfl, own2_nil _ _ _, hba⟩
  rw [hooksF_t hg]
  have HG := hid ((good_iff xs).1 hg)
  have HB := hid hg; clear hg
  clear hwa hsa
  go_enter Try.func75, Try.ntmps75
  go_wp2_with fail
  rw [← HWA.out]
  refine (IsPartition_b _ _ _ _ hl hca _ HB.out).mono ?_
  rintro e w1 ⟨rfl, rfl⟩
  go_wp2_with fail
  refine (columnsOf_any _ _ _ _ HG.out hca).mono ?_
  rintro e w2 ⟨A2, c2, rfl, o2, b2⟩
  have hp2 : w2.cell? ⟨w.heap.size, 0, none⟩ = some (.slice A xs.length c) := by rw [← hpa]; exact b2.cell (by have := HSA.out; show w.heap.size < _; omega)
  obtain ⟨w3, hw3⟩ : ∃ w3, w3 = w2.alloc (.cells #[.slice A2 (cols xs).length c2] 28) := ⟨_, rfl⟩
  have HW3 := hid hw3
  have b3 : Below w2.heap.size w2 w3 := by rw [hw3]; exact (Below.refl _ _).alloc (Nat.le_refl _) _
  have hq3 : w3.cell? ⟨w2.heap.size, 0, none⟩ = some (.slice A2 (cols xs).length c2) := by rw [hw3]; exact cell_one_new w2 _ _ 0 _ rfl
  have hp3 : w3.cell? ⟨w.heap.size, 0, none⟩ = some (.slice A xs.length c) := (b3.cell (World.block_lt_of_cell? w2 _ hp2)).trans hp2
  have hp3' : (w2.alloc (.cells #[.slice A2 (cols xs).length c2] 28)).cell? ⟨w.heap.size, 0, none⟩ = some (.slice A xs.length c) := by rw [← HW3.out]; exact hp3
  have B3 : Below w.heap.size w w3 := Below.next (Below.next hba b2) b3
  clear hw3
  go_wp2_with fail
  rw [← HW3.out]
  refine (rowsHook_any _ _ _ _ _ _ HG.out (hc.below B3) (fun W r k hW hr hk => hookClosure_any _ _ _ _ _ _ _ _ _ _ HG.out hr hk ((hc.below B3).below hW) ((o2.cells.below b3).below hW) ((hW.cell (World.block_lt_of_cell? w3 _ hp3)).trans hp3) ((hW.cell (World.block_lt_of_cell? w3 _ hq3)).trans hq3))).mono ?_
  rintro e w4 ⟨A4, c4, rfl, o4, b4⟩
  go_wp2_with fail
  go_ret2
  exact ⟨A4, c4, rfl, o4.more B3.size, Below.next B3 b4⟩
end Go.Proofs.Ytiebnnchaopbkaa
/-
  Plain facts: the cells with a given hook, row by row. No program in this text.
-/
namespace Go.Proofs.Ytiebnnchaopbkaa
open Go.RowKit

def hitRow (row : List Int) (t : Int) (r : Nat) : Nat → List (Nat × Nat)
  | 0 => []
  | m + 1 => if row.getD m 0 = t then hitRow row t r m ++ [(r, m)] else hitRow row t r m
def hits (R : List (List Int)) (t : Int) : Nat → List (Nat × Nat)
  | 0 => []
  | k + 1 => hits R t k ++ hitRow (R.getD k []) t k (R.getD k []).length
def hitsAt (R : List (List Int)) (t : Int) (k m : Nat) : List (Nat × Nat) := hits R t k ++ hitRow (R.getD k []) t k m
theorem hitsAt_zero (R : List (List Int)) (t : Int) (k : Nat) : hitsAt R t k 0 = hits R t k := by simp [hitsAt, hitRow]
theorem hitsAt_t (R : List (List Int)) (t : Int) (k m : Nat) (h : (R.getD k []).getD m 0 = t) : hitsAt R t k (m + 1) = hitsAt R t k m ++ [(k, m)] := by simp only [hitsAt, hitRow]; rw [if_pos h, List.append_assoc]
theorem hitsAt_f (R : List (List Int)) (t : Int) (k m : Nat) (h : ¬ (R.getD k []).getD m 0 = t) : hitsAt R t k (m + 1) = hitsAt R t k m := by simp only [hitsAt, hitRow]; rw [if_neg h]
theorem hits_succ (R : List (List Int)) (t : Int) (k : Nat) : hits R t (k + 1) = hitsAt R t k (R.getD k []).length := rfl
theorem hitRow_len (row : List Int) (t : Int) (r : Nat) : ∀ m, (hitRow row t r m).length ≤ m
  | 0 => by simp [hitRow]
  | m + 1 => by
    have := hitRow_len row t r m
    simp only [hitRow]; split
    · simp; omega
    · omega
theorem hits_len (R : List (List Int)) (t : Int) : ∀ k, k ≤ R.length → (hits R t k).length ≤ tot (R.take k)
  | 0, _ => by simp [hits]
  | k + 1, h => by
    have := hits_len R t k (by omega)
    have := hitRow_len (R.getD k []) t k (R.getD k []).length
    rw [hits, List.length_append, tot_take_succ R k (by omega)]; omega
theorem hitsAt_len (R : List (List Int)) (t : Int) (k m : Nat) (hk : k < R.length) (hm : m ≤ (R.getD k []).length) : (hitsAt R t k m).length ≤ tot R := by
  have := hits_len R t k (by omega)
  have := hitRow_len (R.getD k []) t k m
  have := tot_take_succ R k hk
  have := tot_take_le R (k + 1)
  rw [hitsAt, List.length_append]; omega
theorem hits_le (R : List (List Int)) (t : Int) (k : Nat) (hk : k ≤ R.length) : (hits R t k).length ≤ tot R := by
  have := hits_len R t k hk
  have := tot_take_le R k
  omega
theorem hitRow_mem {row : List Int} {t : Int} {r : Nat} {q : Nat × Nat} : ∀ {m : Nat}, q ∈ hitRow row t r m → q.1 = r ∧ q.2 < m ∧ row.getD q.2 0 = t
  | 0, h => by simp [hitRow] at h
  | m + 1, h => by
    simp only [hitRow] at h
    split at h
    · rename_i e
      rw [List.mem_append] at h
      rcases h with h | h
      · obtain ⟨a, b, c⟩ := hitRow_mem h; exact ⟨a, by omega, c⟩
      · simp at h; subst h; exact ⟨rfl, by simp, e⟩
    · obtain ⟨a, b, c⟩ := hitRow_mem h; exact ⟨a, by omega, c⟩
theorem hits_mem {R : List (List Int)} {t : Int} {q : Nat × Nat} : ∀ {k : Nat}, q ∈ hits R t k → q.1 < k ∧ q.2 < (R.getD q.1 []).length ∧ (R.getD q.1 []).getD q.2 0 = t
  | 0, h => by simp [hits] at h
  | k + 1, h => by
    rw [hits, List.mem_append] at h
    rcases h with h | h
    · obtain ⟨a, b⟩ := hits_mem h; exact ⟨by omega, b⟩
    · obtain ⟨a, b, c⟩ := hitRow_mem h; rw [a]; exact ⟨by omega, b, c⟩

def hooksR (xs : List Int) : List (List Int) := rowsF xs (hookN xs) xs.length
theorem hooksR_len (xs : List Int) : (hooksR xs).length = xs.length := rowsF_len _ _ _
theorem hooksR_tot {xs : List Int} (G : Good xs) : tot (hooksR xs) ≤ 900 := by
  have := tot_rowsF xs (hookN xs) G.le xs.length (Nat.le_refl _)
  have := G.len
  unfold hooksR; omega
/-- All cells with a hook. -/
def rimCs (xs : List Int) (t : Int) : List (Nat × Nat) := hits (hooksR xs) t xs.length
theorem rimCs_len {xs : List Int} (G : Good xs) (t : Int) : (rimCs xs t).length ≤ 900 := by
  have := hits_le (hooksR xs) t xs.length (by rw [hooksR_len]; exact Nat.le_refl _)
  have := hooksR_tot G
  unfold rimCs; omega
theorem rimCs_mem {xs : List Int} {t : Int} {q : Nat × Nat} (h : q ∈ rimCs xs t) : q.1 < xs.length ∧ (q.2 : Int) < xs.getD q.1 0 := by
  obtain ⟨a, b, _⟩ := hits_mem h
  unfold hooksR at b
  rw [rowsF_get xs _ _ _ a, rowF_len] at b
  exact ⟨a, by omega⟩
def crB (xs : List Int) (t : Int) : Bool := good xs && inB 2 6 t
def rimCellsF (xs : List Int) (t : Int) : List (List Int) := if crB xs t then pairs (rimCs xs t) else []
theorem bound_RimCells (xs : List Int) (t : Int) : (rimCellsF xs t).length ≤ 1048576 ∧ tot (rimCellsF xs t) ≤ 1048576 := by
  unfold rimCellsF
  split
  · rename_i h
    simp only [crB, Bool.and_eq_true] at h
    have := rimCs_len ((good_iff xs).1 h.1) t
    rw [pairs_len, tot_pairs]; omega
  · simp [tot]
end Go.Proofs.Ytiebnnchaopbkaa
/-
  Contracts: RimCells and IsCore of the program and of the model.
-/
namespace Go.Proofs.Ytiebnnchaopbkaa
open Go.RowKit

theorem crB_good {xs : List Int} {t : Int} (h : crB xs t = true) : good xs = true ∧ inB 2 6 t = true := by
  simp only [crB, Bool.and_eq_true] at h; exact h

set_option maxRecDepth 100000 in
set_option maxHeartbeats 2000000 in
theorem impl_RimCells (A : Option Addr) (c : Nat) (xs : List Int) (t : Int) (w : World) (hl : xs.length ≤ 1048576) (hc : Cells w A xs) (_ : I64 t) :
    Calls Try.prog 55 #[.slice A xs.length c, .int .i64 t] w fun e w' => ∃ A' c', e = .returned (.tuple #[.slice A' (rimCellsF xs t).length c', .bool (crB xs t)]) ∧ Own2 w' w.heap.size w'.heap.size A' c' (rimCellsF xs t) ∧ Below w.heap.size w w' := by
  obtain ⟨i1, hj, hy0, hy1, hy2⟩ := info_parts Try.infoInts
  cases hgg : good xs
  · have hg : crB xs t = false := by simp [crB, hgg]
    rw [show rimCellsF xs t = [] by simp [rimCellsF, hg], hg]
    have HH := hid (impl_HooksOf A c xs w hl hc)
    rw [hgg] at HH
    clear hg hgg
    go_enter Try.func55, Try.ntmps55
    go_wp2_with (go_at_call 75; refine (HH.out).mono ?_; rintro e w2 ⟨A2, c2, rfl, o2, b2⟩)
    go_ret2
    exact ⟨none, 0, rfl, own2_nil _ _ _, b2⟩
  cases ht : inB 2 6 t
  · have hg : crB xs t = false := by simp [crB, ht]
    rw [show rimCellsF xs t = [] by simp [rimCellsF, hg], hg]
    have HH := hid (impl_HooksOf A c xs w hl hc)
    rw [hgg] at HH
    have HT := hid ht
    clear hg hgg ht
    go_enter Try.func55, Try.ntmps55
    go_wp2_with (first | (go_at_call 75; refine (HH.out).mono ?_; rintro e w2 ⟨A2, c2, rfl, o2, b2⟩) | (go_at_call 26; refine (hasRunners_b _ _ _ HT.out).mono ?_; rintro e w' ⟨rfl, rfl⟩))
    go_ret2
    exact ⟨none, 0, rfl, own2_nil _ _ _, b2⟩
  have hg : crB xs t = true := by simp [crB, hgg, ht]
  have hRl := hooksR_len xs
  rw [show rimCellsF xs t = pairs (rimCs xs t) by simp [rimCellsF, hg], hg]
  have hhf : hooksF xs = hooksR xs := hooksF_t hgg
  have G := (good_iff xs).1 hgg
  have HH := hid (impl_HooksOf A c xs w hl hc)
  rw [hgg, hhf] at HH
  have HT := hid (hooksR_tot G)
  have HTT := hid ht
  have hrc : rimCs xs t = hits (hooksR xs) t (hooksR xs).length := by rw [hRl]; rfl
  rw [hrc]
  have hlen := G.len
  clear hrc G hhf hg hgg ht
  obtain ⟨R, hR⟩ : ∃ R, R = hooksR xs := ⟨_, rfl⟩
  rw [← hR] at HT hRl HH ⊢
  have ht9 : tot R ≤ 900 := HT.out
  have hR30 : R.length ≤ 30 := by omega
  clear hR hRl
  go_enter Try.func55, Try.ntmps55
  go_wp2_with (first | (go_at_call 75; refine (HH.out).mono ?_; rintro e wt ⟨At, ct, rfl, ot, bt⟩) | (go_at_call 26; refine (hasRunners_b _ _ _ HTT.out).mono ?_; rintro e w' ⟨rfl, rfl⟩))
  obtain ⟨Pt, Ct, hA1, hA2⟩ := ot.cells
  clear ot
  go_loopw [8, 9, 10, 11, 12, 27] (fun v _ _ _ _ i wr => ∃ k : Nat, k ≤ R.length ∧ i = .int .i64 k ∧ (∃ P C, Push wr wt.heap.size v (pairs (hits R t k)) P C) ∧ Below wt.heap.size wt wr) (fun _ _ _ _ _ i _ => R.length - (intOf i).toNat)
  case atStart => exact ⟨0, Nat.zero_le _, rfl, ⟨_, _, push_nil _ _⟩, Below.refl _ _⟩
  case round =>
    obtain ⟨k, hk, rfl, ⟨P, C, hpush⟩, hbel⟩ := hrel
    obtain ⟨wo, rfl⟩ : ∃ wo : World, wo = wr := ⟨_, rfl⟩
    have HP := hid hpush; clear hpush
    by_cases hlt : k < R.length
    · obtain ⟨b, o, rfl, hcc⟩ := hA1 (by omega)
      have hck0 := hcc k hlt
      have hck := (hbel.cell (World.block_lt_of_cell? wt _ hck0)).trans hck0
      have hr0 := hA2 k hlt
      have hrl : (R.getD k []).length ≤ 900 := by have := tot_take_succ R k hlt; have := tot_take_le R (k + 1); omega
      obtain ⟨r, hre⟩ : ∃ r, r = R.getD k [] := ⟨_, rfl⟩
      have HRE := hid hre
      rw [← hre] at hck hr0 hrl
      obtain ⟨Ar, hAr⟩ : ∃ Ar, Ar = Pt k := ⟨_, rfl⟩
      obtain ⟨Cr, hCr⟩ : ∃ Cr, Cr = Ct k := ⟨_, rfl⟩
      rw [← hAr, ← hCr] at hck
      rw [← hAr] at hr0
      have HR0 := hid hr0
      clear hcc hre hck0 hr0 hAr hCr
      go_wp2_with fail
      go_loopw [8, 11, 12, 34] (fun v _ _ j wi => ∃ m : Nat, m ≤ r.length ∧ j = .int .i64 m ∧ (∃ P C, Push wi wt.heap.size v (pairs (hitsAt R t k m)) P C) ∧ Below wt.heap.size wt wi) (fun _ _ _ j _ => r.length - (intOf j).toNat)
      case atStart => exact ⟨0, Nat.zero_le _, rfl, ⟨P, C, by rw [hitsAt_zero]; exact HP.out⟩, hbel⟩
      case round =>
        obtain ⟨m, hm, rfl, ⟨P2, C2, hpush2⟩, hbel2⟩ := hrel
        have HP2 := hid hpush2; clear hpush2
        have hsz2 := hbel2.size
        by_cases hml : m < r.length
        · obtain ⟨b3, o3, rfl, hcr⟩ := HR0.out (by omega)
          have hcm0 := hcr m hml
          have hcm := (hbel2.cell (World.block_lt_of_cell? wt _ hcm0)).trans hcm0
          have hbd : (hitsAt R t k m).length ≤ 900 := Nat.le_trans (hitsAt_len R t k m hlt (by rw [← HRE.out]; omega)) HT.out
          have HBD := hid hbd; clear hbd
          clear hcr hcm0
          obtain ⟨x, hx⟩ : ∃ x, x = r.getD m 0 := ⟨_, rfl⟩
          rw [← hx] at hcm
          have HX := hid hx; clear hx
          by_cases hxt : x = t
          · subst hxt
            have hs := hitsAt_t R x k m (by rw [← HRE.out, ← HX.out])
            have HS := hid hs; clear hs
            have ho2 : Own (wr.alloc (.cells #[.int .i64 k, .int .i64 m] 3)) wr.heap.size (some ⟨wr.heap.size, 0, none⟩) 2 [(k : Int), (m : Int)] := own_two wr wr.heap.size (Nat.le_refl _) k m
            have hbw : Below wr.heap.size wr (wr.alloc (.cells #[.int .i64 k, .int .i64 m] 3)) := (Below.refl _ _).alloc (Nat.le_refl _) _
            have hszw : (wr.alloc (.cells #[.int .i64 k, .int .i64 m] 3)).heap.size = wr.heap.size + 1 := by simp
            have hpl := pairs_len (hitsAt R x k m)
            have HPL := hid hpl; clear hpl
            go_wp2_with (at_builtin; refine wpList_append_own _ rfl _ _ 22 rfl wt.heap.size 28 i1 (.slice none 0 0) 1 24 Try.underlying22 hj hy0 hy1 hy2 rfl (by decide) _ _ _ rfl ((HP2.out.below hbw).out.alloc _) ⟨wr.heap.size + 1, 0, none⟩ 1 1 [.slice (some ⟨wr.heap.size, 0, none⟩) 2 2] rfl rfl (one_at_n hszw) (one_cellS _ _ _) (by have := HPL.out; have := HBD.out; unfold maxLen; omega) (by have := HPL.out; have := HBD.out; omega) (by simp; omega) ?_)
            intro v' w2 hown' hgrow _
            have hb1 : Below wt.heap.size wt w2 := ((hbel2.trans (hbw.mono hsz2)).alloc (by simp; omega) _).grown hgrow (by simp; omega) (fun q hq => (HP2.out.out.lt q hq).1)
            have hp2 := HP2.out.push hbw ho2 hsz2 hown' hgrow
            rw [← pairs_snoc, ← HS.out] at hp2
            have HP3 := hid hp2
            clear hown' hgrow hp2
            go_wp2_with fail
            go_roundw
            case rel => exact ⟨m + 1, by omega, by go_num, ⟨_, _, HP3.out⟩, hb1⟩
            case measure => simp [intOf]; omega
          · have hs := hitsAt_f R t k m (by rw [← HRE.out, ← HX.out]; exact hxt)
            have hp3 := HP2.out
            rw [← hs] at hp3
            have HP3 := hid hp3
            clear hs hp3
            go_wp2_with fail
            go_roundw
            case rel => exact ⟨m + 1, by omega, by go_num, ⟨_, _, HP3.out⟩, hbel2⟩
            case measure => simp [intOf]; omega
        · have hmr : m = r.length := by omega
          have hp3 := HP2.out
          rw [hmr, HRE.out, ← hits_succ] at hp3
          have HP3 := hid hp3
          clear hp3
          go_wp2_with fail
          go_roundw
          case rel => exact ⟨k + 1, by omega, by go_num, ⟨_, _, HP3.out⟩, hbel2⟩
          case measure => simp [intOf]; omega
    · have hkl : k = R.length := by omega
      subst hkl
      obtain ⟨A', c', rfl, ho⟩ := HP.out.own2
      go_wp2_with fail
      go_ret2
      exact ⟨A', c', rfl, ho.more bt.size, Below.next bt hbel⟩

theorem cast0 (n : Nat) : ((n : Int) == 0) = decide (n = 0) := by rw [Bool.eq_iff_iff]; simp
def isCoreF (xs : List Int) (t : Int) : Bool := crB xs t && decide ((rimCellsF xs t).length = 0)
theorem isCoreF_t {xs : List Int} {t : Int} (h : crB xs t = true) : isCoreF xs t = decide ((rimCellsF xs t).length = 0) := by simp [isCoreF, h]
theorem impl_IsCore (A : Option Addr) (c : Nat) (xs : List Int) (t : Int) (w : World) (hl : xs.length ≤ 1048576) (hc : Cells w A xs) (h64 : I64 t) :
    Calls Try.prog 33 #[.slice A xs.length c, .int .i64 t] w fun e w' => e = .returned (.tuple #[.bool (isCoreF xs t), .bool (crB xs t)]) ∧ Below w.heap.size w w' := by
  have HH := hid (impl_RimCells A c xs t w hl hc h64)
  cases hg : crB xs t
  · have e1 : isCoreF xs t = false := by simp [isCoreF, hg]
    rw [e1]
    rw [hg] at HH
    clear e1 hg
    go_enter Try.func33, Try.ntmps33
    go_wp2_with (go_at_call 55; refine (HH.out).mono ?_; rintro e w2 ⟨A2, c2, rfl, o2, b2⟩)
    go_ret2
    exact ⟨rfl, b2⟩
  · rw [isCoreF_t hg]
    rw [hg] at HH
    have hb := (bound_RimCells xs t).1
    obtain ⟨n, hn⟩ : ∃ n, n = (rimCellsF xs t).length := ⟨_, rfl⟩
    rw [← hn] at hb ⊢
    have HN := hid hn
    clear hg hn
    go_enter Try.func33, Try.ntmps33
    go_wp2_with (go_at_call 55; refine (HH.out).mono ?_; rw [← HN.out]; rintro e w2 ⟨A2, c2, rfl, o2, b2⟩)
    go_ret2
    exact ⟨by rw [cast0]; rfl, b2⟩
end Go.Proofs.Ytiebnnchaopbkaa
