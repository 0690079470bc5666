/-
  Several texts in one.
-/
import Derived.Test.YtmiifdedmjfgkaaR08
import Derived.Test.YtmiifdedmjfgkaaR04
import Derived.Deep.RegionHeld3
/-
  Plain facts: a number for each cell, row by row. No program in this text.
-/
namespace Go.Proofs.Ytmiifdedmjfgkaa
open Go.RowKit

def rowF (f : Nat → Nat → Int) (r n : Nat) : List Int := (List.range n).map (f r)
def rowsF (xs : List Int) (f : Nat → Nat → Int) (k : Nat) : List (List Int) := (List.range k).map fun r => rowF f r (xs.getD r 0).toNat
theorem rowF_len (f : Nat → Nat → Int) (r n : Nat) : (rowF f r n).length = n := by simp [rowF]
theorem rowF_succ (f : Nat → Nat → Int) (r n : Nat) : rowF f r (n + 1) = rowF f r n ++ [f r n] := by simp [rowF, List.range_succ]
theorem rowF_get (f : Nat → Nat → Int) (r n c : Nat) (h : c < n) : (rowF f r n).getD c 0 = f r c := by
  rw [List.getD_eq_getElem?_getD, rowF, List.getElem?_map, List.getElem?_range h]; rfl
theorem rowsF_len (xs : List Int) (f : Nat → Nat → Int) (k : Nat) : (rowsF xs f k).length = k := by simp [rowsF]
theorem rowsF_succ (xs : List Int) (f : Nat → Nat → Int) (k : Nat) : rowsF xs f (k + 1) = rowsF xs f k ++ [rowF f k (xs.getD k 0).toNat] := by simp [rowsF, List.range_succ]
theorem rowsF_get (xs : List Int) (f : Nat → Nat → Int) (k r : Nat) (h : r < k) : (rowsF xs f k).getD r [] = rowF f r (xs.getD r 0).toNat := by
  rw [List.getD_eq_getElem?_getD, rowsF, List.getElem?_map, List.getElem?_range h]; rfl
theorem tot_append (a b : List (List Int)) : tot (a ++ b) = tot a + tot b := by
  induction a with
  | nil => simp [tot]
  | cons x t ih => simp only [List.cons_append, tot, ih]; omega
theorem tot_rowsF (xs : List Int) (f : Nat → Nat → Int) (h : ∀ j, j < xs.length → xs.getD j 0 ≤ 30) : ∀ k, k ≤ xs.length → tot (rowsF xs f k) ≤ k * 30
  | 0, _ => by simp [rowsF, tot]
  | k + 1, hk => by
    rw [rowsF_succ, tot_append]
    have := tot_rowsF xs f h k (by omega)
    have := h k (by omega)
    simp only [tot, rowF_len]; omega
def contN (r c : Nat) : Int := (c : Int) - r
def contF (xs : List Int) : List (List Int) := if good xs then rowsF xs contN xs.length else []
def hooksF (xs : List Int) : List (List Int) := if good xs then rowsF xs (hookN xs) xs.length else []
theorem contF_t {xs : List Int} (h : good xs = true) : contF xs = rowsF xs contN xs.length := by simp [contF, h]
theorem contF_f {xs : List Int} (h : good xs = false) : contF xs = [] := by simp [contF, h]
theorem hooksF_t {xs : List Int} (h : good xs = true) : hooksF xs = rowsF xs (hookN xs) xs.length := by simp [hooksF, h]
theorem hooksF_f {xs : List Int} (h : good xs = false) : hooksF xs = [] := by simp [hooksF, h]
theorem bound_rows (xs : List Int) (f : Nat → Nat → Int) (G : Good xs) : (rowsF xs f xs.length).length ≤ 1048576 ∧ tot (rowsF xs f xs.length) ≤ 1048576 := by
  have := tot_rowsF xs f G.le xs.length (Nat.le_refl _)
  have := G.len
  rw [rowsF_len]; omega
theorem bound_ContentsOf (xs : List Int) : (contF xs).length ≤ 1048576 ∧ tot (contF xs) ≤ 1048576 := by
  cases h : good xs
  · rw [contF_f h]; simp [tot]
  · rw [contF_t h]; exact bound_rows xs _ ((good_iff xs).1 h)
theorem bound_HooksOf (xs : List Int) : (hooksF xs).length ≤ 1048576 ∧ tot (hooksF xs) ≤ 1048576 := by
  cases h : good xs
  · rw [hooksF_f h]; simp [tot]
  · rw [hooksF_t h]; exact bound_rows xs _ ((good_iff xs).1 h)

end Go.Proofs.Ytmiifdedmjfgkaa
/-
  Contracts: the columns of a partition, of the program and of the model.
-/
namespace Go.Proofs.Ytmiifdedmjfgkaa
open Go.RowKit




theorem colsRow_below {w w' : World} {B e n : Nat} {A : Option Addr} {m c : Nat} {xs : List Value} (h : w.ownsRow B e 1 (.slice A m c) n xs) (hw : Below w.heap.size w w') : w'.ownsRow B e 1 (.slice A m c) n xs := by
  refine ⟨h.1, ?_⟩
  rcases h.2 with hn | ⟨g, cap, cur, hv, hb, hgg, rest⟩
  · exact .inl hn
  · refine .inr ⟨g, cap, cur, hv, hb, ?_, rest⟩
    rw [hw.block g (Array.getElem?_eq_some_iff.1 hgg).1]
    exact hgg
theorem repl_zero (n : Nat) : IL ([] : List Int) ++ List.replicate (n - 0) (Value.int .i64 0) = List.replicate n (Value.int .i64 0) := by simp [IL]

set_option maxRecDepth 100000 in
set_option maxHeartbeats 1000000 in
theorem columnsOf_any (A : Option Addr) (c : Nat) (xs : List Int) (w : World) (G : Good xs) (hc : Cells w A xs) :
    Calls Try.prog 29 #[.slice A xs.length c] w fun e w' => ∃ A' c', e = .returned (.slice A' (cols xs).length c') ∧ Own w' w.heap.size A' c' (cols xs) ∧ Below w.heap.size w w' := by
  have hlen := G.len
  have HG := hid G; clear G
  by_cases h0 : xs.length = 0
  · have hx : xs = [] := List.eq_nil_of_length_eq_zero h0
    subst hx
    go_enter Try.func29, Try.ntmps29
    go_wp2_with fail
    go_ret
    exact ⟨none, 0, rfl, own_nil _ _, Below.refl _ _⟩
  have hb0 := HG.out.le 0 (by omega)
  have hp0 := HG.out.pos 0 (by omega)
  obtain ⟨b, o, rfl, hcc⟩ := hc (by omega)
  have hc0 := hcc 0 (by omega)
  rw [Nat.add_zero] at hc0
  obtain ⟨p0, hp⟩ : ∃ p : Nat, xs.getD 0 0 = (p : Int) := ⟨(xs.getD 0 0).toNat, by omega⟩
  rw [hp] at hc0 hb0 hp0
  have hcl : (cols xs).length = p0 := by rw [cols_len, hp]; rfl
  have HCL := hid hcl; clear hcl
  have HP := hid hp; clear hp
  have HCC := hid hcc; clear hcc
  have hmk := run_make_row' (P := Try.prog) 22 3 (.int .i64 0) 8 Try.underlying22 Try.infoInt rfl .i64 .i64 p0 (by omega) (by omega)
  have hne : ((xs.length : Int) == 0) = false := beq_eq_false_iff_ne.2 (by omega)
  go_enter Try.func29, Try.ntmps29
  go_wp2_with fail
  go_loopw [4, 14] (fun _ i wr => ∃ k : Nat, k ≤ p0 ∧ i = .int .i64 k ∧ wr.ownsRow w.heap.size 3 1 (.slice (some ⟨w.heap.size, 0, none⟩) p0 p0) p0 (IL ((cols xs).take k) ++ List.replicate (p0 - k) (.int .i64 0)) ∧ Below w.heap.size w wr) (fun _ i _ => p0 - (intOf i).toNat)
  case atStart =>
    refine ⟨0, Nat.zero_le _, rfl, ?_, (Below.refl _ _).alloc (Nat.le_refl _) _⟩
    have h := World.ownsRow_lit (base := w.heap.size) (e := 3) (size := 1) w (madeCells #[.int .i64 0] p0) p0 (Nat.le_refl _) (by unfold maxLen; omega) (by rw [size_madeCells]; omega)
    rw [toList_madeCells_one] at h
    rw [List.take_zero, repl_zero]
    exact h
  case round =>
    obtain ⟨k, hk, rfl, hown, hbel⟩ := hrel
    by_cases hlt : k < p0
    · have hcol := cols_get xs k (by rw [HP.out]; exact hlt)
      obtain ⟨y, hy⟩ : ∃ y, y = colH xs k := ⟨_, rfl⟩
      have HQ := hid (fun wx (hb : Below w.heap.size w wx) => partsAbove_any (some ⟨b, o, none⟩) c xs (k : Int) wx hlen (hc.later hb))
      rw [← hy] at hcol HQ
      obtain ⟨u, hu⟩ : ∃ u, (IL ((cols xs).take k) ++ List.replicate (p0 - k) (Value.int .i64 0))[k]? = some u := by
        refine ⟨_, List.getElem?_eq_getElem (by have := hown.1; omega)⟩
      have HU := hid hu
      have HCO := hid hcol
      have HO := hid hown
      have HB := hid hbel
      have hp1 : (k : Int) < (p0 : Int) := by omega
      clear hu hcol hown hbel hy hc
      go_wp2_with fail
      go_at_call 39
      refine (HQ.out _ HB.out).mono ?_
      rintro e w5 ⟨rfl, b5⟩
      have ho5 := colsRow_below HO.out b5
      have B5 := hid (HB.out.trans (b5.mono HB.out.size))
      have hst := toCopy (cols xs) k (by rw [HCL.out]; exact hlt) w.heap.size w5 w.heap.size (by rw [HCL.out]; exact ho5)
      rw [HCL.out, HCO.out] at hst
      have hcur := World.ownsRow.cellAt ho5 k (by omega)
      rw [HU.out] at hcur
      have hfz := World.ownsRow.frozenAt ho5 k
      have HS := hid hst
      clear ho5 hst
      go_wp2_with fail
      go_roundw
      case rel => exact ⟨k + 1, by omega, by go_num, HS.out, B5.out.setCell (Nat.le_refl _) _⟩
      case measure => simp [intOf]; omega
    · have hkp : k = p0 := by omega
      subst hkp
      have hown2 := hown
      rw [List.take_of_length_le (by rw [HCL.out]; exact Nat.le_refl _), Nat.sub_self, List.replicate_zero, List.append_nil] at hown2
      have ho : Own wr w.heap.size (some ⟨w.heap.size, 0, none⟩) k (cols xs) := by unfold Own; rw [HCL.out]; exact hown2
      have HO := hid ho
      clear hown hown2 ho
      go_wp2_with fail
      go_ret
      refine ⟨some ⟨w.heap.size, 0, none⟩, k, ?_, HO.out, hbel⟩
      rw [HCL.out]; rfl
end Go.Proofs.Ytmiifdedmjfgkaa
