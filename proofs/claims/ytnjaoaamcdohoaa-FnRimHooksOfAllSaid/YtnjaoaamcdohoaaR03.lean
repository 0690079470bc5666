/-
  Several texts in one.
-/
import Derived.Test.YtnjaoaamcdohoaaCB
import Derived.Deep.RegionHeld3
import Derived.Laws.Rows
import Derived.Test.YtnjaoaamcdohoaaR02
/-
  Contracts: steps along the border (places, letters).
-/
namespace Go.Proofs.Ytnjaoaamcdohoaa
open Go.RowKit

set_option maxHeartbeats 400000 in
theorem up_any (r : Int) (k : Nat) (w : World) (hr : -1000 ≤ r) (hr2 : r ≤ 1000) : Calls Try.prog 39 #[.agg #[.int .i64 r, .int .i64 k]] w fun e w' => e = .returned (.agg #[.int .i64 (r - 1), .int .i64 k]) ∧ Below w.heap.size w w' := by
  have hwra : IntKind.i64.wrap (r - 1) = r - 1 := by rw [IntWalk.i64_in _ (by omega)]
  go_enter Try.func39, Try.ntmps39
  go_wp2
  refine bodyPost_ret (v := .agg #[.int .i64 (r - 1), .int .i64 k]) ?_ rfl ⟨rfl, ((Below.refl _ _).alloc (Nat.le_refl _) _).alloc (by simp) _⟩
  exact results_cell_row rfl _ _ (w.heap.size + 1) 42 #[.int .i64 (r - 1), .int .i64 k] (0, 0) _ rfl (by simpa using heap_alloc_new (w.alloc (.cells #[.int .i64 r, .int .i64 k] 42)) (.cells #[.int .i64 (r - 1), .int .i64 k] 42)) Try.underlying42 rfl (by kernel_rfl)
set_option maxHeartbeats 400000 in
theorem right_any (r k : Nat) (w : World) (hk : k ≤ 1000) : Calls Try.prog 40 #[.agg #[.int .i64 r, .int .i64 k]] w fun e w' => e = .returned (.agg #[.int .i64 r, .int .i64 (k + 1 : Nat)]) ∧ Below w.heap.size w w' := by
  have hwka : IntKind.i64.wrap ((k : Int) + 1) = ((k + 1 : Nat) : Int) := by rw [IntWalk.i64_in _ (by omega)]; omega
  go_enter Try.func40, Try.ntmps40
  go_wp2
  refine bodyPost_ret (v := .agg #[.int .i64 r, .int .i64 (k + 1 : Nat)]) ?_ rfl ⟨rfl, ((Below.refl _ _).alloc (Nat.le_refl _) _).alloc (by simp) _⟩
  exact results_cell_row rfl _ _ (w.heap.size + 1) 42 #[.int .i64 r, .int .i64 (k + 1 : Nat)] (0, 0) _ rfl (by simpa using heap_alloc_new (w.alloc (.cells #[.int .i64 r, .int .i64 k] 42)) (.cells #[.int .i64 r, .int .i64 (k + 1 : Nat)] 42)) Try.underlying42 rfl (by kernel_rfl)
set_option maxHeartbeats 400000 in
theorem end_any (r k : Nat) (w : World) (hr : r ≤ 1000) (hk : k ≤ 1000) : Calls Try.prog 33 #[.agg #[.int .i64 r, .int .i64 k]] w fun e w' => e = .returned (.agg #[.int .i64 (r + 1 : Nat), .int .i64 (k + 1 : Nat)]) ∧ Below w.heap.size w w' := by
  have hwra : IntKind.i64.wrap ((r : Int) + 1) = ((r + 1 : Nat) : Int) := by rw [IntWalk.i64_in _ (by omega)]; omega
  have hwka : IntKind.i64.wrap ((k : Int) + 1) = ((k + 1 : Nat) : Int) := by rw [IntWalk.i64_in _ (by omega)]; omega
  go_enter Try.func33, Try.ntmps33
  go_wp2
  refine bodyPost_ret (v := .agg #[.int .i64 (r + 1 : Nat), .int .i64 (k + 1 : Nat)]) ?_ rfl ⟨rfl, ((Below.refl _ _).alloc (Nat.le_refl _) _).alloc (by simp) _⟩
  exact results_cell_row rfl _ _ (w.heap.size + 1) 42 #[.int .i64 (r + 1 : Nat), .int .i64 (k + 1 : Nat)] (0, 0) _ rfl (by simpa using heap_alloc_new (w.alloc (.cells #[.int .i64 r, .int .i64 k] 42)) (.cells #[.int .i64 (r + 1 : Nat), .int .i64 (k + 1 : Nat)] 42)) Try.underlying42 rfl (by kernel_rfl)
set_option maxHeartbeats 400000 in
theorem stepOf_any (c : Int) (w : World) : Calls Try.prog 31 #[.int .u8 c] w fun e w' => e = .returned (if c = 85 then .func (.func 39) #[] #[] else if c = 82 then .func (.func 40) #[] #[] else .nilFunc) ∧ w = w' := by
  by_cases h1 : c = 85
  · subst h1
    go_enter Try.func31, Try.ntmps31
    go_wp2
    go_ret
    exact ⟨rfl, rfl⟩
  by_cases h2 : c = 82
  · subst h2
    go_enter Try.func31, Try.ntmps31
    go_wp2
    go_ret
    exact ⟨rfl, rfl⟩
  · rw [if_neg h1, if_neg h2]
    go_enter Try.func31, Try.ntmps31
    go_wp2
    go_ret
    exact ⟨rfl, rfl⟩
set_option maxHeartbeats 400000 in
theorem letterAt_any (A : Option Addr) (c : Nat) (xs : List Int) (r k : Nat) (w : World) (hr : 1 ≤ r) (hrl : r ≤ xs.length) (hl : xs.length ≤ 1000) (hc : Cells w A xs) :
    Calls Try.prog 32 #[.slice A xs.length c, .agg #[.int .i64 r, .int .i64 k]] w fun e w' => e = .returned (.int .u8 (if (k : Int) = xs.getD (r - 1) 0 then 85 else 82)) ∧ Below w.heap.size w w' := by
  obtain ⟨wa, hwa⟩ : ∃ wa, wa = w.alloc (.cells #[.int .i64 r, .int .i64 k] 42) := ⟨_, rfl⟩
  have hba : Below w.heap.size w wa := by rw [hwa]; exact (Below.refl _ _).alloc (Nat.le_refl _) _
  obtain ⟨b, o, rfl, hck⟩ := (hc.below hba).get (j := r - 1) (by omega)
  have h0 : wa.cell? ⟨w.heap.size, 0, none⟩ = some (.int .i64 r) := by rw [hwa, cell_of_row _ w.heap.size 0 #[.int .i64 r, .int .i64 k] 42 (0, 0) (heap_alloc_new w _)]; rfl
  have h1 : wa.cell? ⟨w.heap.size, 1, none⟩ = some (.int .i64 k) := by rw [hwa, cell_of_row _ w.heap.size 1 #[.int .i64 r, .int .i64 k] 42 (0, 0) (heap_alloc_new w _)]; rfl
  obtain ⟨x, hx⟩ : ∃ x, x = xs.getD (r - 1) 0 := ⟨_, rfl⟩
  rw [← hx] at hck ⊢
  clear hx
  have HWA := hid hwa; clear hwa
  have hwr : IntKind.i64.wrap ((r : Int) - 1) = ((r - 1 : Nat) : Int) := by rw [IntWalk.i64_in _ (by omega)]; omega
  have hlt : ((r - 1 : Nat) : Int) < xs.length := by omega
  by_cases h : (k : Int) = x
  · rw [if_pos h]
    have hb : ((k : Int) == x) = true := beq_iff_eq.2 h
    have HH := hid h; clear h
    go_enter Try.func32, Try.ntmps32
    go_wp2_with fail
    rw [← HWA.out]
    go_quiet (fail)
    go_wp2_with fail
    go_ret
    exact ⟨rfl, below_drewN hba _⟩
  · rw [if_neg h]
    have hb : ((k : Int) == x) = false := beq_eq_false_iff_ne.2 h
    have HH := hid h; clear h
    go_enter Try.func32, Try.ntmps32
    go_wp2_with fail
    rw [← HWA.out]
    go_quiet (fail)
    go_wp2_with fail
    go_ret
    exact ⟨rfl, below_drewN hba _⟩
end Go.Proofs.Ytnjaoaamcdohoaa
/-
  Plain facts on the rim hook of a cell: its rows from the lowest up, and what is left of the parts without it.
-/
namespace Go.Proofs.Ytnjaoaamcdohoaa

/-- The first column of the rim in a row. -/
def fr (xs : List Int) (k row : Nat) : Nat := max k (xs.getD (row + 1) 0 - 1).toNat
/-- How many cells of the rim the row has. -/
def cn (xs : List Int) (k row : Nat) : Nat := (xs.getD row 0).toNat - fr xs k row
def rimRow (xs : List Int) (k row n : Nat) : List (Nat × Nat) := (List.range n).map fun i => (row, fr xs k row + i)
/-- The cells of the d lowest rows of the rim. -/
def rimUp (xs : List Int) (k low : Nat) : Nat → List (Nat × Nat)
  | 0 => []
  | d + 1 => rimUp xs k low d ++ rimRow xs k (low - d) (cn xs k (low - d))
def rimAt (xs : List Int) (k low d i : Nat) : List (Nat × Nat) := rimUp xs k low d ++ rimRow xs k (low - d) i
theorem rimAt_zero (xs : List Int) (k low : Nat) : rimAt xs k low 0 0 = [] := rfl
theorem rimAt_succ (xs : List Int) (k low d i : Nat) : rimAt xs k low d (i + 1) = rimAt xs k low d i ++ [(low - d, fr xs k (low - d) + i)] := by
  simp [rimAt, rimRow, List.range_succ]
theorem rimAt_next (xs : List Int) (k low d : Nat) : rimAt xs k low d (cn xs k (low - d)) = rimAt xs k low (d + 1) 0 := by
  simp [rimAt, rimUp, rimRow]
theorem rimAt_up (xs : List Int) (k low d : Nat) : rimAt xs k low d 0 = rimUp xs k low d := by simp [rimAt, rimRow]
theorem rimRow_len (xs : List Int) (k row n : Nat) : (rimRow xs k row n).length = n := by simp [rimRow]
theorem rimUp_len (xs : List Int) (k low : Nat) (h : ∀ j, j < xs.length → xs.getD j 0 ≤ 30) : ∀ d, (rimUp xs k low d).length ≤ 30 * d
  | 0 => by simp [rimUp]
  | d + 1 => by
    have ih := rimUp_len xs k low h d
    simp only [rimUp, List.length_append, rimRow_len]
    have : cn xs k (low - d) ≤ 30 := by
      unfold cn
      by_cases hh : low - d < xs.length
      · have := h _ hh; omega
      · rw [List.getD_eq_getElem?_getD, List.getElem?_eq_none (by omega)]; simp
    omega
theorem rimAt_len (xs : List Int) (k low d i : Nat) : (rimAt xs k low d i).length = (rimUp xs k low d).length + i := by simp [rimAt, rimRow_len]

structure RimOK (xs : List Int) (r k low : Nat) : Prop where
  good : Good xs
  low_lt : low < xs.length
  r_le : r ≤ low
  tall : ∀ j, j ≤ low → (k : Int) < xs.getD j 0
  short : low + 1 < xs.length → xs.getD (low + 1) 0 ≤ k
  col : colH xs k = low + 1
theorem tall_ex (xs : List Int) (k : Int) : ∀ m, m ≤ xs.length → ∃ n, n ≤ m ∧ (∀ j, j < n → k < xs.getD j 0) ∧ (n < m → xs.getD n 0 ≤ k)
  | 0, _ => ⟨0, Nat.le_refl _, fun j hj => by omega, fun h => by omega⟩
  | m + 1, hm => by
    obtain ⟨n, h1, h2, h3⟩ := tall_ex xs k m (by omega)
    by_cases hn : n < m
    · exact ⟨n, by omega, h2, fun _ => h3 hn⟩
    · have e : n = m := by omega
      subst e
      by_cases hk : k < xs.getD n 0
      · refine ⟨n + 1, by omega, fun j hj => ?_, fun h => by omega⟩
        by_cases h : j < n
        · exact h2 j h
        · have : j = n := by omega
          subst this; exact hk
      · exact ⟨n, by omega, h2, fun _ => by omega⟩
theorem rim_ok {xs : List Int} (G : Good xs) {r k : Nat} (hr : r < xs.length) (hk : (k : Int) < xs.getD r 0) : RimOK xs r k ((colH xs k).toNat - 1) := by
  obtain ⟨n, h1, h2, h3⟩ := tall_ex xs k xs.length (Nat.le_refl _)
  have hc := colH_eq xs k n h1 h2 h3 G.down
  have hrn : r < n := by
    by_cases h : r < n
    · exact h
    · have hn : n < xs.length := by omega
      have a := h3 hn
      have b := down_le xs G.down n (r - n) (by omega)
      rw [show n + (r - n) = r by omega] at b
      omega
  rw [hc]
  have e : ((n : Int).toNat - 1) = n - 1 := by omega
  rw [e]
  refine ⟨G, by omega, by omega, fun j hj => h2 j (by omega), fun h => ?_, by rw [hc]; omega⟩
  rw [show n - 1 + 1 = n by omega] at h ⊢
  exact h3 h
theorem RimOK.fr_lt {xs : List Int} {r k low : Nat} (R : RimOK xs r k low) {row : Nat} (h : row ≤ low) : (fr xs k row : Int) < xs.getD row 0 := by
  have h1 := R.tall row h
  have h2 : xs.getD (row + 1) 0 ≤ xs.getD row 0 := by
    by_cases hh : row + 1 < xs.length
    · exact R.good.down row hh
    · rw [List.getD_eq_getElem?_getD, List.getElem?_eq_none (by omega)]; simp only [Option.getD_none]; omega
  unfold fr
  omega
theorem RimOK.fr_up {xs : List Int} {r k low : Nat} (R : RimOK xs r k low) {row : Nat} (h : row + 1 ≤ low) : (fr xs k row : Int) = xs.getD (row + 1) 0 - 1 := by
  have h1 := R.tall (row + 1) h
  unfold fr
  omega
theorem RimOK.fr_low {xs : List Int} {r k low : Nat} (R : RimOK xs r k low) : fr xs k low = k := by
  unfold fr
  by_cases h : low + 1 < xs.length
  · have := R.short h; omega
  · rw [List.getD_eq_getElem?_getD, List.getElem?_eq_none (by omega)]; simp
theorem RimOK.cn_pos {xs : List Int} {r k low : Nat} (R : RimOK xs r k low) {row : Nat} (h : row ≤ low) : (cn xs k row : Int) = xs.getD row 0 - fr xs k row ∧ 0 < cn xs k row := by
  have := R.fr_lt h
  unfold cn
  omega
theorem RimOK.le30 {xs : List Int} {r k low : Nat} (R : RimOK xs r k low) {row : Nat} (h : row ≤ low) : xs.getD row 0 ≤ 30 := R.good.le row (by have := R.low_lt; omega)
theorem RimOK.len {xs : List Int} {r k low : Nat} (R : RimOK xs r k low) (d i : Nat) (hd : d ≤ 30) (hi : i ≤ 30) : (rimAt xs k low d i).length ≤ 930 := by
  rw [rimAt_len]
  have := rimUp_len xs k low R.good.le d
  omega
/-- The cells of the rim hook, from its lower left end on. -/
def rimL (xs : List Int) (r k : Nat) : List (Nat × Nat) := rimUp xs k ((colH xs k).toNat - 1) ((colH xs k).toNat - r)
end Go.Proofs.Ytnjaoaamcdohoaa
