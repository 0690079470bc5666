/-
  Several texts in one.
-/
import Derived.Test.YtijfefahogcfmaaGreatCB
import Derived.Deep.RegionHeld3
import Derived.Laws.Rows
import Derived.Test.YtijfefahogcfmaaGreatR02
/-
  Contracts: steps along the border (places, letters).
-/
namespace Go.Proofs.YtijfefahogcfmaaGreat
open Go.RowKit

end Go.Proofs.YtijfefahogcfmaaGreat
/-
  Plain facts on the rim hook of a cell: its rows from the lowest up, and what is left of the parts without it.
-/
namespace Go.Proofs.YtijfefahogcfmaaGreat

/-- The first column of the rim in a row. -/
def fr (xs : List Int) (k row : Nat) : Nat := max k (xs.getD (row + 1) 0 - 1).toNat
/-- How many cells of the rim the row has. -/
def cn (xs : List Int) (k row : Nat) : Nat := (xs.getD row 0).toNat - fr xs k row
def rimRow (xs : List Int) (k row n : Nat) : List (Nat × Nat) := (List.range n).map fun i => (row, fr xs k row + i)
/-- The cells of the d lowest rows of the rim. -/
def rimUp (xs : List Int) (k low : Nat) : Nat → List (Nat × Nat)
  | 0 => []
  | d + 1 => rimUp xs k low d ++ rimRow xs k (low - d) (cn xs k (low - d))
def rimAt (xs : List Int) (k low d i : Nat) : List (Nat × Nat) := rimUp xs k low d ++ rimRow xs k (low - d) i
theorem rimAt_zero (xs : List Int) (k low : Nat) : rimAt xs k low 0 0 = [] := rfl
theorem rimAt_succ (xs : List Int) (k low d i : Nat) : rimAt xs k low d (i + 1) = rimAt xs k low d i ++ [(low - d, fr xs k (low - d) + i)] := by
  simp [rimAt, rimRow, List.range_succ]
theorem rimAt_next (xs : List Int) (k low d : Nat) : rimAt xs k low d (cn xs k (low - d)) = rimAt xs k low (d + 1) 0 := by
  simp [rimAt, rimUp, rimRow]
theorem rimAt_up (xs : List Int) (k low d : Nat) : rimAt xs k low d 0 = rimUp xs k low d := by simp [rimAt, rimRow]
theorem rimRow_len (xs : List Int) (k row n : Nat) : (rimRow xs k row n).length = n := by simp [rimRow]
theorem rimUp_len (xs : List Int) (k low : Nat) (h : ∀ j, j < xs.length → xs.getD j 0 ≤ 30) : ∀ d, (rimUp xs k low d).length ≤ 30 * d
  | 0 => by simp [rimUp]
  | d + 1 => by
    have ih := rimUp_len xs k low h d
    simp only [rimUp, List.length_append, rimRow_len]
    have : cn xs k (low - d) ≤ 30 := by
      unfold cn
      by_cases hh : low - d < xs.length
      · have := h _ hh; omega
      · rw [List.getD_eq_getElem?_getD, List.getElem?_eq_none (by omega)]; simp
    omega
theorem rimAt_len (xs : List Int) (k low d i : Nat) : (rimAt xs k low d i).length = (rimUp xs k low d).length + i := by simp [rimAt, rimRow_len]

structure RimOK (xs : List Int) (r k low : Nat) : Prop where
  good : Good xs
  low_lt : low < xs.length
  r_le : r ≤ low
  tall : ∀ j, j ≤ low → (k : Int) < xs.getD j 0
  short : low + 1 < xs.length → xs.getD (low + 1) 0 ≤ k
  col : colH xs k = low + 1
theorem tall_ex (xs : List Int) (k : Int) : ∀ m, m ≤ xs.length → ∃ n, n ≤ m ∧ (∀ j, j < n → k < xs.getD j 0) ∧ (n < m → xs.getD n 0 ≤ k)
  | 0, _ => ⟨0, Nat.le_refl _, fun j hj => by omega, fun h => by omega⟩
  | m + 1, hm => by
    obtain ⟨n, h1, h2, h3⟩ := tall_ex xs k m (by omega)
    by_cases hn : n < m
    · exact ⟨n, by omega, h2, fun _ => h3 hn⟩
    · have e : n = m := by omega
      subst e
      by_cases hk : k < xs.getD n 0
      · refine ⟨n + 1, by omega, fun j hj => ?_, fun h => by omega⟩
        by_cases h : j < n
        · exact h2 j h
        · have : j = n := by omega
          subst this; exact hk
      · exact ⟨n, by omega, h2, fun _ => by omega⟩
theorem rim_ok {xs : List Int} (G : Good xs) {r k : Nat} (hr : r < xs.length) (hk : (k : Int) < xs.getD r 0) : RimOK xs r k ((colH xs k).toNat - 1) := by
  obtain ⟨n, h1, h2, h3⟩ := tall_ex xs k xs.length (Nat.le_refl _)
  have hc := colH_eq xs k n h1 h2 h3 G.down
  have hrn : r < n := by
    by_cases h : r < n
    · exact h
    · have hn : n < xs.length := by omega
      have a := h3 hn
      have b := down_le xs G.down n (r - n) (by omega)
      rw [show n + (r - n) = r by omega] at b
      omega
  rw [hc]
  have e : ((n : Int).toNat - 1) = n - 1 := by omega
  rw [e]
  refine ⟨G, by omega, by omega, fun j hj => h2 j (by omega), fun h => ?_, by rw [hc]; omega⟩
  rw [show n - 1 + 1 = n by omega] at h ⊢
  exact h3 h
theorem RimOK.fr_lt {xs : List Int} {r k low : Nat} (R : RimOK xs r k low) {row : Nat} (h : row ≤ low) : (fr xs k row : Int) < xs.getD row 0 := by
  have h1 := R.tall row h
  have h2 : xs.getD (row + 1) 0 ≤ xs.getD row 0 := by
    by_cases hh : row + 1 < xs.length
    · exact R.good.down row hh
    · rw [List.getD_eq_getElem?_getD, List.getElem?_eq_none (by omega)]; simp only [Option.getD_none]; omega
  unfold fr
  omega
theorem RimOK.fr_up {xs : List Int} {r k low : Nat} (R : RimOK xs r k low) {row : Nat} (h : row + 1 ≤ low) : (fr xs k row : Int) = xs.getD (row + 1) 0 - 1 := by
  have h1 := R.tall (row + 1) h
  unfold fr
  omega
theorem RimOK.fr_low {xs : List Int} {r k low : Nat} (R : RimOK xs r k low) : fr xs k low = k := by
  unfold fr
  by_cases h : low + 1 < xs.length
  · have := R.short h; omega
  · rw [List.getD_eq_getElem?_getD, List.getElem?_eq_none (by omega)]; simp
theorem RimOK.cn_pos {xs : List Int} {r k low : Nat} (R : RimOK xs r k low) {row : Nat} (h : row ≤ low) : (cn xs k row : Int) = xs.getD row 0 - fr xs k row ∧ 0 < cn xs k row := by
  have := R.fr_lt h
  unfold cn
  omega
theorem RimOK.le30 {xs : List Int} {r k low : Nat} (R : RimOK xs r k low) {row : Nat} (h : row ≤ low) : xs.getD row 0 ≤ 30 := R.good.le row (by have := R.low_lt; omega)
theorem RimOK.len {xs : List Int} {r k low : Nat} (R : RimOK xs r k low) (d i : Nat) (hd : d ≤ 30) (hi : i ≤ 30) : (rimAt xs k low d i).length ≤ 930 := by
  rw [rimAt_len]
  have := rimUp_len xs k low R.good.le d
  omega
/-- The cells of the rim hook, from its lower left end on. -/
def rimL (xs : List Int) (r k : Nat) : List (Nat × Nat) := rimUp xs k ((colH xs k).toNat - 1) ((colH xs k).toNat - r)
end Go.Proofs.YtijfefahogcfmaaGreat
