/-
  Several texts in one.
-/
import Derived.Test.YtiebnnchaopbkaaR14
import Derived.Test.YtiebnnchaopbkaaR19
import Derived.Test.YtiebnnchaopbkaaCB
import Derived.Test.YtiebnnchaopbkaaR06
import Derived.Test.YtiebnnchaopbkaaCF
/-
  Contracts: FromRunners of the model.
-/
namespace Go.Proofs.Ytiebnnchaopbkaa
open Go.RowKit

theorem abfL_tot (t : Nat) (rows : List (List Int)) : ∀ k, k ≤ rows.length → (abfL t (rowsR rows) k).length = tot (rows.take k)
  | 0, _ => by simp [abfL, tot]
  | k + 1, hk => by
    rw [abfL, List.length_append, abfL_tot t rows k (by omega), List.length_map, tot_take_succ rows k (by omega)]; rfl
theorem rises_wide {a b c d : Int} {xs : List Int} (h : rises a b xs = true) (h1 : c ≤ a) (h2 : b ≤ d) : rises c d xs = true := by
  have := rises_Rises.1 h
  exact rises_Rises.2 ⟨fun j hj => by have := this.bd j hj; omega, this.up⟩
theorem fr_full {rows : List (List Int)} (h0 : inB 2 6 (rows.length : Int) = true) (h : ∀ i, i < rows.length → rises 0 1000 (rowsR rows i) = true) : frOk rows = isAba rows.length (frL rows) := by
  have hin := inB_iff.1 h0
  cases hb : isAba rows.length (frL rows)
  · simp [frOk, hb]
  · have hb2 := hb
    simp only [isAba, Bool.and_eq_true] at hb
    have G := goodB_pos (goodB_iff.1 hb.2)
    have hn : (abfL rows.length (rowsR rows) rows.length).Nodup := abfL_nodup _ (Nat.le_refl _) fun i hi => pw_nodup (rise_pw (rises_Rises.1 (h i hi)).up)
    rw [fr_ok h0 fun i hi => ?_, hb2]
    refine rises_Rises.2 ⟨fun j hj => ?_, (rises_Rises.1 (h i hi)).up⟩
    have hbd := (rises_Rises.1 (h i hi)).bd j hj
    have hm : (rowsR rows i).getD j 0 * (rows.length : Int) + i ∈ frL rows := by
      unfold frL
      rw [(insF_all hn).2.1, mem_abfL]
      exact ⟨i, _, hi, mem_getD.2 ⟨j, hj, rfl⟩, rfl⟩
    have hg := G _ hm
    obtain ⟨y, hy⟩ : ∃ y, y = (rowsR rows i).getD j 0 := ⟨_, rfl⟩
    rw [← hy] at hg hbd ⊢
    have h2 : y * 2 ≤ y * (rows.length : Int) := Int.mul_le_mul_of_nonneg_left (by omega) hbd.1
    omega
theorem fr_tot {rows : List (List Int)} (h : frOk rows = true) : tot rows ≤ 40 ∧ ∀ i, i < rows.length → rises 0 1000 (rowsR rows i) = true := by
  simp only [frOk, Bool.and_eq_true, List.all_eq_true] at h
  obtain ⟨h0, h1, h2⟩ := h
  have hall : ∀ i, i < rows.length → rwOk (rowsR rows i) = true := fun i hi => h1 _ (by
    unfold rowsR; rw [List.getD_eq_getElem?_getD, List.getElem?_eq_getElem hi]; exact List.getElem_mem hi)
  refine ⟨?_, fun i hi => rises_wide (hall i hi) (by omega) (by omega)⟩
  simp only [isAba, Bool.and_eq_true] at h2
  have hl := (goodB_iff.1 h2.2).len
  unfold frL at hl
  rw [(insF_all (fr_nodup hall)).2.2, abfL_tot _ _ _ (Nat.le_refl _), List.take_of_length_le (Nat.le_refl _)] at hl
  exact hl
theorem fr_tot_no {rows : List (List Int)} {k : Nat} (h : 40 < tot (rows.take k)) : frOk rows = false := by
  cases hb : frOk rows
  · rfl
  · have := (fr_tot hb).1; have := tot_take_le rows k; omega
theorem fr_rise_no {rows : List (List Int)} {k : Nat} (hk : k < rows.length) (h : rises 0 1000 (rows.getD k []) = false) : frOk rows = false := by
  cases hb : frOk rows
  · rfl
  · have := (fr_tot hb).2 k hk
    unfold rowsR at this
    rw [h] at this; cases this

end Go.Proofs.Ytiebnnchaopbkaa
/-
  Contracts: all beads of a board moved down.
-/
namespace Go.Proofs.Ytiebnnchaopbkaa
open Go.RowKit

end Go.Proofs.Ytiebnnchaopbkaa
/-
  Contracts: PushDown of the program.
-/
namespace Go.Proofs.Ytiebnnchaopbkaa
open Go.RowKit

def psR (r : Int) (xs : List Int) : Int := if isAba r xs then r else 0
def psF (r : Int) (xs : List Int) : List Int := if isAba r xs then dwL r.toNat xs else []
def psN (r : Int) (xs : List Int) : Int := if isAba r xs then dwM r.toNat xs else 0
theorem ps_no {r : Int} {xs : List Int} (h : isAba r xs = false) : psR r xs = 0 ∧ psF r xs = [] ∧ psN r xs = 0 := by simp [psR, psF, psN, h]
theorem ps_yes {t : Nat} {xs : List Int} (h : isAba t xs = true) : psR t xs = t ∧ psF t xs = dwL t xs ∧ psN t xs = dwM t xs := by simp [psR, psF, psN, h]
theorem bound_PushDown (r : Int) (xs : List Int) : (psF r xs).length ≤ 1048576 := by
  unfold psF; split
  · rename_i h
    simp only [isAba, Bool.and_eq_true] at h
    have ht := inB_iff.1 h.1
    have := (goodB_iff.1 h.2).len
    rw [dwL_len (by omega)]; omega
  · simp

end Go.Proofs.Ytiebnnchaopbkaa
