/-
  Several texts in one.
-/
import Derived.Test.YtkbdlhmkiolegaaR09
import Derived.Test.YtkbdlhmkiolegaaR06
import Derived.Lib.AppendZerosOnto
import Derived.Test.YtkbdlhmkiolegaaCC
import Derived.Test.YtkbdlhmkiolegaaCA
import Derived.Test.YtkbdlhmkiolegaaR07
/-
  Contracts: levels reflected, the model's side.
-/
namespace Go.Proofs.Ytkbdlhmkiolegaa
open Go.RowKit

theorem resid_inB {m : Int} {t : Nat} (b : Bool) (h : (decide (0 ≤ m) && decide (m < (t : Int))) = b) : inB 0 ((t : Int) - 1) m = b := by
  rw [← h]
  have e : decide (m ≤ (t : Int) - 1) = decide (m < (t : Int)) := by
    by_cases hh : m < (t : Int)
    · rw [decide_eq_true hh, decide_eq_true (by omega)]
    · rw [decide_eq_false hh, decide_eq_false (by omega)]
  unfold inB
  rw [e]

end Go.Proofs.Ytkbdlhmkiolegaa
/-
  Contracts: slices.Grow of nil and slices.Concat at rows of ints, none of them empty.
-/
namespace Go.Proofs.Ytkbdlhmkiolegaa
open Go.RowKit

theorem flat_succ (rows : List (List Int)) (k : Nat) (h : k < rows.length) : (rows.take (k + 1)).flatten = (rows.take k).flatten ++ rows.getD k [] := by
  rw [List.take_succ_eq_append_getElem h, List.flatten_append]; simp [List.getD, h]
theorem flat_len (rows : List (List Int)) : rows.flatten.length = tot rows := by
  induction rows with
  | nil => rfl
  | cons r t ih => simp only [List.flatten_cons, List.length_append, tot, ih]
theorem IL_app (xs ys : List Int) : IL (xs ++ ys) = IL xs ++ IL ys := by simp [IL]

end Go.Proofs.Ytkbdlhmkiolegaa
/-
  Plain facts on residues of contents, and how many cells have each.
-/
namespace Go.Proofs.Ytkbdlhmkiolegaa
open Go.RowKit

theorem tmod_resid {x t : Int} (ht : 2 ≤ t ∧ t ≤ 6) : -t < Int.tmod x t ∧ Int.tmod x t < t ∧ Int.tmod (Int.tmod x t + t) t = x % t := by
  by_cases h : 0 ≤ x
  · rw [Int.tmod_eq_emod_of_nonneg h]
    have h1 := Int.emod_nonneg x (show t ≠ 0 by omega)
    have h2 := Int.emod_lt_of_pos x (show 0 < t by omega)
    refine ⟨by omega, h2, ?_⟩
    rw [Int.tmod_eq_emod_of_nonneg (by omega), Int.add_emod_right, Int.emod_emod]
  · have e : Int.tmod x t = -((-x) % t) := by
      rw [← Int.tmod_eq_emod_of_nonneg (show 0 ≤ -x by omega), Int.neg_tmod, Int.neg_neg]
    have h1 := Int.emod_nonneg (-x) (show t ≠ 0 by omega)
    have h2 := Int.emod_lt_of_pos (-x) (show 0 < t by omega)
    rw [e]
    refine ⟨by omega, by omega, ?_⟩
    rw [Int.tmod_eq_emod_of_nonneg (by omega), Int.add_emod_right]
    have : t = 2 ∨ t = 3 ∨ t = 4 ∨ t = 5 ∨ t = 6 := by omega
    rcases this with rfl | rfl | rfl | rfl | rfl <;> omega
theorem cntL_len (t : Nat) (L : List Int) : (cntL t L).length = t := fnRow_len _ _
theorem cntL_nil (t : Nat) : cntL t [] = fnRow t (fun _ => 0) := rowF_ext _ _ _ fun j _ => by simp [cnt]
theorem cnt_snoc (t : Nat) (L : List Int) (x : Int) (m : Nat) (hm : x % (t : Int) = (m : Int)) (j : Nat) : cnt t (L ++ [x]) j = if j = m then cnt t L j + 1 else cnt t L j := by
  unfold cnt
  rw [List.filter_append, List.length_append]
  by_cases h : j = m
  · subst h
    rw [if_pos rfl]
    simp only [List.filter_cons, List.filter_nil, hm, decide_true, if_true, List.length_singleton]
    omega
  · rw [if_neg h]
    have : ¬ x % (t : Int) = (j : Int) := by rw [hm]; omega
    simp only [List.filter_cons, List.filter_nil, this, decide_false, Bool.false_eq_true, if_false, List.length_nil]
    omega
theorem cntL_snoc (t : Nat) (L : List Int) (x : Int) (m : Nat) (hm : x % (t : Int) = (m : Int)) (hmt : m < t) : (cntL t L).set m ((cntL t L).getD m 0 + 1) = cntL t (L ++ [x]) := by
  unfold cntL
  rw [fnRow_get _ _ _ hmt, fnRow_set]
  refine rowF_ext _ _ _ fun j _ => ?_
  rw [cnt_snoc t L x m hm]
  by_cases h : j = m
  · subst h; simp
  · simp [h]
theorem cnt_bd (t : Nat) (L : List Int) (j : Nat) : 0 ≤ cnt t L j ∧ cnt t L j ≤ L.length := by
  unfold cnt
  have := List.length_filter_le (fun x => decide (x % (t : Int) = (j : Int))) L
  omega
/-- The contents, cell by cell. -/
def contL (xs : List Int) (k : Nat) : List Int := (rowsF xs contN k).flatten
theorem contL_succ (xs : List Int) (k : Nat) : contL xs (k + 1) = contL xs k ++ rowF contN k (xs.getD k 0).toNat := by
  unfold contL; rw [rowsF_succ, List.flatten_append]; simp
theorem contL_len {xs : List Int} (G : Good xs) (k : Nat) (hk : k ≤ xs.length) : (contL xs k).length ≤ 900 := by
  have := tot_rowsF xs contN G.le k hk
  have := G.len
  unfold contL; rw [flat_len]; omega
theorem rowF_mem {f : Nat → Nat → Int} {r n : Nat} {x : Int} (h : x ∈ rowF f r n) : ∃ c, c < n ∧ x = f r c := by
  unfold rowF at h
  obtain ⟨c, hc, rfl⟩ := List.mem_map.1 h
  exact ⟨c, List.mem_range.1 hc, rfl⟩
theorem contL_bd {xs : List Int} (G : Good xs) : ∀ (k : Nat), k ≤ xs.length → ∀ x, x ∈ contL xs k → -30 ≤ x ∧ x ≤ 30
  | 0, _, x, hx => absurd hx (by simp [contL, rowsF])
  | k + 1, hk, x, hx => by
    rw [contL_succ, List.mem_append] at hx
    rcases hx with hx | hx
    · exact contL_bd G k (by omega) x hx
    · obtain ⟨c, hc, rfl⟩ := rowF_mem hx
      have := G.le k (by omega)
      have := G.len
      unfold contN
      omega
theorem getD_mem' {L : List Int} {k : Nat} (h : k < L.length) : L.getD k 0 ∈ L := by
  rw [List.getD_eq_getElem?_getD, List.getElem?_eq_getElem h]; exact List.getElem_mem h
def resB (xs : List Int) (t : Int) : Bool := good xs && inB 2 6 t
def resF (xs : List Int) (t : Int) : List Int := if resB xs t then cntL t.toNat (contL xs xs.length) else []
theorem resF_f {xs : List Int} {t : Int} (h : resB xs t = false) : resF xs t = [] := by simp [resF, h]
theorem resF_t {xs : List Int} {t : Nat} (h : resB xs t = true) : resF xs t = cntL t (contL xs xs.length) := by simp [resF, h]
theorem bound_ResidueCounts (xs : List Int) (t : Int) : (resF xs t).length ≤ 1048576 := by
  unfold resF; split
  · rename_i h
    simp only [resB, Bool.and_eq_true] at h
    have := inB_iff.1 h.2
    rw [cntL_len]; omega
  · simp
end Go.Proofs.Ytkbdlhmkiolegaa
