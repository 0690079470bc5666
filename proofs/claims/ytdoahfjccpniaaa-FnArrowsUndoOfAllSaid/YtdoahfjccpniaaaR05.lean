/-
  Several texts in one.
-/
import Derived.Test.YtdoahfjccpniaaaCB
import Derived.Test.YtdoahfjccpniaaaCC
import Derived.Test.YtdoahfjccpniaaaCA
import Derived.Test.YtdoahfjccpniaaaR04
/-
  Contracts: CountsOf of the program and of the model.
-/
namespace Go.Proofs.Ytdoahfjccpniaaa
open Go.RowKit

def cnt (r : Nat) (xs : List Int) (j : Nat) : Int := ((xs.filter fun x => decide (x % (r : Int) = (j : Int))).length : Nat)
def cntL (r : Nat) (xs : List Int) : List Int := fnRow r (cnt r xs)
def cntK (r : Nat) (xs : List Int) (k : Nat) : List Int := cntL r (xs.take k)
theorem cntK_zero (r : Nat) (xs : List Int) : cntK r xs 0 = fnRow r (fun _ => 0) := rowF_ext _ _ _ fun j _ => by simp [cnt]
theorem cntK_all (r : Nat) (xs : List Int) : cntK r xs xs.length = cntL r xs := by unfold cntK; rw [List.take_of_length_le (Nat.le_refl _)]
theorem cntK_len (r : Nat) (xs : List Int) (k : Nat) : (cntK r xs k).length = r := fnRow_len _ _
theorem cntK_succ (r : Nat) (xs : List Int) (k m : Nat) (hk : k < xs.length) (hm : xs.getD k 0 % (r : Int) = (m : Int)) (hmr : m < r) : (cntK r xs k).set m ((cntK r xs k).getD m 0 + 1) = cntK r xs (k + 1) := by
  unfold cntK cntL
  rw [fnRow_get _ _ _ hmr, fnRow_set]
  refine rowF_ext _ _ _ fun j _ => ?_
  rw [List.take_succ_eq_append_getElem hk]
  have e : xs[k] = xs.getD k 0 := by simp [List.getD, hk]
  unfold cnt
  rw [e, List.filter_append, List.length_append]
  by_cases h : j = m
  · subst h
    rw [if_pos rfl]
    simp only [List.filter_cons, List.filter_nil, hm, decide_true, if_true, List.length_singleton]
    omega
  · rw [if_neg h]
    have : ¬ xs.getD k 0 % (r : Int) = (j : Int) := by rw [hm]; omega
    simp only [List.filter_cons, List.filter_nil, this, decide_false, Bool.false_eq_true, if_false, List.length_nil]
    omega
theorem cntK_bd (r : Nat) (xs : List Int) (k m : Nat) (hm : m < r) : 0 ≤ (cntK r xs k).getD m 0 ∧ (cntK r xs k).getD m 0 ≤ k := by
  unfold cntK cntL
  rw [fnRow_get _ _ _ hm]
  unfold cnt
  have := List.length_filter_le (fun x => decide (x % (r : Int) = (m : Int))) (xs.take k)
  have h2 : (xs.take k).length ≤ k := by rw [List.length_take]; omega
  omega
def countsF (r : Int) (xs : List Int) : List Int := if isAba r xs then cntL r.toNat xs else []
theorem bound_CountsOf (r : Int) (xs : List Int) : (countsF r xs).length ≤ 1048576 := by
  unfold countsF; split
  · rename_i h
    simp only [isAba, Bool.and_eq_true] at h
    have := inB_iff.1 h.1
    unfold cntL; rw [fnRow_len]; omega
  · simp

end Go.Proofs.Ytdoahfjccpniaaa
/-
  Plain facts on residues of contents, and how many cells have each.
-/
namespace Go.Proofs.Ytdoahfjccpniaaa
open Go.RowKit

theorem tmod_resid {x t : Int} (ht : 2 ≤ t ∧ t ≤ 6) : -t < Int.tmod x t ∧ Int.tmod x t < t ∧ Int.tmod (Int.tmod x t + t) t = x % t := by
  by_cases h : 0 ≤ x
  · rw [Int.tmod_eq_emod_of_nonneg h]
    have h1 := Int.emod_nonneg x (show t ≠ 0 by omega)
    have h2 := Int.emod_lt_of_pos x (show 0 < t by omega)
    refine ⟨by omega, h2, ?_⟩
    rw [Int.tmod_eq_emod_of_nonneg (by omega), Int.add_emod_right, Int.emod_emod]
  · have e : Int.tmod x t = -((-x) % t) := by
      rw [← Int.tmod_eq_emod_of_nonneg (show 0 ≤ -x by omega), Int.neg_tmod, Int.neg_neg]
    have h1 := Int.emod_nonneg (-x) (show t ≠ 0 by omega)
    have h2 := Int.emod_lt_of_pos (-x) (show 0 < t by omega)
    rw [e]
    refine ⟨by omega, by omega, ?_⟩
    rw [Int.tmod_eq_emod_of_nonneg (by omega), Int.add_emod_right]
    have : t = 2 ∨ t = 3 ∨ t = 4 ∨ t = 5 ∨ t = 6 := by omega
    rcases this with rfl | rfl | rfl | rfl | rfl <;> omega
theorem cntL_len (t : Nat) (L : List Int) : (cntL t L).length = t := fnRow_len _ _
theorem cntL_nil (t : Nat) : cntL t [] = fnRow t (fun _ => 0) := rowF_ext _ _ _ fun j _ => by simp [cnt]
theorem cnt_snoc (t : Nat) (L : List Int) (x : Int) (m : Nat) (hm : x % (t : Int) = (m : Int)) (j : Nat) : cnt t (L ++ [x]) j = if j = m then cnt t L j + 1 else cnt t L j := by
  unfold cnt
  rw [List.filter_append, List.length_append]
  by_cases h : j = m
  · subst h
    rw [if_pos rfl]
    simp only [List.filter_cons, List.filter_nil, hm, decide_true, if_true, List.length_singleton]
    omega
  · rw [if_neg h]
    have : ¬ x % (t : Int) = (j : Int) := by rw [hm]; omega
    simp only [List.filter_cons, List.filter_nil, this, decide_false, Bool.false_eq_true, if_false, List.length_nil]
    omega
theorem cntL_snoc (t : Nat) (L : List Int) (x : Int) (m : Nat) (hm : x % (t : Int) = (m : Int)) (hmt : m < t) : (cntL t L).set m ((cntL t L).getD m 0 + 1) = cntL t (L ++ [x]) := by
  unfold cntL
  rw [fnRow_get _ _ _ hmt, fnRow_set]
  refine rowF_ext _ _ _ fun j _ => ?_
  rw [cnt_snoc t L x m hm]
  by_cases h : j = m
  · subst h; simp
  · simp [h]
theorem cnt_bd (t : Nat) (L : List Int) (j : Nat) : 0 ≤ cnt t L j ∧ cnt t L j ≤ L.length := by
  unfold cnt
  have := List.length_filter_le (fun x => decide (x % (t : Int) = (j : Int))) L
  omega
/-- The contents, cell by cell. -/
def contL (xs : List Int) (k : Nat) : List Int := (rowsF xs contN k).flatten
theorem contL_succ (xs : List Int) (k : Nat) : contL xs (k + 1) = contL xs k ++ rowF contN k (xs.getD k 0).toNat := by
  unfold contL; rw [rowsF_succ, List.flatten_append]; simp
theorem contL_len {xs : List Int} (G : Good xs) (k : Nat) (hk : k ≤ xs.length) : (contL xs k).length ≤ 900 := by
  have := tot_rowsF xs contN G.le k hk
  have := G.len
  unfold contL; rw [flat_len]; omega
theorem rowF_mem {f : Nat → Nat → Int} {r n : Nat} {x : Int} (h : x ∈ rowF f r n) : ∃ c, c < n ∧ x = f r c := by
  unfold rowF at h
  obtain ⟨c, hc, rfl⟩ := List.mem_map.1 h
  exact ⟨c, List.mem_range.1 hc, rfl⟩
theorem contL_bd {xs : List Int} (G : Good xs) : ∀ (k : Nat), k ≤ xs.length → ∀ x, x ∈ contL xs k → -30 ≤ x ∧ x ≤ 30
  | 0, _, x, hx => absurd hx (by simp [contL, rowsF])
  | k + 1, hk, x, hx => by
    rw [contL_succ, List.mem_append] at hx
    rcases hx with hx | hx
    · exact contL_bd G k (by omega) x hx
    · obtain ⟨c, hc, rfl⟩ := rowF_mem hx
      have := G.le k (by omega)
      have := G.len
      unfold contN
      omega
theorem getD_mem' {L : List Int} {k : Nat} (h : k < L.length) : L.getD k 0 ∈ L := by
  rw [List.getD_eq_getElem?_getD, List.getElem?_eq_getElem h]; exact List.getElem_mem h
def resB (xs : List Int) (t : Int) : Bool := good xs && inB 2 6 t
def resF (xs : List Int) (t : Int) : List Int := if resB xs t then cntL t.toNat (contL xs xs.length) else []
theorem resF_f {xs : List Int} {t : Int} (h : resB xs t = false) : resF xs t = [] := by simp [resF, h]
theorem resF_t {xs : List Int} {t : Nat} (h : resB xs t = true) : resF xs t = cntL t (contL xs xs.length) := by simp [resF, h]
theorem bound_ResidueCounts (xs : List Int) (t : Int) : (resF xs t).length ≤ 1048576 := by
  unfold resF; split
  · rename_i h
    simp only [resB, Bool.and_eq_true] at h
    have := inB_iff.1 h.2
    rw [cntL_len]; omega
  · simp
end Go.Proofs.Ytdoahfjccpniaaa
