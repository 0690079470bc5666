/-
  Plain facts: the cells with a given hook, row by row. No program in this text.
-/
import Derived.Test.YtecfkkejhfnpbaaRowsMath
import Derived.Test.YtecfkkejhfnpbaaPairs
namespace Go.Proofs.Ytecfkkejhfnpbaa
open Go.RowKit

def hitRow (row : List Int) (t : Int) (r : Nat) : Nat → List (Nat × Nat)
  | 0 => []
  | m + 1 => if row.getD m 0 = t then hitRow row t r m ++ [(r, m)] else hitRow row t r m
def hits (R : List (List Int)) (t : Int) : Nat → List (Nat × Nat)
  | 0 => []
  | k + 1 => hits R t k ++ hitRow (R.getD k []) t k (R.getD k []).length
def hitsAt (R : List (List Int)) (t : Int) (k m : Nat) : List (Nat × Nat) := hits R t k ++ hitRow (R.getD k []) t k m
theorem hitsAt_zero (R : List (List Int)) (t : Int) (k : Nat) : hitsAt R t k 0 = hits R t k := by simp [hitsAt, hitRow]
theorem hitsAt_t (R : List (List Int)) (t : Int) (k m : Nat) (h : (R.getD k []).getD m 0 = t) : hitsAt R t k (m + 1) = hitsAt R t k m ++ [(k, m)] := by simp only [hitsAt, hitRow]; rw [if_pos h, List.append_assoc]
theorem hitsAt_f (R : List (List Int)) (t : Int) (k m : Nat) (h : ¬ (R.getD k []).getD m 0 = t) : hitsAt R t k (m + 1) = hitsAt R t k m := by simp only [hitsAt, hitRow]; rw [if_neg h]
theorem hits_succ (R : List (List Int)) (t : Int) (k : Nat) : hits R t (k + 1) = hitsAt R t k (R.getD k []).length := rfl
theorem hitRow_len (row : List Int) (t : Int) (r : Nat) : ∀ m, (hitRow row t r m).length ≤ m
  | 0 => by simp [hitRow]
  | m + 1 => by
    have := hitRow_len row t r m
    simp only [hitRow]; split
    · simp; omega
    · omega
theorem hits_len (R : List (List Int)) (t : Int) : ∀ k, k ≤ R.length → (hits R t k).length ≤ tot (R.take k)
  | 0, _ => by simp [hits]
  | k + 1, h => by
    have := hits_len R t k (by omega)
    have := hitRow_len (R.getD k []) t k (R.getD k []).length
    rw [hits, List.length_append, tot_take_succ R k (by omega)]; omega
theorem hitsAt_len (R : List (List Int)) (t : Int) (k m : Nat) (hk : k < R.length) (hm : m ≤ (R.getD k []).length) : (hitsAt R t k m).length ≤ tot R := by
  have := hits_len R t k (by omega)
  have := hitRow_len (R.getD k []) t k m
  have := tot_take_succ R k hk
  have := tot_take_le R (k + 1)
  rw [hitsAt, List.length_append]; omega
theorem hits_le (R : List (List Int)) (t : Int) (k : Nat) (hk : k ≤ R.length) : (hits R t k).length ≤ tot R := by
  have := hits_len R t k hk
  have := tot_take_le R k
  omega
theorem hitRow_mem {row : List Int} {t : Int} {r : Nat} {q : Nat × Nat} : ∀ {m : Nat}, q ∈ hitRow row t r m → q.1 = r ∧ q.2 < m ∧ row.getD q.2 0 = t
  | 0, h => by simp [hitRow] at h
  | m + 1, h => by
    simp only [hitRow] at h
    split at h
    · rename_i e
      rw [List.mem_append] at h
      rcases h with h | h
      · obtain ⟨a, b, c⟩ := hitRow_mem h; exact ⟨a, by omega, c⟩
      · simp at h; subst h; exact ⟨rfl, by simp, e⟩
    · obtain ⟨a, b, c⟩ := hitRow_mem h; exact ⟨a, by omega, c⟩
theorem hits_mem {R : List (List Int)} {t : Int} {q : Nat × Nat} : ∀ {k : Nat}, q ∈ hits R t k → q.1 < k ∧ q.2 < (R.getD q.1 []).length ∧ (R.getD q.1 []).getD q.2 0 = t
  | 0, h => by simp [hits] at h
  | k + 1, h => by
    rw [hits, List.mem_append] at h
    rcases h with h | h
    · obtain ⟨a, b⟩ := hits_mem h; exact ⟨by omega, b⟩
    · obtain ⟨a, b, c⟩ := hitRow_mem h; rw [a]; exact ⟨by omega, b, c⟩

def hooksR (xs : List Int) : List (List Int) := rowsF xs (hookN xs) xs.length
theorem hooksR_len (xs : List Int) : (hooksR xs).length = xs.length := rowsF_len _ _ _
theorem hooksR_tot {xs : List Int} (G : Good xs) : tot (hooksR xs) ≤ 900 := by
  have := tot_rowsF xs (hookN xs) G.le xs.length (Nat.le_refl _)
  have := G.len
  unfold hooksR; omega
/-- All cells with a hook. -/
def rimCs (xs : List Int) (t : Int) : List (Nat × Nat) := hits (hooksR xs) t xs.length
theorem rimCs_len {xs : List Int} (G : Good xs) (t : Int) : (rimCs xs t).length ≤ 900 := by
  have := hits_le (hooksR xs) t xs.length (by rw [hooksR_len]; exact Nat.le_refl _)
  have := hooksR_tot G
  unfold rimCs; omega
theorem rimCs_mem {xs : List Int} {t : Int} {q : Nat × Nat} (h : q ∈ rimCs xs t) : q.1 < xs.length ∧ (q.2 : Int) < xs.getD q.1 0 := by
  obtain ⟨a, b, _⟩ := hits_mem h
  unfold hooksR at b
  rw [rowsF_get xs _ _ _ a, rowF_len] at b
  exact ⟨a, by omega⟩
def crB (xs : List Int) (t : Int) : Bool := good xs && inB 2 6 t
def rimCellsF (xs : List Int) (t : Int) : List (List Int) := if crB xs t then pairs (rimCs xs t) else []
theorem bound_RimCells (xs : List Int) (t : Int) : (rimCellsF xs t).length ≤ 1048576 ∧ tot (rimCellsF xs t) ≤ 1048576 := by
  unfold rimCellsF
  split
  · rename_i h
    simp only [crB, Bool.and_eq_true] at h
    have := rimCs_len ((good_iff xs).1 h.1) t
    rw [pairs_len, tot_pairs]; omega
  · simp [tot]
end Go.Proofs.Ytecfkkejhfnpbaa
