/-
  Contracts: the model's table of counted partitions.
-/
import Derived.Test.YtnpkfndopicdiaaCount
import Derived.Test.YtnpkfndopicdiaaCC
namespace Go.Proofs.Ytnpkfndopicdiaa
open Go.RowKit

def tF (m j : Nat) : Int := (T m j : Int)
def rowsT (n k : Nat) : List (List Int) := (List.range k).map fun m => rowF tF m (n + 1)
theorem rowsT_len (n k : Nat) : (rowsT n k).length = k := by simp [rowsT]
theorem rowsT_succ (n k : Nat) : rowsT n (k + 1) = rowsT n k ++ [rowF tF k (n + 1)] := by simp [rowsT, List.range_succ]
theorem rowsT_get (n k m : Nat) (h : m < k) : (rowsT n k).getD m [] = rowF tF m (n + 1) := by
  rw [List.getD_eq_getElem?_getD, rowsT, List.getElem?_map, List.getElem?_range h]; rfl
def part (ys : List Int) (k : Nat) : List Value := IL (ys.take k) ++ List.replicate (ys.length - k) (.int .i64 0)
theorem part_set (ys : List Int) (k : Nat) (hk : k < ys.length) : (part ys k).set k (.int .i64 (ys.getD k 0)) = part ys (k + 1) := by
  unfold part
  have hl : (IL (ys.take k)).length = k := by simp [IL]; omega
  rw [List.set_append_right _ _ (by omega), hl, Nat.sub_self]
  obtain ⟨m, hm⟩ : ∃ m, ys.length - k = m + 1 := ⟨ys.length - k - 1, by omega⟩
  rw [hm, show ys.length - (k + 1) = m by omega, List.replicate_succ, List.set_cons_zero, ← IL_snoc ys k hk, List.append_assoc]; rfl
theorem part_len (ys : List Int) (k : Nat) (hk : k ≤ ys.length) : (part ys k).length = ys.length := by simp [part, IL]; omega
theorem part_get (ys : List Int) (k j : Nat) (hj : j < k) (hk : k ≤ ys.length) : (part ys k)[j]? = some (.int .i64 (ys.getD j 0)) := by
  unfold part
  rw [List.getElem?_append_left (by simp [IL]; omega), IL_get _ j (by simp; omega), getD_take ys k j hj]
theorem part_full (ys : List Int) : part ys ys.length = IL ys := by simp [part]
theorem part_zero (ys : List Int) : part ys 0 = List.replicate ys.length (.int .i64 0) := by simp [part, IL]
theorem part_one (ys : List Int) (h : 0 < ys.length) (h0 : ys.getD 0 0 = 0) : part ys 1 = List.replicate ys.length (.int .i64 0) := by
  have := part_set ys 0 h
  rw [h0, part_zero] at this
  rw [← this]
  obtain ⟨m, hm⟩ : ∃ m, ys.length = m + 1 := ⟨ys.length - 1, by omega⟩
  rw [hm, List.replicate_succ, List.set_cons_zero]
theorem tF_get (m n j : Nat) (h : j < n + 1) : (rowF tF m (n + 1)).getD j 0 = T m j := rowF_get tF m (n + 1) j h

end Go.Proofs.Ytnpkfndopicdiaa
