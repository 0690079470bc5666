/-
  Several texts in one.
-/
import Derived.Test.YtmiifdedmjfgkaaR03
import Derived.Test.YtmiifdedmjfgkaaR20
import Derived.RegionTactic
import Derived.ChangeAlike
/-
  Contracts: counting up, the beads of parts (both sides).
-/
namespace Go.Proofs.Ytmiifdedmjfgkaa
open Go.RowKit

theorem own_made (w : World) (n : Nat) (hn : n ≤ 1048576) : Own (w.alloc (.cells (madeCells #[.int .i64 0] n) 3)) w.heap.size (some ⟨w.heap.size, 0, none⟩) n (fnRow n (fun _ => 0)) := by
  have h := World.ownsRow_lit (base := w.heap.size) (e := 3) (size := 1) w (madeCells #[.int .i64 0] n) n (Nat.le_refl _) (by unfold maxLen; omega) (by rw [size_madeCells]; omega)
  rw [toList_madeCells_one] at h
  unfold Own
  rw [fnRow_len, rowF_zero]
  have e : IL (List.replicate n 0) = List.replicate n (.int .i64 0) := by simp [IL]
  rw [e]; exact h





def upK (n k : Nat) : List Int := fnRow n (fun j => if j < k then (j : Int) else 0)
theorem upK_zero (n : Nat) : upK n 0 = fnRow n (fun _ => 0) := rowF_ext _ _ _ fun j _ => by simp
theorem upK_all (n : Nat) : upK n n = upTo n := rowF_ext _ _ _ fun j h => by simp [h]
theorem upK_succ (n k : Nat) : (upK n k).set k (k : Int) = upK n (k + 1) := by
  unfold upK; rw [fnRow_set]
  refine rowF_ext _ _ _ fun j _ => ?_
  by_cases e : j = k
  · subst e; simp
  · rw [if_neg e]
    by_cases h : j < k
    · rw [if_pos h, if_pos (by omega)]
    · rw [if_neg h, if_neg (by omega)]

end Go.Proofs.Ytmiifdedmjfgkaa
/-
  Small facts on a row that the call has made, its first number 1.
-/
namespace Go.Proofs.Ytmiifdedmjfgkaa
open Go.RowKit

theorem own_drew {w : World} {B : Nat} {A : Option Addr} {c : Nat} {xs : List Int} (h : Own w B A c xs) : Own w.drew B A c xs := h
theorem below_drew {B : Nat} {a w : World} (h : Below B a w) : Below B a w.drew := ⟨h.os, h.tape, h.output, h.size, h.block⟩

theorem own_made1 (w : World) (n : Nat) (hn : n ≤ 1048576) : Own (w.alloc (.cells ((madeCells #[.int .i64 0] n).setIfInBounds 0 (.int .i64 1)) 3)) w.heap.size (some ⟨w.heap.size, 0, none⟩) n ((fnRow n (fun _ => 0)).set 0 1) := by
  have h := World.ownsRow_lit (base := w.heap.size) (e := 3) (size := 1) w ((madeCells #[.int .i64 0] n).setIfInBounds 0 (.int .i64 1)) n (Nat.le_refl _) (by unfold maxLen; omega) (by rw [Array.size_setIfInBounds, size_madeCells]; simp)
  rw [Array.toList_setIfInBounds, toList_madeCells_one] at h
  unfold Own
  rw [List.length_set, fnRow_len, ← IL_set', rowF_zero]
  have e : IL (List.replicate n 0) = List.replicate n (.int .i64 0) := by simp [IL]
  rw [e]
  exact h

theorem own_at_len {w : World} {B : Nat} {A : Option Addr} {c n : Nat} {xs : List Int} (h : Own w B A c xs) (e : xs.length = n) : w.ownsRow B 3 1 (.slice A n c) n (IL xs) := by subst e; exact h
theorem own_of_len {w : World} {B : Nat} {A : Option Addr} {c n : Nat} {xs : List Int} (h : w.ownsRow B 3 1 (.slice A n c) n (IL xs)) (e : xs.length = n) : Own w B A c xs := by subst e; exact h
end Go.Proofs.Ytmiifdedmjfgkaa
