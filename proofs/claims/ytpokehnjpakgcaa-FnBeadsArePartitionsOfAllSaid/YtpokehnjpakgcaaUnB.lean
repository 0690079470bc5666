/-
  The beads of Maya's numbers, as the program pushes them.
-/
import Derived.Test.YtpokehnjpakgcaaUnMath
import Derived.Test.YtpokehnjpakgcaaCB
namespace Go.Proofs.Ytpokehnjpakgcaa
open Go.RowKit

def upG (m : List Int) (n k : Nat) : List Int := (upTo k).filter fun a => decide (a - (n : Int) ∉ m)
theorem upG_yes {m : List Int} {n k : Nat} (h : ¬ ((k : Int) - n) ∈ m) : upG m n (k + 1) = upG m n k ++ [(k : Int)] := by
  unfold upG; rw [upTo_succ, List.filter_append]; congr 1; simp [h]
theorem upG_no {m : List Int} {n k : Nat} (h : ((k : Int) - n) ∈ m) : upG m n (k + 1) = upG m n k := by
  unfold upG; rw [upTo_succ, List.filter_append]; simp [h]
theorem upG_len (m : List Int) (n k : Nat) : (upG m n k).length ≤ k := by
  have := List.length_filter_le (fun a => decide (a - (n : Int) ∉ m)) (upTo k)
  rw [upTo_len] at this; exact this
theorem upTo_below (n : Nat) : upTo n = (below n).reverse.map fun x => x + (n : Int) := by
  apply List.ext_getElem
  · simp [upTo_len, below]
  · intro i h1 h2
    have e : (upTo n).getD i 0 = i := fnRow_get _ _ _ (by rw [upTo_len] at h1; exact h1)
    rw [getD_in h1] at e
    rw [e, List.getElem_map, List.getElem_reverse]
    rw [upTo_len] at h1
    simp [below]; omega
theorem upG_end (m : List Int) (n : Nat) : upG m n n = (gaps m n).reverse.map fun x => x + (n : Int) := by
  unfold upG gaps
  rw [upTo_below, List.filter_map, List.filter_reverse]
  congr 2
  apply List.filter_congr
  intro x _
  simp only [Function.comp]
  rw [show x + (n : Int) - n = x by omega]
def posU (n : Int) (pre : List (Int × Int)) : List Int := pre.filterMap fun x => if 0 ≤ x.2 then some (wrap64 (x.2 + n)) else none
theorem posU_hit (n : Int) (pre : List (Int × Int)) {x : Int × Int} (h : 0 ≤ x.2) : posU n (pre ++ [x]) = posU n pre ++ [wrap64 (x.2 + n)] := by simp [posU, h]
theorem posU_miss (n : Int) (pre : List (Int × Int)) {x : Int × Int} (h : ¬ 0 ≤ x.2) : posU n (pre ++ [x]) = posU n pre := by simp [posU, h]
theorem posU_len (n : Int) (pre : List (Int × Int)) : (posU n pre).length ≤ pre.length := List.length_filterMap_le _ _
theorem posU_drop {m : List Int} (M : MO m) (n : Nat) (hn : n ≤ 30) : ∀ k, k ≤ m.length → posU n (upto (bk m) k) = ((posPart (m.drop (m.length - k))).reverse.map fun x => x + (n : Int))
  | 0, _ => by simp [upto, posU, posPart]
  | k + 1, hk => by
    have ih := posU_drop M n hn k (by omega)
    have hlt : m.length - 1 - k < m.length := by omega
    have hb : bk m k = (((m.length - 1 - k : Nat) : Int), m[m.length - 1 - k]) := by unfold bk; rw [getD_in hlt]
    have hd : m.drop (m.length - (k + 1)) = m[m.length - 1 - k] :: m.drop (m.length - k) := by
      rw [show m.length - (k + 1) = m.length - 1 - k by omega, List.drop_eq_getElem_cons hlt, show m.length - 1 - k + 1 = m.length - k by omega]
    rw [upto_succ, hd]
    have hx := M.lo _ (List.getElem_mem hlt)
    by_cases h : 0 ≤ m[m.length - 1 - k]
    · rw [posU_hit n _ (by rw [hb]; exact h), ih, hb]
      have e : posPart (m[m.length - 1 - k] :: m.drop (m.length - k)) = m[m.length - 1 - k] :: posPart (m.drop (m.length - k)) := by simp [posPart, h]
      rw [e, List.reverse_cons, List.map_append]
      congr 1
      show [wrap64 (m[m.length - 1 - k] + (n : Int))] = [m[m.length - 1 - k] + (n : Int)]
      rw [IntWalk.wrap64_in _ (by omega)]
    · rw [posU_miss n _ (by rw [hb]; exact h), ih]
      have e : posPart (m[m.length - 1 - k] :: m.drop (m.length - k)) = posPart (m.drop (m.length - k)) := by simp [posPart, h]
      rw [e]
theorem beads_pushed {m : List Int} (M : MO m) : upG m (mn m) (mn m) ++ posU (mn m) (upto (bk m) m.length) = beadsM m := by
  rw [upG_end, posU_drop M _ (mn_le M) _ (Nat.le_refl _), Nat.sub_self, List.drop_zero]
  unfold beadsM hold
  rw [List.reverse_append, List.map_append]
theorem MO_last {m : List Int} (M : MO m) (h : 0 < m.length) : m.getD (m.length - 1) 0 = -(mn m : Int) ∧ 0 < mn m := by
  have := M.sign (m.length - 1) (by omega)
  have := M.even
  have h2 : ¬ 0 ≤ m.getD (m.length - 1) 0 := fun e => by have := (M.sign (m.length - 1) (by omega)).2 e; omega
  unfold mn; omega
theorem un_nil : unF [] = [] ∧ unOk [] = true := by
  have h : MO [] := ⟨by simp, by simp, List.Pairwise.nil, by simp, by simp⟩
  have h2 : unOut [] = [] := rfl
  have : unOk [] = true := by
    unfold unOk; rw [moB_iff.2 h, h2]; rfl
  exact ⟨by rw [unF_yes this]; exact h2, this⟩
end Go.Proofs.Ytpokehnjpakgcaa
