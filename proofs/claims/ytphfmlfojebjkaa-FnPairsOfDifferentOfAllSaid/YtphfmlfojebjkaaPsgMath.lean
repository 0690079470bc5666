/-
  Pairs of strict partitions undo themselves; what the signed numbers are. No walk in this text.
-/
import Derived.Test.YtphfmlfojebjkaaPsdMath
import Derived.Test.YtphfmlfojebjkaaPrMath
import Derived.Test.YtphfmlfojebjkaaSgd
import Derived.Test.YtphfmlfojebjkaaPnt
namespace Go.Proofs.Ytphfmlfojebjkaa
open Go.RowKit

def prCk (p : List Int) : Bool :=
  match prO p with
  | some q => decide (prO q = some p) && strB q && decide (q.sum = p.sum) && (decide (q.length = p.length + 1) || decide (p.length = q.length + 1))
  | none => decide (p.length = 0) || (decide (p.getD 0 0 - p.getD (p.length - 1) 0 = p.length - 1) && (decide (p.getD (p.length - 1) 0 = p.length) || decide (p.getD (p.length - 1) 0 = p.length + 1)))
theorem pr_chk : ((List.range 31).all fun n => (sA 30 n n).all prCk) = true := by decide +kernel
theorem pr_at {p : List Int} (h : strB p = true) : prCk p = true := by
  have G := strB_good h
  have h0 := G.sum0
  have h3 := G.sum
  have h1 := List.all_eq_true.1 pr_chk p.sum.toNat (List.mem_range.2 (by omega))
  exact List.all_eq_true.1 h1 p (str_mem h (by omega))
theorem prB_str {p : List Int} (h : prB p = true) : strB p = true := by
  cases hs : strB p
  · unfold prB at h
    rw [prO_no hs] at h
    cases h
  · rfl
theorem pr_two {p : List Int} (h : prB p = true) : prB (prF p) = true ∧ prF (prF p) = p ∧ strB (prF p) = true ∧ (prF p).sum = p.sum ∧ ((prF p).length = p.length + 1 ∨ p.length = (prF p).length + 1) := by
  have hc := pr_at (prB_str h)
  unfold prCk at hc
  unfold prB prF at *
  cases hq : prO p with
  | none => rw [hq] at h; cases h
  | some q =>
    rw [hq] at hc
    simp only [Bool.and_eq_true, Bool.or_eq_true, decide_eq_true_eq] at hc
    obtain ⟨⟨⟨e1, e2⟩, e3⟩, e4⟩ := hc
    show (prO q).isSome = true ∧ (prO q).getD [] = p ∧ strB q = true ∧ q.sum = p.sum ∧ (q.length = p.length + 1 ∨ p.length = q.length + 1)
    rw [e1]
    exact ⟨rfl, rfl, e2, e3, e4⟩
theorem pr_none {p : List Int} (hs : strB p = true) (h : prB p = false) (h0 : 0 < p.length) : p.getD 0 0 - p.getD (p.length - 1) 0 = p.length - 1 ∧ (p.getD (p.length - 1) 0 = p.length ∨ p.getD (p.length - 1) 0 = p.length + 1) := by
  have hc := pr_at hs
  unfold prCk at hc
  unfold prB at h
  cases hq : prO p with
  | some q => rw [hq] at h; cases h
  | none =>
    rw [hq] at hc
    simp only [Bool.and_eq_true, Bool.or_eq_true, decide_eq_true_eq] at hc
    rcases hc with e | e
    · omega
    · exact e
/-- What the law expects: the sign of the pentagonal number, by the number of rounds. -/
def dueK (n : Int) : Nat → Int
  | 0 => 0
  | j + 1 => if pnt ((j : Int) - 6) = n then 1 - 2 * ((j % 2 : Nat) : Int) else dueK n j
def sgA (L : List (List Int)) : Int := (((L.countP (fun p => decide (evB p = true)) : Nat) : Int) - (L.countP (fun p => decide (evB p = false)) : Nat))
theorem sg_chk : ((List.range 31).all fun n => decide (sgA (sA n n n) = dueK n 13)) = true := by decide +kernel
theorem sgd_due {n : Int} (h : sgdB n = true) : sgdF n = dueK n 13 := by
  obtain ⟨m, rfl, hm⟩ := sgdB_nat h
  rw [sgdF_t h, ← sg_filter (prt m)]
  have e : (prt m).filter dcr = sA m m m := strict_all hm
  rw [e]
  exact of_decide_eq_true (List.all_eq_true.1 sg_chk m (List.mem_range.2 (by omega)))
theorem dueK_bd (n : Int) : ∀ j, -1 ≤ dueK n j ∧ dueK n j ≤ 1
  | 0 => by simp [dueK]
  | j + 1 => by
    have := dueK_bd n j
    rw [dueK]
    split <;> omega
end Go.Proofs.Ytphfmlfojebjkaa
