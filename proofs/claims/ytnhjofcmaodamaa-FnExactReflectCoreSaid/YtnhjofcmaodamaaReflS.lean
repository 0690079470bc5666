/-
  Contracts: levels reflected, the model's side.
-/
import Derived.Test.YtnhjofcmaodamaaRefl
namespace Go.Proofs.Ytnhjofcmaodamaa
open Go.RowKit

theorem resid_inB {m : Int} {t : Nat} (b : Bool) (h : (decide (0 ≤ m) && decide (m < (t : Int))) = b) : inB 0 ((t : Int) - 1) m = b := by
  rw [← h]
  have e : decide (m ≤ (t : Int) - 1) = decide (m < (t : Int)) := by
    by_cases hh : m < (t : Int)
    · rw [decide_eq_true hh, decide_eq_true (by omega)]
    · rw [decide_eq_false hh, decide_eq_false (by omega)]
  unfold inB
  rw [e]

theorem chGood_n (A : Option Addr) (c n : Nat) (xs : List Int) (w : World) (hn : xs.length = n) (hl : n ≤ 1048576) (hc : Cells w A xs) (b : Bool) (h : levB xs = b) :
    Calls Try.prog 126 #[.slice A n c] w fun e w' => e = .returned (.bool b) ∧ w = w' := by
  subst hn; exact chGood_b A c xs w hl hc b h

end Go.Proofs.Ytnhjofcmaodamaa
