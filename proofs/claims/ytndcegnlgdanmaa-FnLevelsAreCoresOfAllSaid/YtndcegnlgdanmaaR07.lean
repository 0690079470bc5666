/-
  Several texts in one.
-/
import Derived.Test.YtndcegnlgdanmaaR03
import Derived.Test.YtndcegnlgdanmaaR06
import Derived.RegionTactic
import Derived.ChangeAlike
/-
  Contracts: levels reflected (both sides).
-/
namespace Go.Proofs.Ytndcegnlgdanmaa
open Go.RowKit

theorem below_drew1 {B : Nat} {a w : World} (h : Below B a w) : Below B a w.drew := ⟨h.os, h.tape, h.output, h.size, h.block⟩
theorem own_drew1 {w : World} {B : Nat} {A : Option Addr} {c : Nat} {xs : List Int} (h : Own w B A c xs) : Own w.drew B A c xs := h
/-- What both sides have written before the last check: the row, whatever the order of the two stores. -/
theorem reflOwn {w : World} {B g c : Nat} {xs : List Int} (h : Own w B (some ⟨g, 0, none⟩) c xs) (i j : Nat) (x y : Int) :
    Own ((w.setCell ⟨g, i, none⟩ (.int .i64 x)).setCell ⟨g, j, none⟩ (.int .i64 y)) B (some ⟨g, 0, none⟩) c ((xs.set i x).set j y) := own_set (own_set h i x) j y

end Go.Proofs.Ytndcegnlgdanmaa
/-
  Contracts: levels reflected, the model's side.
-/
namespace Go.Proofs.Ytndcegnlgdanmaa
open Go.RowKit

theorem resid_inB {m : Int} {t : Nat} (b : Bool) (h : (decide (0 ≤ m) && decide (m < (t : Int))) = b) : inB 0 ((t : Int) - 1) m = b := by
  rw [← h]
  have e : decide (m ≤ (t : Int) - 1) = decide (m < (t : Int)) := by
    by_cases hh : m < (t : Int)
    · rw [decide_eq_true hh, decide_eq_true (by omega)]
    · rw [decide_eq_false hh, decide_eq_false (by omega)]
  unfold inB
  rw [e]

theorem chGood_n (A : Option Addr) (c n : Nat) (xs : List Int) (w : World) (hn : xs.length = n) (hl : n ≤ 1048576) (hc : Cells w A xs) (b : Bool) (h : levB xs = b) :
    Calls Try.prog 23 #[.slice A n c] w fun e w' => e = .returned (.bool b) ∧ w = w' := by
  subst hn; exact chGood_b A c xs w hl hc b h

end Go.Proofs.Ytndcegnlgdanmaa
