/-
  Several texts in one.
-/
import Derived.Test.YtiebnnchaopbkaaR08
import Derived.RegionTactic
import Derived.ChangeAlike
/-
  A row that is only read: its cells, and that nil has neither length nor capacity.
-/
namespace Go.Proofs.Ytiebnnchaopbkaa
open Go.RowKit

structure Rd (w : World) (A : Option Addr) (c : Nat) (xs : List Int) : Prop where
  no : A = none → xs.length = 0 ∧ c = 0
  cells : Cells w A xs
theorem Rd.below {w w' : World} {A : Option Addr} {c : Nat} {xs : List Int} (h : Rd w A c xs) (b : Below w.heap.size w w') : Rd w' A c xs := ⟨h.no, h.cells.later b⟩
theorem own_rd {w : World} {B c : Nat} {A : Option Addr} {xs : List Int} (h : Own w B A c xs) : Rd w A c xs := ⟨by rintro rfl; exact own_none h, h.cells⟩
theorem rd_nil {w : World} {A : Option Addr} {xs : List Int} (h : Cells w A xs) (e : A = none) : xs.length = 0 := by
  rcases Nat.eq_zero_or_pos xs.length with h0 | h0
  · exact h0
  · obtain ⟨b, o, h1, _⟩ := h h0
    rw [e] at h1
    cases h1
theorem cells_rd {w : World} {c : Nat} {A : Option Addr} {xs : List Int} (h : Cells w A xs) (hn : A = none → c = 0) : Rd w A c xs :=
  ⟨fun e => ⟨rd_nil h e, hn e⟩, h⟩
theorem l1OwnR_any (A : Option Addr) (c : Nat) (xs : List Int) (w : World) (hl : xs.length ≤ 1048576) (h : Rd w A c xs) :
    Calls Try.prog 46 #[.slice A xs.length c] w fun e w' => ∃ A' c', e = .returned (.slice A' xs.length c') ∧ Own w' w.heap.size A' c' xs ∧ Below w.heap.size w w' := l1OwnC_any A c xs w hl h.no h.cells
end Go.Proofs.Ytiebnnchaopbkaa
/-
  Contracts: levels reflected (both sides).
-/
namespace Go.Proofs.Ytiebnnchaopbkaa
open Go.RowKit

theorem below_drew1 {B : Nat} {a w : World} (h : Below B a w) : Below B a w.drew := ⟨h.os, h.tape, h.output, h.size, h.block⟩
theorem own_drew1 {w : World} {B : Nat} {A : Option Addr} {c : Nat} {xs : List Int} (h : Own w B A c xs) : Own w.drew B A c xs := h
/-- What both sides have written before the last check: the row, whatever the order of the two stores. -/
theorem reflOwn {w : World} {B g c : Nat} {xs : List Int} (h : Own w B (some ⟨g, 0, none⟩) c xs) (i j : Nat) (x y : Int) :
    Own ((w.setCell ⟨g, i, none⟩ (.int .i64 x)).setCell ⟨g, j, none⟩ (.int .i64 y)) B (some ⟨g, 0, none⟩) c ((xs.set i x).set j y) := own_set (own_set h i x) j y

end Go.Proofs.Ytiebnnchaopbkaa
/-
  Contracts: levels reflected, the model's side.
-/
namespace Go.Proofs.Ytiebnnchaopbkaa
open Go.RowKit

theorem resid_inB {m : Int} {t : Nat} (b : Bool) (h : (decide (0 ≤ m) && decide (m < (t : Int))) = b) : inB 0 ((t : Int) - 1) m = b := by
  rw [← h]
  have e : decide (m ≤ (t : Int) - 1) = decide (m < (t : Int)) := by
    by_cases hh : m < (t : Int)
    · rw [decide_eq_true hh, decide_eq_true (by omega)]
    · rw [decide_eq_false hh, decide_eq_false (by omega)]
  unfold inB
  rw [e]

theorem chGood_n (A : Option Addr) (c n : Nat) (xs : List Int) (w : World) (hn : xs.length = n) (hl : n ≤ 1048576) (hc : Cells w A xs) (b : Bool) (h : levB xs = b) :
    Calls Try.prog 48 #[.slice A n c] w fun e w' => e = .returned (.bool b) ∧ w = w' := by
  subst hn; exact chGood_b A c xs w hl hc b h

end Go.Proofs.Ytiebnnchaopbkaa
