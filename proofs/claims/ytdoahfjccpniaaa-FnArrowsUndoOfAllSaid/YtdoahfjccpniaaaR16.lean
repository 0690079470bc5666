/-
  Several texts in one.
-/
import Derived.Test.YtdoahfjccpniaaaR15
import Derived.Test.YtdoahfjccpniaaaR14
import Derived.RegionTactic
import Derived.ChangeAlike
/-
  A row that is only read: its cells, and that nil has neither length nor capacity.
-/
namespace Go.Proofs.Ytdoahfjccpniaaa
open Go.RowKit

structure Rd (w : World) (A : Option Addr) (c : Nat) (xs : List Int) : Prop where
  no : A = none → xs.length = 0 ∧ c = 0
  cells : Cells w A xs
theorem Rd.below {w w' : World} {A : Option Addr} {c : Nat} {xs : List Int} (h : Rd w A c xs) (b : Below w.heap.size w w') : Rd w' A c xs := ⟨h.no, h.cells.later b⟩
theorem own_rd {w : World} {B c : Nat} {A : Option Addr} {xs : List Int} (h : Own w B A c xs) : Rd w A c xs := ⟨by rintro rfl; exact own_none h, h.cells⟩
theorem rd_nil {w : World} {A : Option Addr} {xs : List Int} (h : Cells w A xs) (e : A = none) : xs.length = 0 := by
  rcases Nat.eq_zero_or_pos xs.length with h0 | h0
  · exact h0
  · obtain ⟨b, o, h1, _⟩ := h h0
    rw [e] at h1
    cases h1
theorem cells_rd {w : World} {c : Nat} {A : Option Addr} {xs : List Int} (h : Cells w A xs) (hn : A = none → c = 0) : Rd w A c xs :=
  ⟨fun e => ⟨rd_nil h e, hn e⟩, h⟩
theorem cloneR_any (A : Option Addr) (c : Nat) (xs : List Int) (w : World) (hl : xs.length ≤ 1048576) (h : Rd w A c xs) :
    Calls Try.prog 33 #[.slice A xs.length c] w fun e w' => ∃ A' c', e = .returned (.slice A' xs.length c') ∧ Own w' w.heap.size A' c' xs ∧ Below w.heap.size w w' := cloneC_any A c xs w hl h.no h.cells
theorem l1OwnR_any (A : Option Addr) (c : Nat) (xs : List Int) (w : World) (hl : xs.length ≤ 1048576) (h : Rd w A c xs) :
    Calls Try.prog 37 #[.slice A xs.length c] w fun e w' => ∃ A' c', e = .returned (.slice A' xs.length c') ∧ Own w' w.heap.size A' c' xs ∧ Below w.heap.size w w' := l1OwnC_any A c xs w hl h.no h.cells
end Go.Proofs.Ytdoahfjccpniaaa
/-
  Contracts: levels reflected (both sides).
-/
namespace Go.Proofs.Ytdoahfjccpniaaa
open Go.RowKit

set_option maxHeartbeats 400000 in
theorem isResidue_any (i t : Int) (w : World) : Calls Try.prog 40 #[.int .i64 i, .int .i64 t] w fun e w' => e = .returned (.bool (decide (0 ≤ i) && decide (i < t))) ∧ w = w' := by
  by_cases h1 : 0 ≤ i
  · by_cases h2 : i < t
    · go_enter Try.func40, Try.ntmps40
      go_wp2
      go_ret
      exact ⟨by simp [h1, h2], rfl⟩
    · go_enter Try.func40, Try.ntmps40
      go_wp2
      go_ret
      exact ⟨by simp [h2], rfl⟩
  · go_enter Try.func40, Try.ntmps40
    go_wp2
    go_ret
    exact ⟨by rw [decide_eq_false (p := 0 ≤ i) (by omega)]; first | done | rfl, rfl⟩
theorem isResidue_b (i t : Int) (w : World) (b : Bool) (h : (decide (0 ≤ i) && decide (i < t)) = b) : Calls Try.prog 40 #[.int .i64 i, .int .i64 t] w fun e w' => e = .returned (.bool b) ∧ w = w' := by
  subst h; exact isResidue_any i t w

theorem below_drew1 {B : Nat} {a w : World} (h : Below B a w) : Below B a w.drew := ⟨h.os, h.tape, h.output, h.size, h.block⟩
theorem own_drew1 {w : World} {B : Nat} {A : Option Addr} {c : Nat} {xs : List Int} (h : Own w B A c xs) : Own w.drew B A c xs := h
/-- What both sides have written before the last check: the row, whatever the order of the two stores. -/
theorem reflOwn {w : World} {B g c : Nat} {xs : List Int} (h : Own w B (some ⟨g, 0, none⟩) c xs) (i j : Nat) (x y : Int) :
    Own ((w.setCell ⟨g, i, none⟩ (.int .i64 x)).setCell ⟨g, j, none⟩ (.int .i64 y)) B (some ⟨g, 0, none⟩) c ((xs.set i x).set j y) := own_set (own_set h i x) j y

end Go.Proofs.Ytdoahfjccpniaaa
