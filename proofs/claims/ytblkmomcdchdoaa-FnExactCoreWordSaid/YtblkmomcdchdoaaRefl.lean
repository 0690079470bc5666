/-
  Contracts: levels reflected (both sides).
-/
import Derived.Test.YtblkmomcdchdoaaCntLev
import Derived.Test.YtblkmomcdchdoaaOwnCopy
import Derived.RegionTactic
import Derived.ChangeAlike
namespace Go.Proofs.Ytblkmomcdchdoaa
open Go.RowKit

set_option maxHeartbeats 400000 in
theorem isResidue_any (i t : Int) (w : World) : Calls Try.prog 93 #[.int .i64 i, .int .i64 t] w fun e w' => e = .returned (.bool (decide (0 ≤ i) && decide (i < t))) ∧ w = w' := by
  by_cases h1 : 0 ≤ i
  · by_cases h2 : i < t
    · go_enter Try.func93, Try.ntmps93
      go_wp2
      go_ret
      exact ⟨by simp [h1, h2], rfl⟩
    · go_enter Try.func93, Try.ntmps93
      go_wp2
      go_ret
      exact ⟨by simp [h2], rfl⟩
  · go_enter Try.func93, Try.ntmps93
    go_wp2
    go_ret
    exact ⟨by rw [decide_eq_false (p := 0 ≤ i) (by omega)]; first | done | rfl, rfl⟩
theorem isResidue_b (i t : Int) (w : World) (b : Bool) (h : (decide (0 ≤ i) && decide (i < t)) = b) : Calls Try.prog 93 #[.int .i64 i, .int .i64 t] w fun e w' => e = .returned (.bool b) ∧ w = w' := by
  subst h; exact isResidue_any i t w

theorem below_drew1 {B : Nat} {a w : World} (h : Below B a w) : Below B a w.drew := ⟨h.os, h.tape, h.output, h.size, h.block⟩
theorem own_drew1 {w : World} {B : Nat} {A : Option Addr} {c : Nat} {xs : List Int} (h : Own w B A c xs) : Own w.drew B A c xs := h
/-- What both sides have written before the last check: the row, whatever the order of the two stores. -/
theorem reflOwn {w : World} {B g c : Nat} {xs : List Int} (h : Own w B (some ⟨g, 0, none⟩) c xs) (i j : Nat) (x y : Int) :
    Own ((w.setCell ⟨g, i, none⟩ (.int .i64 x)).setCell ⟨g, j, none⟩ (.int .i64 y)) B (some ⟨g, 0, none⟩) c ((xs.set i x).set j y) := own_set (own_set h i x) j y

end Go.Proofs.Ytblkmomcdchdoaa
