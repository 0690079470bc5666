/-
  Contracts: levels told by counts (both sides).
-/
import Derived.Test.YtnhjofcmaodamaaCA
import Derived.Test.YtnhjofcmaodamaaLev
import Derived.Test.YtnhjofcmaodamaaCountF
namespace Go.Proofs.Ytnhjofcmaodamaa
open Go.RowKit

theorem ifLevels_t (A : Option Addr) (c : Nat) (xs : List Int) (w : World) (hl : xs.length ≤ 1048576) (hc : Cells w A xs) (h : levB xs = true) :
    Calls Try.prog 127 #[.slice A xs.length c] w fun e w' => e = .returned (.tuple #[.slice A xs.length c, .bool true]) ∧ w = w' := by
  have H := hid h; clear h
  go_enter Try.func127, Try.ntmps127
  go_wp2_with (go_at_call 174; refine (IsLevels_b _ _ _ _ hl hc _ H.out).mono ?_; rintro e w' ⟨rfl, rfl⟩)
  go_ret2
  exact ⟨rfl, rfl⟩
theorem ifLevels_f (A : Option Addr) (c : Nat) (xs : List Int) (w : World) (hl : xs.length ≤ 1048576) (hc : Cells w A xs) (h : levB xs = false) :
    Calls Try.prog 127 #[.slice A xs.length c] w fun e w' => e = .returned (.tuple #[.slice none 0 0, .bool false]) ∧ w = w' := by
  have H := hid h; clear h
  go_enter Try.func127, Try.ntmps127
  go_wp2_with (go_at_call 174; refine (IsLevels_b _ _ _ _ hl hc _ H.out).mono ?_; rintro e w' ⟨rfl, rfl⟩)
  go_ret2
  exact ⟨rfl, rfl⟩
/-- ifLevels of a row of the call's own. -/
theorem ifLevels_own {B : Nat} (A : Option Addr) (c : Nat) (xs : List Int) (w : World) (hl : xs.length ≤ 1048576) (ho : Own w B A c xs) :
    Calls Try.prog 127 #[.slice A xs.length c] w fun e w' => (∃ A' c', e = .returned (.tuple #[.slice A' (if levB xs then xs else []).length c', .bool (levB xs)]) ∧ Own w B A' c' (if levB xs then xs else [])) ∧ w = w' := by
  cases h : levB xs
  · exact (ifLevels_f A c xs w hl ho.cells h).mono fun e w' ⟨he, hw⟩ => ⟨⟨none, 0, by simpa using he, by simpa using own_nil w B⟩, hw⟩
  · exact (ifLevels_t A c xs w hl ho.cells h).mono fun e w' ⟨he, hw⟩ => ⟨⟨A, c, by simpa using he, by simpa using ho⟩, hw⟩

end Go.Proofs.Ytnhjofcmaodamaa
