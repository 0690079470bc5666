/-
  Contracts: equal rows, and a core, as the laws ask for them.
-/
import Derived.Test.YthkkiakfmbnfeaaCC
import Derived.Test.YthkkiakfmbnfeaaR41
namespace Go.Proofs.Ythkkiakfmbnfeaa
open Go.RowKit

theorem qSame_lac (A B : Option Addr) (c d : Nat) (xs : List Int) (w : World) (hl : xs.length ≤ 1048576) (hA : Cells w A xs) (hB : Cells w B xs) :
    Calls Try.prog 7 #[.slice A xs.length c, .slice B xs.length d] w fun e w' => e = .returned (.bool true) ∧ Below w.heap.size w w' :=
  (qSame_d A B c d xs xs w hl hl hA hB).mono (by rintro e w' ⟨rfl, n, rfl⟩; exact ⟨by rw [decide_eq_true rfl], below_drew' _ _⟩)
set_option maxRecDepth 100000 in
theorem qCore_t (A : Option Addr) (c : Nat) (xs : List Int) (t : Int) (w : World) (hl : xs.length ≤ 1048576) (hc : Cells w A xs) (h64 : I64 t) (h : isCoreF xs t = true) :
    Calls Try.prog 12 #[.slice A xs.length c, .int .i64 t] w fun e w' => e = .returned (.bool true) ∧ Below w.heap.size w w' := by
  have HH := hid (impl_IsCore A c xs t w hl hc h64)
  have hcr : crB xs t = true := by unfold isCoreF at h; rw [Bool.and_eq_true] at h; exact h.1
  rw [h, hcr] at HH
  clear h hcr
  go_enter Try.func12, Try.ntmps12
  go_wp2_with fail
  refine (HH.out).mono ?_
  rintro e w1 ⟨rfl, b1⟩
  go_wp2_with fail
  go_ret
  exact ⟨rfl, b1⟩
end Go.Proofs.Ythkkiakfmbnfeaa
