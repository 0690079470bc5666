/-
  Several texts in one.
-/
import Derived.Test.YtmiifdedmjfgkaaR09
import Derived.Test.YtmiifdedmjfgkaaR03
import Derived.Test.YtmiifdedmjfgkaaR07
/-
  Contracts: ConjugateOf of the program and of the model.
-/
namespace Go.Proofs.Ytmiifdedmjfgkaa
open Go.RowKit

set_option maxHeartbeats 400000 in
theorem impl_ConjugateOf (A : Option Addr) (c : Nat) (xs : List Int) (w : World) (hl : xs.length ≤ 1048576) (hc : Cells w A xs) :
    Calls Try.prog 15 #[.slice A xs.length c] w fun e w' => ∃ A' c', e = .returned (.tuple #[.slice A' (conjF xs).length c', .bool (good xs)]) ∧ Own w' w.heap.size A' c' (conjF xs) ∧ Below w.heap.size w w' := by
  cases hg : good xs
  · rw [conjF_f hg]
    have HG := hid hg; clear hg
    go_enter Try.func15, Try.ntmps15
    go_wp2_with (go_at_call 28; refine (IsPartition_b _ _ _ _ hl hc _ HG.out).mono ?_; rintro e w' ⟨rfl, rfl⟩)
    go_ret2
    exact ⟨none, 0, rfl, own_nil _ _, Below.refl _ _⟩
  · rw [conjF_t hg]
    have G := (good_iff xs).1 hg
    have HG := hid hg; clear hg
    go_enter Try.func15, Try.ntmps15
    go_wp2_with (first | (go_at_call 28; refine (IsPartition_b _ _ _ _ hl hc _ HG.out).mono ?_; rintro e w' ⟨rfl, rfl⟩) | (go_at_call 29; refine (columnsOf_any _ _ _ _ G (by exact hc)).mono ?_; rintro e w2 ⟨A2, c2, rfl, o2, b2⟩))
    go_ret2
    exact ⟨A2, c2, rfl, o2, b2⟩
end Go.Proofs.Ytmiifdedmjfgkaa
/-
  Contracts: what is a cell, of the program and of the model.
-/
namespace Go.Proofs.Ytmiifdedmjfgkaa
open Go.RowKit

theorem at_no_good {xs : List Int} {r k : Int} (h : good xs = false) : atB xs r k = false := by simp [atB, h]
theorem at_good {xs : List Int} {r k : Int} (h : good xs = true) : atB xs r k = cellB xs r k := by simp [atB, h]
theorem cell_no {xs : List Int} {r k : Int} (h : ¬ (0 ≤ r ∧ r < xs.length ∧ 0 ≤ k ∧ k < xs.getD r.toNat 0)) : cellB xs r k = false := by
  cases hcb : cellB xs r k
  · rfl
  · exact absurd (cellB_iff.1 hcb) h

theorem Cells.get {w : World} {A : Option Addr} {xs : List Int} (h : Cells w A xs) {j : Nat} (hj : j < xs.length) : ∃ b o, A = some ⟨b, o, none⟩ ∧ w.cell? ⟨b, o + j, none⟩ = some (.int .i64 (xs.getD j 0)) := by
  obtain ⟨b, o, e, hc⟩ := h (by omega)
  exact ⟨b, o, e, hc j hj⟩

end Go.Proofs.Ytmiifdedmjfgkaa
