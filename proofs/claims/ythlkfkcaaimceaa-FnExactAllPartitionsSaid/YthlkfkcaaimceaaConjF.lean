/-
  Contracts: ConjugateOf of the program and of the model.
-/
import Derived.Test.YthlkfkcaaimceaaConj
namespace Go.Proofs.Ythlkfkcaaimceaa
open Go.RowKit

set_option maxHeartbeats 400000 in
theorem spec_ConjugateOf (A : Option Addr) (c : Nat) (xs : List Int) (w : World) (hl : xs.length ≤ 1048576) (hc : Cells w A xs) :
    Calls Try.prog 31 #[.slice A xs.length c] w fun e w' => ∃ A' c', e = .returned (.tuple #[.slice A' (conjF xs).length c', .bool (good xs)]) ∧ Own w' w.heap.size A' c' (conjF xs) ∧ Below w.heap.size w w' := by
  cases hg : good xs
  · rw [conjF_f hg]
    have HG := hid hg; clear hg
    go_enter Try.func31, Try.ntmps31
    go_wp2_with (go_at_call 80; refine (ptGood_b _ _ _ _ hl hc _ HG.out).mono ?_; rintro e w' ⟨rfl, n, rfl⟩)
    go_ret2
    exact ⟨none, 0, rfl, own_nil _ _, below_drew' _ _⟩
  · rw [conjF_t hg]
    have G := (good_iff xs).1 hg
    have HG := hid hg; clear hg
    go_enter Try.func31, Try.ntmps31
    go_wp2_with (first | (go_at_call 80; refine (ptGood_b _ _ _ _ hl hc _ HG.out).mono ?_; rintro e w' ⟨rfl, n, rfl⟩) | (go_at_call 87; refine (ptTurn_any _ _ _ _ G (by exact hc)).mono ?_; rintro e w2 ⟨A2, c2, rfl, o2, b2⟩))
    go_ret2
    exact ⟨A2, c2, rfl, o2, Below.next (below_drew' w n) b2⟩
set_option maxHeartbeats 400000 in
theorem impl_ConjugateOf (A : Option Addr) (c : Nat) (xs : List Int) (w : World) (hl : xs.length ≤ 1048576) (hc : Cells w A xs) :
    Calls Try.prog 30 #[.slice A xs.length c] w fun e w' => ∃ A' c', e = .returned (.tuple #[.slice A' (conjF xs).length c', .bool (good xs)]) ∧ Own w' w.heap.size A' c' (conjF xs) ∧ Below w.heap.size w w' := by
  cases hg : good xs
  · rw [conjF_f hg]
    have HG := hid hg; clear hg
    go_enter Try.func30, Try.ntmps30
    go_wp2_with (go_at_call 34; refine (IsPartition_b _ _ _ _ hl hc _ HG.out).mono ?_; rintro e w' ⟨rfl, rfl⟩)
    go_ret2
    exact ⟨none, 0, rfl, own_nil _ _, Below.refl _ _⟩
  · rw [conjF_t hg]
    have G := (good_iff xs).1 hg
    have HG := hid hg; clear hg
    go_enter Try.func30, Try.ntmps30
    go_wp2_with (first | (go_at_call 34; refine (IsPartition_b _ _ _ _ hl hc _ HG.out).mono ?_; rintro e w' ⟨rfl, rfl⟩) | (go_at_call 76; refine (columnsOf_any _ _ _ _ G (by exact hc)).mono ?_; rintro e w2 ⟨A2, c2, rfl, o2, b2⟩))
    go_ret2
    exact ⟨A2, c2, rfl, o2, b2⟩
end Go.Proofs.Ythlkfkcaaimceaa
