/-
  Contracts: IsPartition, CellsOf, IsInside, of the program and of the model.
-/
import Derived.Test.YthlkfkcaaimceaaIsPart
namespace Go.Proofs.Ythlkfkcaaimceaa
open Go.RowKit

set_option maxHeartbeats 400000 in
theorem spec_IsPartition (A : Option Addr) (c : Nat) (xs : List Int) (w : World) (hl : xs.length ≤ 1048576) (hc : Cells w A xs) :
    Calls Try.prog 57 #[.slice A xs.length c] w fun e w' => e = .returned (.bool (good xs)) ∧ Below w.heap.size w w' := by
  go_enter Try.func57, Try.ntmps57
  go_wp2_with (go_at_call 80; refine (ptGood_any _ _ _ _ hl hc).mono ?_; rintro e w' ⟨rfl, n, rfl⟩)
  go_ret
  exact ⟨rfl, below_drew' _ _⟩
theorem impl_IsPartition (A : Option Addr) (c : Nat) (xs : List Int) (w : World) (hl : xs.length ≤ 1048576) (hc : Cells w A xs) :
    Calls Try.prog 34 #[.slice A xs.length c] w fun e w' => e = .returned (.bool (good xs)) ∧ Below w.heap.size w w' :=
  (IsPartition_any A xs c w hl hc).mono fun _ _ ⟨he, hw⟩ => ⟨he, by rw [hw]; exact Below.refl _ _⟩

theorem Good.b1000 {xs : List Int} (h : Good xs) : ∀ j, j < xs.length → 0 ≤ xs.getD j 0 ∧ xs.getD j 0 ≤ 1000 := fun j hj => by have := h.pos j hj; have := h.le j hj; omega

def cellsF (xs : List Int) : Int := if good xs then xs.sum else 0
theorem cellsF_t {xs : List Int} (h : good xs = true) : cellsF xs = xs.sum := by simp [cellsF, h]
theorem cellsF_f {xs : List Int} (h : good xs = false) : cellsF xs = 0 := by simp [cellsF, h]

set_option maxHeartbeats 400000 in
theorem spec_CellsOf (A : Option Addr) (c : Nat) (xs : List Int) (w : World) (hl : xs.length ≤ 1048576) (hc : Cells w A xs) :
    Calls Try.prog 60 #[.slice A xs.length c] w fun e w' => e = .returned (.tuple #[.int .i64 (cellsF xs), .bool (good xs)]) ∧ Below w.heap.size w w' := by
  cases hg : good xs
  · rw [cellsF_f hg]
    have HG := hid hg; clear hg
    go_enter Try.func60, Try.ntmps60
    go_wp2_with (go_at_call 80; refine (ptGood_b _ _ _ _ hl hc _ HG.out).mono ?_; rintro e w' ⟨rfl, n, rfl⟩)
    go_ret2
    exact ⟨rfl, below_drew' _ _⟩
  · rw [cellsF_t hg]
    have G := (good_iff xs).1 hg
    have hn := G.len
    have HG := hid hg; clear hg
    go_enter Try.func60, Try.ntmps60
    go_wp2_with (first | (go_at_call 80; refine (ptGood_b _ _ _ _ hl hc _ HG.out).mono ?_; rintro e w' ⟨rfl, n, rfl⟩) | (go_at_call 109; refine (ptSum_any _ _ _ _ hn G.b1000 (by exact hc)).mono ?_; rintro e w' ⟨rfl, rfl⟩))
    go_ret2
    exact ⟨rfl, below_drew' _ _⟩
set_option maxHeartbeats 400000 in
theorem impl_CellsOf (A : Option Addr) (c : Nat) (xs : List Int) (w : World) (hl : xs.length ≤ 1048576) (hc : Cells w A xs) :
    Calls Try.prog 35 #[.slice A xs.length c] w fun e w' => e = .returned (.tuple #[.int .i64 (cellsF xs), .bool (good xs)]) ∧ Below w.heap.size w w' := by
  cases hg : good xs
  · rw [cellsF_f hg]
    have HG := hid hg; clear hg
    go_enter Try.func35, Try.ntmps35
    go_wp2_with (go_at_call 34; refine (IsPartition_b _ _ _ _ hl hc _ HG.out).mono ?_; rintro e w' ⟨rfl, rfl⟩)
    go_ret2
    exact ⟨rfl, Below.refl _ _⟩
  · rw [cellsF_t hg]
    have G := (good_iff xs).1 hg
    have hn := G.len
    have HG := hid hg; clear hg
    go_enter Try.func35, Try.ntmps35
    go_wp2_with (first | (go_at_call 34; refine (IsPartition_b _ _ _ _ hl hc _ HG.out).mono ?_; rintro e w' ⟨rfl, rfl⟩) | (go_at_call 88; refine (cellCount_any _ _ _ _ hn G.b1000 hc).mono ?_; rintro e w' ⟨rfl, rfl⟩))
    go_ret2
    exact ⟨rfl, Below.refl _ _⟩
end Go.Proofs.Ythlkfkcaaimceaa
