/-
  Contracts: PentagonalAt on both sides.
-/
import Derived.Test.YtphfmlfojebjkaaCB
namespace Go.Proofs.Ytphfmlfojebjkaa
open Go.RowKit

def pntB (k : Int) : Bool := inB (-1000) 1000 k
def pnt (k : Int) : Int := (k * (3 * k - 1)).tdiv 2
def pntF (k : Int) : Int := if pntB k then pnt k else 0
theorem pntF_t {k : Int} (h : pntB k = true) : pntF k = pnt k := by simp [pntF, h]
theorem pntF_f {k : Int} (h : pntB k = false) : pntF k = 0 := by simp [pntF, h]
theorem pnt_prod {k : Int} (h : -1000 ≤ k ∧ k ≤ 1000) : 0 ≤ k * (3 * k - 1) ∧ k * (3 * k - 1) ≤ 4000000 := by
  have h1 : k * (3 * k - 1) = 3 * (k * k) - k := by grind
  have h2 : 0 ≤ k * k := by
    rcases Int.le_total 0 k with h | h
    · exact Int.mul_nonneg h h
    · exact Int.mul_nonneg_of_nonpos_of_nonpos h h
  have h3 : k * k ≤ 1000000 := by
    have := Int.mul_nonneg (show 0 ≤ 1000 - k by omega) (show 0 ≤ 1000 + k by omega)
    have e : (1000 - k) * (1000 + k) = 1000000 - k * k := by grind
    omega
  have h4 : k ≤ 0 ∨ 1 ≤ k := by omega
  refine ⟨?_, by omega⟩
  rcases h4 with h4 | h4
  · exact Int.mul_nonneg_of_nonpos_of_nonpos h4 (by omega)
  · exact Int.mul_nonneg (by omega) (by omega)
theorem pnt_bd {k : Int} (h : -1000 ≤ k ∧ k ≤ 1000) : 0 ≤ pnt k ∧ pnt k ≤ 4000000 := by
  have := pnt_prod h
  unfold pnt
  rw [Int.tdiv_eq_ediv_of_nonneg this.1]
  omega

set_option maxHeartbeats 400000 in
theorem pentagonal_any (k : Int) (w : World) (h : -1000 ≤ k ∧ k ≤ 1000) :
    Calls Try.prog 25 #[.int .i64 k] w fun e w' => e = .returned (.int .i64 (pnt k)) ∧ w = w' := by
  have hp := pnt_prod h
  have hb := pnt_bd h
  unfold pnt at hb ⊢
  go_enter Try.func25, Try.ntmps25
  go_wp2_with fail
  go_ret
  exact ⟨rfl, rfl⟩
set_option maxHeartbeats 400000 in
theorem impl_PentagonalAt (k : Int) (w : World) (_hn : I64 k) :
    Calls Try.prog 11 #[.int .i64 k] w fun e w' => e = .returned (.tuple #[.int .i64 (pntF k), .bool (pntB k)]) ∧ Below w.heap.size w w' := by
  cases h : pntB k
  · rw [pntF_f h]
    have h' : ¬ (-1000 ≤ k ∧ k ≤ 1000) := fun hh => by have := inB_iff.2 hh; unfold pntB at h; rw [h] at this; cases this
    clear h
    by_cases h0 : k < -1000
    · go_enter Try.func11, Try.ntmps11
      go_wp2_with fail
      go_ret2
      exact ⟨rfl, Below.refl _ _⟩
    · have h1 : 1000 < k := by omega
      clear h'
      go_enter Try.func11, Try.ntmps11
      go_wp2_with fail
      go_ret2
      exact ⟨rfl, Below.refl _ _⟩
  · rw [pntF_t h]
    have hh := inB_iff.1 h
    have HP := hid (pentagonal_any k w hh)
    clear h
    obtain ⟨h1, h2⟩ := hh
    go_enter Try.func11, Try.ntmps11
    go_wp2_with (go_at_call 25; refine HP.out.mono ?_; rintro e w' ⟨rfl, rfl⟩)
    go_ret2
    exact ⟨rfl, Below.refl _ _⟩
end Go.Proofs.Ytphfmlfojebjkaa
