/-
  Contracts: RankPartition of the model.
-/
import Derived.Test.YtnpkfndopicdiaaRank
namespace Go.Proofs.Ytnpkfndopicdiaa
open Go.RowKit

/-- The model's table stands at A: row m, column j holds T m j. -/
structure RowsAt (w : World) (b o : Nat) (P : Nat → Option Addr) (C : Nat → Nat) (N : Nat) : Prop where
  top : ∀ m, m ≤ N → w.cell? ⟨b, o + m, none⟩ = some (.slice (P m) (N + 1) (C m))
  row : ∀ m, m ≤ N → ∃ b' o', P m = some ⟨b', o', none⟩ ∧ ∀ j, j ≤ N → w.cell? ⟨b', o' + j, none⟩ = some (.int .i64 (T m j))
theorem RowsAt.of {w : World} {B S : Nat} {A : Option Addr} {c N : Nat} (h : Own2 w B S A c (rowsT N (N + 1))) : ∃ b o P C, A = some ⟨b, o, none⟩ ∧ RowsAt w b o P C N := by
  obtain ⟨P, C, h1, h2⟩ := h.cells
  rw [rowsT_len] at h1 h2
  obtain ⟨b, o, rfl, hcc⟩ := h1 (by omega)
  refine ⟨b, o, P, C, rfl, fun m hm => ?_, fun m hm => ?_⟩
  · have hck := hcc m (by omega)
    rw [rowsT_get N (N + 1) m (by omega), rowF_len] at hck
    exact hck
  · have hrow := h2 m (by omega)
    rw [rowsT_get N (N + 1) m (by omega)] at hrow
    obtain ⟨b3, o3, e3, _⟩ := hrow.get (j := 0) (by rw [rowF_len]; omega)
    refine ⟨b3, o3, e3, fun j hj => ?_⟩
    obtain ⟨b4, o4, e4, h4⟩ := hrow.get (j := j) (by rw [rowF_len]; omega)
    rw [e3] at e4
    cases e4
    rw [tF_get m N j (by omega)] at h4
    exact h4
theorem RowsAt.drewN {w : World} {b o : Nat} {P : Nat → Option Addr} {C : Nat → Nat} {N : Nat} (h : RowsAt w b o P C N) (n : Nat) : RowsAt (w.drewN n) b o P C N := ⟨h.top, h.row⟩
theorem RowsAt.below {w w' : World} {b o : Nat} {P : Nat → Option Addr} {C : Nat → Nat} {N : Nat} (h : RowsAt w b o P C N) (hb : Below w.heap.size w w') : RowsAt w' b o P C N := by
  refine ⟨fun m hm => ?_, fun m hm => ?_⟩
  · have := h.top m hm
    rw [← this]; exact World.cell?_of_block (w := w) (hb.block _ (World.block_lt_of_cell? w _ this))
  · obtain ⟨b', o', e, hj⟩ := h.row m hm
    refine ⟨b', o', e, fun j hjn => ?_⟩
    have := hj j hjn
    rw [← this]; exact World.cell?_of_block (w := w) (hb.block _ (World.block_lt_of_cell? w _ this))

set_option maxHeartbeats 400000 in
theorem l1Least_any (a b : Nat) (w : World) :
    Calls Try.prog 231 #[.int .i64 a, .int .i64 b] w fun e w' => e = .returned (.int .i64 ((min a b : Nat) : Int)) ∧ w' = w := by
  by_cases h : a < b
  · rw [Nat.min_eq_left (by omega)]
    have h' : (a : Int) < b := by omega
    clear h
    go_enter Try.func231, Try.ntmps231
    go_wp2
    go_ret
    exact ⟨rfl, rfl⟩
  · rw [Nat.min_eq_right (by omega)]
    have h' : ¬ ((a : Int) < b) := by omega
    clear h
    go_enter Try.func231, Try.ntmps231
    go_wp2
    go_ret
    exact ⟨rfl, rfl⟩

end Go.Proofs.Ytnpkfndopicdiaa
