/-
  What spreads are asked for, on both sides, and the rows that are counted.
-/
import Derived.Test.YtphfmlfojebjkaaCH
import Derived.Test.YtphfmlfojebjkaaAllF
import Derived.Test.YtphfmlfojebjkaaPaMath
import Derived.Test.YtphfmlfojebjkaaCrk
import Derived.Test.YtphfmlfojebjkaaSpr
namespace Go.Proofs.Ytphfmlfojebjkaa
open Go.RowKit

def spB (n : Int) : Bool := inB 1 30 n
theorem spB_nat {n : Int} (h : spB n = true) : ∃ m : Nat, n = m ∧ 1 ≤ m ∧ m ≤ 30 := by
  have := inB_iff.1 h
  exact ⟨n.toNat, by omega, by omega, by omega⟩
set_option maxHeartbeats 400000 in
theorem rkSpread_b (n : Int) (w : World) (b : Bool) (h : spB n = b) : Calls Try.prog 23 #[.int .i64 n] w fun e w' => e = .returned (.bool b) ∧ w = w' := by
  go_enter Try.func23, Try.ntmps23
  go_wp2_with (go_at_call 32; refine (l1In_b _ _ _ _ _ h).mono ?_; rintro e w' ⟨rfl, rfl⟩)
  go_ret
  exact ⟨rfl, rfl⟩
/-- All partitions of m, in order. -/
def prt (m : Nat) : List (List Int) := lst m m (T m m)
theorem prt_len {m : Nat} (h : m ≤ 30) : (prt m).length ≤ 5604 := by
  have := T_bound m (by omega) m (by omega)
  rw [prt, lst_len]; exact this
theorem prt_row {m : Nat} (hm : m ≤ 30) {k : Nat} (hk : k < (prt m).length) : Good ((prt m).getD k []) ∧ ((prt m).getD k []).sum = m := by
  unfold prt at hk ⊢
  rw [lst_len] at hk
  rw [lst_get m m _ k hk]
  exact pa_good hm hk
theorem prt_pos {m : Nat} (h1 : 1 ≤ m) (hm : m ≤ 30) {k : Nat} (hk : k < (prt m).length) : 0 < ((prt m).getD k []).length := by
  have := (prt_row hm hk).2
  rcases Nat.eq_zero_or_pos ((prt m).getD k []).length with h | h
  · rw [List.eq_nil_of_length_eq_zero h] at this
    simp at this; omega
  · exact h
theorem rkV_bd {p : List Int} (G : Good p) (h : 0 < p.length) : -30 ≤ rkV p ∧ rkV p ≤ 30 := by
  have := G.len; have := G.le 0 h; have := G.pos 0 h
  unfold rkV; omega
theorem listPrt (m : Nat) (w : World) (hm : m ≤ 30) : Calls Try.prog 31 #[.int .i64 m] w fun e w' => ∃ A' c', e = .returned (.slice A' (prt m).length c') ∧ Own2 w' w.heap.size w'.heap.size A' c' (prt m) ∧ Below w.heap.size w w' := listPartitions_30 m w hm
theorem allPrt (m : Nat) (w : World) (hm : m ≤ 30) : Calls Try.prog 24 #[.int .i64 m, .int .i64 m] w fun e w' => ∃ A' c', e = .returned (.slice A' (prt m).length c') ∧ Own2 w' w.heap.size w'.heap.size A' c' (prt m) ∧ Below w.heap.size w w' :=
  ptAll_any m m m w (Nat.le_refl _) hm hm
end Go.Proofs.Ytphfmlfojebjkaa
