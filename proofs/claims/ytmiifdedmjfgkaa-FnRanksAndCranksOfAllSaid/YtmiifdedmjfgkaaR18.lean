/-
  Several texts in one.
-/
import Derived.Test.YtmiifdedmjfgkaaBase2
import Derived.Maps.Own
import Derived.Maps.OwnSet
import Derived.Test.YtmiifdedmjfgkaaCH
import Derived.Test.YtmiifdedmjfgkaaR16
import Derived.Test.YtmiifdedmjfgkaaR17
import Derived.Test.YtmiifdedmjfgkaaR05
/-
  Maps that count values.
-/
namespace Go.Proofs.Ytmiifdedmjfgkaa
open Go.RowKit Go.Maps

/-- How often x is met among the first k values. -/
def cntV {α : Type} [DecidableEq α] (V : Nat → α) (x : α) : Nat → Nat
  | 0 => 0
  | k + 1 => cntV V x k + if V k = x then 1 else 0
theorem cntV_yes {α : Type} [DecidableEq α] {V : Nat → α} {x : α} {k : Nat} (h : V k = x) : cntV V x (k + 1) = cntV V x k + 1 := by simp [cntV, h]
theorem cntV_no {α : Type} [DecidableEq α] {V : Nat → α} {x : α} {k : Nat} (h : ¬ V k = x) : cntV V x (k + 1) = cntV V x k := by simp [cntV, h]
theorem cntV_le {α : Type} [DecidableEq α] (V : Nat → α) (x : α) : ∀ k, cntV V x k ≤ k
  | 0 => Nat.le_refl _
  | k + 1 => by have := cntV_le V x k; rw [cntV]; split <;> omega
theorem lit_injI {a b : Int} (h : (DataW.lit (H := Unit) (.int .i64 a)) = .lit (.int .i64 b)) : a = b := by
  injection h with h; injection h
theorem cells2_below {w w' : World} {A : Option Addr} {rows : List (List Int)} (h : Cells2 w A rows) (hb : Below w.heap.size w w') : Cells2 w' A rows := by
  obtain ⟨P, C, h1, h2⟩ := h
  refine ⟨P, C, fun hp => ?_, fun j hj => (h2 j hj).later hb⟩
  obtain ⟨b, o, rfl, hc⟩ := h1 hp
  exact ⟨b, o, rfl, fun j hj => (hb.cell (World.block_lt_of_cell? w _ (hc j hj))).trans (hc j hj)⟩
end Go.Proofs.Ytmiifdedmjfgkaa
/-
  What spreads are asked for, on both sides, and the rows that are counted.
-/
namespace Go.Proofs.Ytmiifdedmjfgkaa
open Go.RowKit

def spB (n : Int) : Bool := inB 1 30 n
theorem spB_nat {n : Int} (h : spB n = true) : ∃ m : Nat, n = m ∧ 1 ≤ m ∧ m ≤ 30 := by
  have := inB_iff.1 h
  exact ⟨n.toNat, by omega, by omega, by omega⟩
set_option maxHeartbeats 400000 in
theorem rkSpread_b (n : Int) (w : World) (b : Bool) (h : spB n = b) : Calls Try.prog 33 #[.int .i64 n] w fun e w' => e = .returned (.bool b) ∧ w = w' := by
  go_enter Try.func33, Try.ntmps33
  go_wp2_with (go_at_call 34; refine (l1In_b _ _ _ _ _ h).mono ?_; rintro e w' ⟨rfl, rfl⟩)
  go_ret
  exact ⟨rfl, rfl⟩
set_option maxHeartbeats 1000000 in
theorem isSpread_b (n : Int) (w : World) (b : Bool) (h : spB n = b) : Calls Try.prog 30 #[.int .i64 n] w fun e w' => e = .returned (.bool b) ∧ w = w' := by
  subst h
  by_cases h0 : 1 ≤ n
  · by_cases h1 : n ≤ 30
    · go_enter Try.func30, Try.ntmps30
      go_wp2_with fail
      go_ret
      exact ⟨ret_bool (by simp [spB, inB, h0, h1]), rfl⟩
    · go_enter Try.func30, Try.ntmps30
      go_wp2_with fail
      go_ret
      exact ⟨ret_bool (by simp [spB, inB]; omega), rfl⟩
  · go_enter Try.func30, Try.ntmps30
    go_wp2_with fail
    go_ret
    exact ⟨ret_bool (by simp [spB, inB]; omega), rfl⟩

/-- All partitions of m, in order. -/
def prt (m : Nat) : List (List Int) := lst m m (T m m)
theorem prt_len {m : Nat} (h : m ≤ 30) : (prt m).length ≤ 5604 := by
  have := T_bound m (by omega) m (by omega)
  rw [prt, lst_len]; exact this
theorem prt_row {m : Nat} (hm : m ≤ 30) {k : Nat} (hk : k < (prt m).length) : Good ((prt m).getD k []) ∧ ((prt m).getD k []).sum = m := by
  unfold prt at hk ⊢
  rw [lst_len] at hk
  rw [lst_get m m _ k hk]
  exact pa_good hm hk
theorem prt_pos {m : Nat} (h1 : 1 ≤ m) (hm : m ≤ 30) {k : Nat} (hk : k < (prt m).length) : 0 < ((prt m).getD k []).length := by
  have := (prt_row hm hk).2
  rcases Nat.eq_zero_or_pos ((prt m).getD k []).length with h | h
  · rw [List.eq_nil_of_length_eq_zero h] at this
    simp at this; omega
  · exact h
theorem rkV_bd {p : List Int} (G : Good p) (h : 0 < p.length) : -30 ≤ rkV p ∧ rkV p ≤ 30 := by
  have := G.len; have := G.le 0 h; have := G.pos 0 h
  unfold rkV; omega
theorem listPrt (m : Nat) (w : World) (hm : m ≤ 30) : Calls Try.prog 32 #[.int .i64 m] w fun e w' => ∃ A' c', e = .returned (.slice A' (prt m).length c') ∧ Own2 w' w.heap.size w'.heap.size A' c' (prt m) ∧ Below w.heap.size w w' := listPartitions_30 m w hm
theorem allPrt (m : Nat) (w : World) (hm : m ≤ 30) : Calls Try.prog 23 #[.int .i64 m, .int .i64 m] w fun e w' => ∃ A' c', e = .returned (.slice A' (prt m).length c') ∧ Own2 w' w.heap.size w'.heap.size A' c' (prt m) ∧ Below w.heap.size w w' :=
  ptAll_any m m m w (Nat.le_refl _) hm hm
end Go.Proofs.Ytmiifdedmjfgkaa
