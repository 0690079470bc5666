/-
  Contracts: what is a cell, of the program and of the model.
-/
import Derived.Test.YtecfkkejhfnpbaaIsPart
import Derived.Test.YtecfkkejhfnpbaaSmall
import Derived.Test.YtecfkkejhfnpbaaCellMath
namespace Go.Proofs.Ytecfkkejhfnpbaa
open Go.RowKit

theorem at_no_good {xs : List Int} {r k : Int} (h : good xs = false) : atB xs r k = false := by simp [atB, h]
theorem at_good {xs : List Int} {r k : Int} (h : good xs = true) : atB xs r k = cellB xs r k := by simp [atB, h]
theorem cell_no {xs : List Int} {r k : Int} (h : ¬ (0 ≤ r ∧ r < xs.length ∧ 0 ≤ k ∧ k < xs.getD r.toNat 0)) : cellB xs r k = false := by
  cases hcb : cellB xs r k
  · rfl
  · exact absurd (cellB_iff.1 hcb) h

set_option maxHeartbeats 1000000 in
theorem isCell_any (A : Option Addr) (c : Nat) (xs : List Int) (r k : Int) (w : World) (hl : xs.length ≤ 1048576) (hc : Cells w A xs) :
    Calls Try.prog 162 #[.slice A xs.length c, .int .i64 r, .int .i64 k] w fun e w' => e = .returned (.bool (atB xs r k)) ∧ w = w' := by
  cases hg : good xs
  · rw [at_no_good hg]
    have HG := hid hg; clear hg
    go_enter Try.func162, Try.ntmps162
    go_wp2_with (go_at_call 155; refine (IsPartition_b _ _ _ _ hl hc _ HG.out).mono ?_; rintro e w' ⟨rfl, rfl⟩)
    go_ret
    exact ⟨rfl, rfl⟩
  rw [at_good hg]
  have HG := hid hg; clear hg
  by_cases h1 : 0 ≤ r
  rotate_left
  · rw [cell_no (by omega)]
    go_enter Try.func162, Try.ntmps162
    go_wp2_with (go_at_call 155; refine (IsPartition_b _ _ _ _ hl hc _ HG.out).mono ?_; rintro e w' ⟨rfl, rfl⟩)
    go_ret
    exact ⟨rfl, rfl⟩
  by_cases h2 : r < xs.length
  rotate_left
  · rw [cell_no (by omega)]
    go_enter Try.func162, Try.ntmps162
    go_wp2_with (go_at_call 155; refine (IsPartition_b _ _ _ _ hl hc _ HG.out).mono ?_; rintro e w' ⟨rfl, rfl⟩)
    go_ret
    exact ⟨rfl, rfl⟩
  by_cases h3 : 0 ≤ k
  rotate_left
  · rw [cell_no (by omega)]
    go_enter Try.func162, Try.ntmps162
    go_wp2_with (go_at_call 155; refine (IsPartition_b _ _ _ _ hl hc _ HG.out).mono ?_; rintro e w' ⟨rfl, rfl⟩)
    go_ret
    exact ⟨rfl, rfl⟩
  obtain ⟨r', rfl⟩ : ∃ r' : Nat, r = r' := ⟨r.toNat, by omega⟩
  obtain ⟨b, o, rfl, hcc⟩ := hc (by omega)
  have hck := hcc r' (by omega)
  clear hcc
  obtain ⟨x, hxx⟩ : ∃ x, x = xs.getD r' 0 := ⟨_, rfl⟩
  have e : cellB xs r' k = decide (k < x) := by
    rw [hxx]; unfold cellB
    rw [decide_eq_true (by omega), decide_eq_true (by omega), decide_eq_true (by omega), Int.toNat_natCast]; rfl
  rw [← hxx] at hck
  rw [e]
  clear e hxx
  by_cases h4 : k < x
  · rw [decide_eq_true h4]
    go_enter Try.func162, Try.ntmps162
    go_wp2_with (go_at_call 155; refine (IsPartition_b _ _ _ _ hl hc _ HG.out).mono ?_; rintro e w' ⟨rfl, rfl⟩)
    go_ret
    exact ⟨rfl, rfl⟩
  · rw [decide_eq_false h4]
    have h4' : x ≤ k := by omega
    clear h4
    go_enter Try.func162, Try.ntmps162
    go_wp2_with (go_at_call 155; refine (IsPartition_b _ _ _ _ hl hc _ HG.out).mono ?_; rintro e w' ⟨rfl, rfl⟩)
    go_ret
    exact ⟨ret_bool (decide_eq_false (by omega)), rfl⟩
theorem isCell_b (A : Option Addr) (c : Nat) (xs : List Int) (r k : Int) (w : World) (hl : xs.length ≤ 1048576) (hc : Cells w A xs) (v : Bool) (h : atB xs r k = v) :
    Calls Try.prog 162 #[.slice A xs.length c, .int .i64 r, .int .i64 k] w fun e w' => e = .returned (.bool v) ∧ w = w' := by
  subst h; exact isCell_any A c xs r k w hl hc

theorem Cells.get {w : World} {A : Option Addr} {xs : List Int} (h : Cells w A xs) {j : Nat} (hj : j < xs.length) : ∃ b o, A = some ⟨b, o, none⟩ ∧ w.cell? ⟨b, o + j, none⟩ = some (.int .i64 (xs.getD j 0)) := by
  obtain ⟨b, o, e, hc⟩ := h (by omega)
  exact ⟨b, o, e, hc j hj⟩

end Go.Proofs.Ytecfkkejhfnpbaa
