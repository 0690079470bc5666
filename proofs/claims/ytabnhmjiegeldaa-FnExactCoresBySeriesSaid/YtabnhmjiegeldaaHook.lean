/-
  Contract: the hook of a cell, of the program.
-/
import Derived.Test.YtabnhmjiegeldaaConjF
import Derived.Test.YtabnhmjiegeldaaIsCell
namespace Go.Proofs.Ytabnhmjiegeldaa
open Go.RowKit

set_option maxHeartbeats 1000000 in
theorem hookOf_any (A : Option Addr) (c : Nat) (xs : List Int) (B : Option Addr) (d : Nat) (ys : List Int) (r k : Nat) (w : World) (hr : r < xs.length) (hk : k < ys.length) (hl : xs.length ≤ 1048576) (hl2 : ys.length ≤ 1048576)
    (hx : 0 ≤ xs.getD r 0 ∧ xs.getD r 0 ≤ 1000) (hy : 0 ≤ ys.getD k 0 ∧ ys.getD k 0 ≤ 1000) (hc : Cells w A xs) (hd : Cells w B ys) (v : Int) (hv : v = xs.getD r 0 - k + ys.getD k 0 - r - 1) :
    Calls Try.prog 211 #[.slice A xs.length c, .slice B ys.length d, .agg #[.int .i64 r, .int .i64 k]] w fun e w' => e = .returned (.int .i64 v) ∧ Below w.heap.size w w' := by
  subst hv
  obtain ⟨b, o, rfl, hck⟩ := hc.get hr
  obtain ⟨b2, o2, rfl, hdk⟩ := hd.get hk
  obtain ⟨x, hxx⟩ : ∃ x, x = xs.getD r 0 := ⟨_, rfl⟩
  obtain ⟨y, hyy⟩ : ∃ y, y = ys.getD k 0 := ⟨_, rfl⟩
  rw [← hxx] at hck hx
  rw [← hyy] at hdk hy
  rw [← hxx, ← hyy]
  clear hxx hyy
  have hck' := (World.cell?_alloc_lt w (.cells #[.int .i64 r, .int .i64 k] 118) ⟨b, o + r, none⟩ (World.block_lt_of_cell? w _ hck)).trans hck
  have hdk' := (World.cell?_alloc_lt w (.cells #[.int .i64 r, .int .i64 k] 118) ⟨b2, o2 + k, none⟩ (World.block_lt_of_cell? w _ hdk)).trans hdk
  go_enter Try.func211, Try.ntmps211
  go_wp2_with fail
  go_quiet (fail)
  go_wp2_with fail
  go_quiet (fail)
  go_wp2_with fail
  go_ret
  exact ⟨ret_int (by omega), below_drewN ((Below.refl _ _).alloc (Nat.le_refl _) _) _⟩
end Go.Proofs.Ytabnhmjiegeldaa
