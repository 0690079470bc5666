/-
  Contracts: steps along the border (places, letters).
-/
import Derived.Test.YtaonkebjakanjaaCB
import Derived.Deep.RegionHeld3
import Derived.Laws.Rows
namespace Go.Proofs.Ytaonkebjakanjaa
open Go.RowKit

set_option maxHeartbeats 400000 in
theorem up_any (r : Int) (k : Nat) (w : World) (hr : -1000 ≤ r) (hr2 : r ≤ 1000) : Calls Try.prog 44 #[.agg #[.int .i64 r, .int .i64 k]] w fun e w' => e = .returned (.agg #[.int .i64 (r - 1), .int .i64 k]) ∧ Below w.heap.size w w' := by
  have hwra : IntKind.i64.wrap (r - 1) = r - 1 := by rw [IntWalk.i64_in _ (by omega)]
  go_enter Try.func44, Try.ntmps44
  go_wp2
  refine bodyPost_ret (v := .agg #[.int .i64 (r - 1), .int .i64 k]) ?_ rfl ⟨rfl, ((Below.refl _ _).alloc (Nat.le_refl _) _).alloc (by simp) _⟩
  exact results_cell_row rfl _ _ (w.heap.size + 1) 42 #[.int .i64 (r - 1), .int .i64 k] (0, 0) _ rfl (by simpa using heap_alloc_new (w.alloc (.cells #[.int .i64 r, .int .i64 k] 42)) (.cells #[.int .i64 (r - 1), .int .i64 k] 42)) Try.underlying42 rfl (by kernel_rfl)
set_option maxHeartbeats 400000 in
theorem right_any (r k : Nat) (w : World) (hk : k ≤ 1000) : Calls Try.prog 45 #[.agg #[.int .i64 r, .int .i64 k]] w fun e w' => e = .returned (.agg #[.int .i64 r, .int .i64 (k + 1 : Nat)]) ∧ Below w.heap.size w w' := by
  have hwka : IntKind.i64.wrap ((k : Int) + 1) = ((k + 1 : Nat) : Int) := by rw [IntWalk.i64_in _ (by omega)]; omega
  go_enter Try.func45, Try.ntmps45
  go_wp2
  refine bodyPost_ret (v := .agg #[.int .i64 r, .int .i64 (k + 1 : Nat)]) ?_ rfl ⟨rfl, ((Below.refl _ _).alloc (Nat.le_refl _) _).alloc (by simp) _⟩
  exact results_cell_row rfl _ _ (w.heap.size + 1) 42 #[.int .i64 r, .int .i64 (k + 1 : Nat)] (0, 0) _ rfl (by simpa using heap_alloc_new (w.alloc (.cells #[.int .i64 r, .int .i64 k] 42)) (.cells #[.int .i64 r, .int .i64 (k + 1 : Nat)] 42)) Try.underlying42 rfl (by kernel_rfl)
set_option maxHeartbeats 400000 in
theorem stepOf_any (c : Int) (w : World) : Calls Try.prog 28 #[.int .u8 c] w fun e w' => e = .returned (if c = 85 then .func (.func 44) #[] #[] else if c = 82 then .func (.func 45) #[] #[] else .nilFunc) ∧ w = w' := by
  by_cases h1 : c = 85
  · subst h1
    go_enter Try.func28, Try.ntmps28
    go_wp2
    go_ret
    exact ⟨rfl, rfl⟩
  by_cases h2 : c = 82
  · subst h2
    go_enter Try.func28, Try.ntmps28
    go_wp2
    go_ret
    exact ⟨rfl, rfl⟩
  · rw [if_neg h1, if_neg h2]
    go_enter Try.func28, Try.ntmps28
    go_wp2
    go_ret
    exact ⟨rfl, rfl⟩
set_option maxHeartbeats 400000 in
theorem letterAt_any (A : Option Addr) (c : Nat) (xs : List Int) (r k : Nat) (w : World) (hr : 1 ≤ r) (hrl : r ≤ xs.length) (hl : xs.length ≤ 1000) (hc : Cells w A xs) :
    Calls Try.prog 26 #[.slice A xs.length c, .agg #[.int .i64 r, .int .i64 k]] w fun e w' => e = .returned (.int .u8 (if (k : Int) = xs.getD (r - 1) 0 then 85 else 82)) ∧ Below w.heap.size w w' := by
  obtain ⟨wa, hwa⟩ : ∃ wa, wa = w.alloc (.cells #[.int .i64 r, .int .i64 k] 42) := ⟨_, rfl⟩
  have hba : Below w.heap.size w wa := by rw [hwa]; exact (Below.refl _ _).alloc (Nat.le_refl _) _
  obtain ⟨b, o, rfl, hck⟩ := (hc.below hba).get (j := r - 1) (by omega)
  have h0 : wa.cell? ⟨w.heap.size, 0, none⟩ = some (.int .i64 r) := by rw [hwa, cell_of_row _ w.heap.size 0 #[.int .i64 r, .int .i64 k] 42 (0, 0) (heap_alloc_new w _)]; rfl
  have h1 : wa.cell? ⟨w.heap.size, 1, none⟩ = some (.int .i64 k) := by rw [hwa, cell_of_row _ w.heap.size 1 #[.int .i64 r, .int .i64 k] 42 (0, 0) (heap_alloc_new w _)]; rfl
  obtain ⟨x, hx⟩ : ∃ x, x = xs.getD (r - 1) 0 := ⟨_, rfl⟩
  rw [← hx] at hck ⊢
  clear hx
  have HWA := hid hwa; clear hwa
  have hwr : IntKind.i64.wrap ((r : Int) - 1) = ((r - 1 : Nat) : Int) := by rw [IntWalk.i64_in _ (by omega)]; omega
  have hlt : ((r - 1 : Nat) : Int) < xs.length := by omega
  by_cases h : (k : Int) = x
  · rw [if_pos h]
    have hb : ((k : Int) == x) = true := beq_iff_eq.2 h
    have HH := hid h; clear h
    go_enter Try.func26, Try.ntmps26
    go_wp2_with fail
    rw [← HWA.out]
    go_quiet (fail)
    go_wp2_with fail
    go_ret
    exact ⟨rfl, below_drewN hba _⟩
  · rw [if_neg h]
    have hb : ((k : Int) == x) = false := beq_eq_false_iff_ne.2 h
    have HH := hid h; clear h
    go_enter Try.func26, Try.ntmps26
    go_wp2_with fail
    rw [← HWA.out]
    go_quiet (fail)
    go_wp2_with fail
    go_ret
    exact ⟨rfl, below_drewN hba _⟩
end Go.Proofs.Ytaonkebjakanjaa
