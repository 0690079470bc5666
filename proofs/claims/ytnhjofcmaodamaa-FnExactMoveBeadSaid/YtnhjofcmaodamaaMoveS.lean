/-
  Contracts: MoveBead of the model.
-/
import Derived.Test.YtnhjofcmaodamaaMove
namespace Go.Proofs.Ytnhjofcmaodamaa
open Go.RowKit

set_option maxRecDepth 100000 in
set_option maxHeartbeats 8000000 in
theorem spec_MoveBead (r : Int) (A : Option Addr) (c : Nat) (xs : List Int) (a : Int) (w : World) (hl : xs.length ≤ 1048576) (hc : Cells w A xs) (_ : I64 a) :
    Calls Try.prog 25 #[.agg #[.int .i64 r, .slice A xs.length c], .int .i64 a] w fun e w' => ∃ A' c', e = .returned (.tuple #[.agg #[.int .i64 (mbR r xs a), .slice A' (mbF r xs a).length c'], .int .i64 (mbN r xs a), .bool (mbB r xs a)]) ∧ Own w' w.heap.size A' c' (mbF r xs a) ∧ Below w.heap.size w w' := by
  obtain ⟨w0, hw0⟩ : ∃ w0, w0 = (w.alloc (.cells #[.int .i64 r, .slice A xs.length c] 26)).alloc (.cells #[.int .i64 0, .slice none 0 0] 26) := ⟨_, rfl⟩
  have y0 : Box2 w0 w.heap.size 26 (.int .i64 r) (.slice A xs.length c) := by rw [hw0]; exact (Box2.new w _ _ _).alloc _
  have z0 : Box2 w0 (w.heap.size + 1) 26 (.int .i64 0) (.slice none 0 0) := by
    rw [hw0]; have h := Box2.new (w.alloc (.cells #[.int .i64 r, .slice A xs.length c] 26)) 26 (.int .i64 0) (.slice none 0 0); rw [World.size_alloc] at h; exact h
  have b0 : Below w.heap.size w w0 := by rw [hw0]; exact ((Below.refl _ _).alloc (Nat.le_refl _) _).alloc (by simp) _
  have hs0 : w0.heap.size = w.heap.size + 1 + 1 := by rw [hw0]; simp
  have h0 := y0.cell0
  have h1 := y0.cell1
  rw [hw0] at h0 h1
  have HW := hid hw0
  have HY := hid y0; have HZ := hid z0
  clear hw0 y0 z0
  cases hab : isAba r xs
  · obtain ⟨e1, e2, e4⟩ := mb_no (r := r) (xs := xs) (a := a) (by simp [mbB, hab])
    rw [e1, e2, e4, show mbB r xs a = false by simp [mbB, hab]]
    have HA := hid hab
    clear hab e1 e2 e4
    go_enter Try.func25, Try.ntmps25
    go_wp2_with fail
    rw [← HW.out]
    refine (abIs_b _ A c xs w0 hl (hc.below b0) _ HA.out).mono ?_
    rintro e w1 ⟨rfl, b1⟩
    have B1 := Below.next b0 b1
    clear h0 h1
    have z1 := HZ.out.next b1
    have f1 := z1.cell0
    have f2 := z1.froz 0
    have z2 := z1.set0 (.int .i64 0)
    have f3 := z2.cell1
    have f4 := z2.froz 1
    have Z3 := hid (z2.set1 (.slice none 0 0))
    clear z1 z2
    go_wp2_with fail
    refine bodyPost_ret (results_cell3 rfl _ _ _ (w.heap.size + 1) 26 #[.int .i64 0, .slice none 0 0] (0, 0) _ rfl Z3.out Try.underlying26 rfl (by kernel_rfl)) rfl ⟨none, 0, rfl, own_nil _ _, (B1.setCell (by simp) _).setCell (by simp) _⟩
  have HA := hid hab
  have hab2 := hab
  simp only [isAba, Bool.and_eq_true] at hab2
  have ht := inB_iff.1 hab2.1
  obtain ⟨t, rfl⟩ : ∃ t : Nat, r = t := ⟨r.toNat, by omega⟩
  have ht2 : 2 ≤ t ∧ t ≤ 6 := by omega
  have GB := hid (goodB_iff.1 hab2.2)
  have hlen := GB.out.len
  have HLF := hid (show mbB t xs a = canGo xs a (a - t) by simp [mbB, hab])
  clear hab hab2
  cases hi : inB t 1000 a
  · have hcg : canGo xs a (a - t) = false := by
      cases h : canGo xs a (a - t)
      · rfl
      · exfalso
        simp only [canGo, Bool.and_eq_true, decide_eq_true_eq] at h
        obtain ⟨j, hj, e⟩ := mem_getD.1 h.1
        have h3 := GB.out.top hj
        have h4 : inB t 1000 a = true := inB_iff.2 (by omega)
        rw [hi] at h4; cases h4
    obtain ⟨e1, e2, e4⟩ := mb_no (r := t) (xs := xs) (a := a) (by rw [HLF.out, hcg])
    have e3 : mbB t xs a = false := by rw [HLF.out, hcg]
    rw [e1, e2, e4, e3]
    have HI := hid hi
    clear hi hcg e1 e2 e3 e4
    go_enter Try.func25, Try.ntmps25
    go_wp2_with fail
    rw [← HW.out]
    refine (abIs_b _ A c xs w0 hl (hc.below b0) _ HA.out).mono ?_
    rintro e w1 ⟨rfl, b1⟩
    have B1 := Below.next b0 b1
    clear h0 h1
    have h2 := (HY.out.next b1).cell0
    go_wp2_with fail
    refine (l1In_b _ _ _ _ _ HI.out).mono ?_
    rintro e w2 ⟨rfl, rfl⟩
    clear h2
    have z1 := HZ.out.next b1
    have f1 := z1.cell0
    have f2 := z1.froz 0
    have z2 := z1.set0 (.int .i64 0)
    have f3 := z2.cell1
    have f4 := z2.froz 1
    have Z3 := hid (z2.set1 (.slice none 0 0))
    clear z1 z2
    go_wp2_with fail
    refine bodyPost_ret (results_cell3 rfl _ _ _ (w.heap.size + 1) 26 #[.int .i64 0, .slice none 0 0] (0, 0) _ rfl Z3.out Try.underlying26 rfl (by kernel_rfl)) rfl ⟨none, 0, rfl, own_nil _ _, (B1.setCell (by simp) _).setCell (by simp) _⟩
  have ha := inB_iff.1 hi
  have HI := hid hi
  clear hi
  cases hcg : canGo xs a (a - t)
  · obtain ⟨e1, e2, e4⟩ := mb_no (r := t) (xs := xs) (a := a) (by rw [HLF.out, hcg])
    have e3 : mbB t xs a = false := by rw [HLF.out, hcg]
    rw [e1, e2, e4, e3]
    have HC := hid hcg
    clear hcg e1 e2 e3 e4
    go_enter Try.func25, Try.ntmps25
    go_wp2_with fail
    rw [← HW.out]
    refine (abIs_b _ A c xs w0 hl (hc.below b0) _ HA.out).mono ?_
    rintro e w1 ⟨rfl, b1⟩
    have B1 := Below.next b0 b1
    clear h0 h1
    have HY1 := hid (HY.out.next b1); have HZ1 := hid (HZ.out.next b1)
    have h2 := HY1.out.cell0
    have h3 := HY1.out.cell1
    go_wp2_with fail
    refine (l1In_b _ _ _ _ _ HI.out).mono ?_
    rintro e w2 ⟨rfl, rfl⟩
    go_wp2_with fail
    refine (abCan_any _ _ _ xs a _ w1 hl (hc.below B1) false HC.out).mono ?_
    rintro e w3 ⟨rfl, b3⟩
    clear h2 h3
    have z1 := HZ1.out.next b3
    have f1 := z1.cell0
    have f2 := z1.froz 0
    have z2 := z1.set0 (.int .i64 0)
    have f3 := z2.cell1
    have f4 := z2.froz 1
    have Z3 := hid (z2.set1 (.slice none 0 0))
    clear z1 z2
    go_wp2_with fail
    refine bodyPost_ret (results_cell3 rfl _ _ _ (w.heap.size + 1) 26 #[.int .i64 0, .slice none 0 0] (0, 0) _ rfl Z3.out Try.underlying26 rfl (by kernel_rfl)) rfl ⟨none, 0, rfl, own_nil _ _, ((Below.next B1 b3).setCell (by simp) _).setCell (by simp) _⟩
  have hcg2 := hcg
  simp only [canGo, Bool.and_eq_true, decide_eq_true_eq, Bool.not_eq_true', decide_eq_false_iff_not] at hcg2
  have hnd := mvL_nodup (a := a) (pw_nodup (rise_pw GB.out.rise.up)) hcg2.2.2
  have hml := mb_len GB.out hcg
  have e3 : mbB t xs a = true := by rw [HLF.out, hcg]
  obtain ⟨e1, e2, e4⟩ := mb_yes e3
  rw [e1, e2, e4, e3, hml]
  have HC := hid hcg
  obtain ⟨R, hR⟩ : ∃ R, R = insF (mvL a (a - t) xs) := ⟨_, rfl⟩
  obtain ⟨rN, hrN⟩ : ∃ rN, rN = btN xs (a - t) a xs.length := ⟨_, rfl⟩
  have hpt := fun W (h : Cells W A xs) => abPut_any t A c xs a (a - t) W hlen h hnd
  have hbt := fun W (h : Cells W A xs) => abBetween_any t A xs c (a - t) a W (by omega) h
  rw [← hR] at hml hpt ⊢
  rw [← hrN] at hbt ⊢
  have HPT := hid hpt
  have HBT := hid hbt
  have HML := hid hml
  have hwa : IntKind.i64.wrap (a - t) = a - t := IntWalk.i64_in _ (by omega)
  clear hcg hcg2 hnd hR hrN hpt hbt hml e1 e2 e3 e4
  go_enter Try.func25, Try.ntmps25
  go_wp2_with fail
  rw [← HW.out]
  refine (abIs_b _ A c xs w0 hl (hc.below b0) _ HA.out).mono ?_
  rintro e w1 ⟨rfl, b1⟩
  have B1 := Below.next b0 b1
  clear h0 h1
  have HY1 := hid (HY.out.next b1); have HZ1 := hid (HZ.out.next b1)
  have h2 := HY1.out.cell0
  have h3 := HY1.out.cell1
  go_wp2_with fail
  refine (l1In_b _ _ _ _ _ HI.out).mono ?_
  rintro e w2 ⟨rfl, rfl⟩
  go_wp2_with fail
  refine (abCan_any _ _ _ xs a _ w1 hl (hc.below B1) true HC.out).mono ?_
  rintro e w3 ⟨rfl, b3⟩
  have HY3 := hid (HY1.out.next b3); have HZ3 := hid (HZ1.out.next b3)
  have B3 := Below.next B1 b3
  have hsw3 : w.heap.size + 1 + 1 ≤ w3.heap.size := by have := b1.size; have := b3.size; omega
  clear h2 h3
  go_wp2_with fail
  have h4 : w3.drew.cell? ⟨w.heap.size, 0, none⟩ = some (.int .i64 t) := HY3.out.cell0
  have h5 : w3.drew.cell? ⟨w.heap.size, 1, none⟩ = some (.slice A xs.length c) := HY3.out.cell1
  have bd := below_drew' w3 1
  have hcd : Cells w3.drew A xs := (hc.later B3).below bd
  go_region_with (first | (go_at_call 84; refine (HPT.out _ hcd).mono ?_; rintro e w8 ⟨A8, c8, rfl, o8, b8⟩; have y8 := (show Box2 w3.drew _ _ _ _ from HY3.out).next b8; have m1 := y8.cell0; have m2 := y8.cell1; have hcN := hcd.below b8; have z8 := (show Box2 w3.drew _ _ _ _ from HZ3.out).next b8) | (go_at_call 85; refine (HBT.out _ hcN).mono ?_; rintro e w9 ⟨rfl, b9⟩; have z9 := z8.next b9; have f1 := z9.cell0; have f2 := z9.froz 0; have z10 := z9.set0 (.int .i64 t); have f3 := z10.cell1; have f4 := z10.froz 1) | (go_at_call 85; refine (HBT.out _ hcd).mono ?_; rintro e w8 ⟨rfl, b8⟩; have y8 := (show Box2 w3.drew _ _ _ _ from HY3.out).next b8; have m1 := y8.cell0; have m2 := y8.cell1; have hcN := hcd.below b8; have z8 := (show Box2 w3.drew _ _ _ _ from HZ3.out).next b8) | (go_at_call 84; refine (HPT.out _ hcN).mono ?_; rintro e w9 ⟨A9, c9, rfl, o9, b9⟩; have z9 := z8.next b9; have f1 := z9.cell0; have f2 := z9.froz 0; have z10 := z9.set0 (.int .i64 t); have f3 := z10.cell1; have f4 := z10.froz 1))
  all_goals go_wp2_with fail
  all_goals first | exact bodyPost_ret (results_cell3 rfl _ _ _ (w.heap.size + 1) 26 #[.int .i64 t, .slice A8 xs.length c8] (0, 0) _ rfl (z10.set1 (.slice A8 xs.length c8)) Try.underlying26 rfl (by kernel_rfl)) rfl ⟨A8, c8, rfl, Own.more (own_of_len' (own_set_other (g := w.heap.size + 1) (k := 1) (u := .slice A8 xs.length c8) (own_set_other (g := w.heap.size + 1) (k := 0) (u := .int .i64 t) (own_at_len' (o8.below b9) HML.out) (by simp; omega)) (by simp; omega)) HML.out) (by simp; omega), ((Below.next (Below.next (below_drewN B3 1) b8) b9).setCell (by simp) _).setCell (by simp) _⟩ | exact bodyPost_ret (results_cell3 rfl _ _ _ (w.heap.size + 1) 26 #[.int .i64 t, .slice A9 xs.length c9] (0, 0) _ rfl (z10.set1 (.slice A9 xs.length c9)) Try.underlying26 rfl (by kernel_rfl)) rfl ⟨A9, c9, rfl, Own.more (own_of_len' (own_set_other (g := w.heap.size + 1) (k := 1) (u := .slice A9 xs.length c9) (own_set_other (g := w.heap.size + 1) (k := 0) (u := .int .i64 t) (own_at_len' o9 HML.out) (by have := b8.size; simp at this; omega)) (by have := b8.size; simp at this; omega)) HML.out) (by have := b8.size; simp at this; omega), ((Below.next (Below.next (below_drewN B3 1) b8) b9).setCell (by simp) _).setCell (by simp) _⟩
end Go.Proofs.Ytnhjofcmaodamaa
