/-
  Contracts: PushDown of the model.
-/
import Derived.Test.YtnhjofcmaodamaaAbDown
namespace Go.Proofs.Ytnhjofcmaodamaa
open Go.RowKit

set_option maxRecDepth 100000 in
set_option maxHeartbeats 8000000 in
theorem spec_PushDown (r : Int) (A : Option Addr) (c : Nat) (xs : List Int) (w : World) (hl : xs.length ≤ 1048576) (hc : Cells w A xs) :
    Calls Try.prog 31 #[.agg #[.int .i64 r, .slice A xs.length c]] w fun e w' => ∃ A' c', e = .returned (.tuple #[.agg #[.int .i64 (psR r xs), .slice A' (psF r xs).length c'], .int .i64 (psN r xs), .bool (isAba r xs)]) ∧ Own w' w.heap.size A' c' (psF r xs) ∧ Below w.heap.size w w' := by
  obtain ⟨w0, hw0⟩ : ∃ w0, w0 = (w.alloc (.cells #[.int .i64 r, .slice A xs.length c] 26)).alloc (.cells #[.int .i64 0, .slice none 0 0] 26) := ⟨_, rfl⟩
  have y0 : Box2 w0 w.heap.size 26 (.int .i64 r) (.slice A xs.length c) := by rw [hw0]; exact (Box2.new w _ _ _).alloc _
  have z0 : Box2 w0 (w.heap.size + 1) 26 (.int .i64 0) (.slice none 0 0) := by
    rw [hw0]; have h := Box2.new (w.alloc (.cells #[.int .i64 r, .slice A xs.length c] 26)) 26 (.int .i64 0) (.slice none 0 0); rw [World.size_alloc] at h; exact h
  have b0 : Below w.heap.size w w0 := by rw [hw0]; exact ((Below.refl _ _).alloc (Nat.le_refl _) _).alloc (by simp) _
  have hs0 : w0.heap.size = w.heap.size + 1 + 1 := by rw [hw0]; simp
  have h0 := y0.cell0
  have h1 := y0.cell1
  rw [hw0] at h0 h1
  have HW := hid hw0
  clear hw0
  cases hab : isAba r xs
  · obtain ⟨e1, e2, e3⟩ := ps_no hab
    rw [e1, e2, e3]
    have HA := hid hab
    clear hab e1 e2 e3
    go_enter Try.func31, Try.ntmps31
    go_wp2_with fail
    rw [← HW.out]
    refine (abIs_b _ A c xs w0 hl (hc.below b0) _ HA.out).mono ?_
    rintro e w1 ⟨rfl, b1⟩
    have z1 := z0.next b1
    have f1 := z1.cell0
    have f2 := z1.froz 0
    have z2 := z1.set0 (.int .i64 0)
    have f3 := z2.cell1
    have f4 := z2.froz 1
    have Z3 := hid (z2.set1 (.slice none 0 0))
    clear z1 z2 z0 y0
    go_wp2_with fail
    refine bodyPost_ret (results_cell3 rfl _ _ _ (w.heap.size + 1) 26 #[.int .i64 0, .slice none 0 0] (0, 0) _ rfl Z3.out Try.underlying26 rfl (by kernel_rfl)) rfl ⟨none, 0, rfl, own_nil _ _, ((Below.next b0 b1).setCell (by simp) _).setCell (by simp) _⟩
  have hab2 := hab
  simp only [isAba, Bool.and_eq_true] at hab2
  have ht := inB_iff.1 hab2.1
  obtain ⟨t, rfl⟩ : ∃ t : Nat, r = t := ⟨r.toNat, by omega⟩
  have GB := goodB_iff.1 hab2.2
  obtain ⟨e1, e2, e3⟩ := ps_yes hab
  rw [e1, e2, e3]
  have HDN := hid fun W (h : Cells W A xs) => abDown_any t A c xs W (by omega) GB.len GB.rise.bd h
  obtain ⟨rX, hrX⟩ : ∃ rX, rX = dwL t xs := ⟨_, rfl⟩
  obtain ⟨rM, hrM⟩ : ∃ rM, rM = dwM t xs := ⟨_, rfl⟩
  rw [← hrX, ← hrM] at HDN ⊢
  have HA := hid hab
  have HY := hid y0; have HZ := hid z0
  clear hab hab2 y0 z0 e1 e2 e3 hrX hrM GB ht
  go_enter Try.func31, Try.ntmps31
  go_wp2_with fail
  rw [← HW.out]
  refine (abIs_b _ A c xs w0 hl (hc.below b0) _ HA.out).mono ?_
  rintro e w1 ⟨rfl, b1⟩
  have B1 := Below.next b0 b1
  have HY1 := hid (HY.out.next b1); have HZ1 := hid (HZ.out.next b1)
  have h2 := HY1.out.cell0
  have h3 := HY1.out.cell1
  have hs1 := b1.size
  clear h0 h1
  go_wp2_with fail
  refine (HDN.out _ (hc.below B1)).mono ?_
  rintro e w5 ⟨A6, c6, rfl, o6, b6⟩
  have B5 := Below.next B1 b6
  have hs5 := b6.size
  obtain ⟨w6, hw6⟩ : ∃ w6, w6 = w5.alloc (.cells #[.int .i64 t, .slice A6 rX.length c6] 26) := ⟨_, rfl⟩
  have b56 : Below w5.heap.size w5 w6 := by rw [hw6]; exact (Below.refl _ _).alloc (Nat.le_refl _) _
  have n6 : Box2 w6 w5.heap.size 26 (.int .i64 t) (.slice A6 rX.length c6) := by rw [hw6]; exact Box2.new _ _ _ _
  have z6 := (HZ1.out.next b6).next b56
  have B6 := Below.next B5 b56
  have o7 := o6.below b56
  have m1 := n6.cell0
  have m2 := n6.cell1
  have f1 := z6.cell0
  have f2 := z6.froz 0
  have z7 := z6.set0 (.int .i64 t)
  have f3 := z7.cell1
  have f4 := z7.froz 1
  have Z8 := hid (z7.set1 (.slice A6 rX.length c6))
  have HO7 := hid (own_set_other (g := w.heap.size + 1) (k := 1) (u := .slice A6 rX.length c6) (own_set_other (g := w.heap.size + 1) (k := 0) (u := .int .i64 t) o7 (by omega)) (by omega))
  rw [hw6] at m1 m2 f1 f2 f3 f4 Z8 HO7
  have HW6 := hid hw6
  clear z6 z7 n6 hw6 o6 o7 h2 h3
  go_wp2_with fail
  refine bodyPost_ret (results_cell3 rfl _ _ _ (w.heap.size + 1) 26 #[.int .i64 t, .slice A6 rX.length c6] (0, 0) _ rfl Z8.out Try.underlying26 rfl (by kernel_rfl)) rfl ⟨A6, c6, rfl, Own.more HO7.out (by omega), ?_⟩
  rw [← HW6.out]
  exact (B6.setCell (by simp) _).setCell (by simp) _
end Go.Proofs.Ytnhjofcmaodamaa
