/-
  Contracts: LiftBead of the model.
-/
import Derived.Test.YtbkcefpefgklpaaLiftS
namespace Go.Proofs.Ytbkcefpefgklpaa
open Go.RowKit

theorem abIs_n (r : Int) (A : Option Addr) (c n : Nat) (xs : List Int) (w : World) (hn : xs.length = n) (hl : n ≤ 1048576) (hc : Cells w A xs) (b : Bool) (h : isAba r xs = b) :
    Calls Try.prog 36 #[.agg #[.int .i64 r, .slice A n c]] w fun e w' => e = .returned (.bool b) ∧ Below w.heap.size w w' := by
  subst hn; exact abIs_b r A c xs w hl hc b h

set_option maxRecDepth 100000 in
set_option maxHeartbeats 8000000 in
theorem spec_LiftBead (r : Int) (A : Option Addr) (c : Nat) (xs : List Int) (a : Int) (w : World) (hl : xs.length ≤ 1048576) (hc : Cells w A xs) (_ : I64 a) :
    Calls Try.prog 16 #[.agg #[.int .i64 r, .slice A xs.length c], .int .i64 a] w fun e w' => ∃ A' c', e = .returned (.tuple #[.agg #[.int .i64 (lfR r xs a), .slice A' (lfF r xs a).length c'], .bool (lfB r xs a)]) ∧ Own w' w.heap.size A' c' (lfF r xs a) ∧ Below w.heap.size w w' := by
  obtain ⟨w0, hw0⟩ : ∃ w0, w0 = (w.alloc (.cells #[.int .i64 r, .slice A xs.length c] 26)).alloc (.cells #[.int .i64 0, .slice none 0 0] 26) := ⟨_, rfl⟩
  have y0 : Box2 w0 w.heap.size 26 (.int .i64 r) (.slice A xs.length c) := by rw [hw0]; exact (Box2.new w _ _ _).alloc _
  have z0 : Box2 w0 (w.heap.size + 1) 26 (.int .i64 0) (.slice none 0 0) := by
    rw [hw0]; have h := Box2.new (w.alloc (.cells #[.int .i64 r, .slice A xs.length c] 26)) 26 (.int .i64 0) (.slice none 0 0); rw [World.size_alloc] at h; exact h
  have b0 : Below w.heap.size w w0 := by rw [hw0]; exact ((Below.refl _ _).alloc (Nat.le_refl _) _).alloc (by simp) _
  have hs0 : w0.heap.size = w.heap.size + 1 + 1 := by rw [hw0]; simp
  have h0 := y0.cell0
  have h1 := y0.cell1
  rw [hw0] at h0 h1
  have HW := hid hw0
  have HY := hid y0; have HZ := hid z0
  clear hw0 y0 z0
  cases hab : isAba r xs
  · obtain ⟨e1, e2⟩ := lf_no (r := r) (xs := xs) (a := a) (by simp [lfB, hab])
    rw [e1, e2, show lfB r xs a = false by simp [lfB, hab]]
    have HA := hid hab
    clear hab e1 e2
    go_enter Try.func16, Try.ntmps16
    go_wp2_with fail
    rw [← HW.out]
    refine (abIs_b _ A c xs w0 hl (hc.below b0) _ HA.out).mono ?_
    rintro e w1 ⟨rfl, b1⟩
    have B1 := Below.next b0 b1
    clear h0 h1
    have z1 := HZ.out.next b1
    have f1 := z1.cell0
    have f2 := z1.froz 0
    have z2 := z1.set0 (.int .i64 0)
    have f3 := z2.cell1
    have f4 := z2.froz 1
    have Z3 := hid (z2.set1 (.slice none 0 0))
    clear z1 z2
    go_wp2_with fail
    refine bodyPost_ret (results_cell2 rfl _ _ _ (w.heap.size + 1) 26 #[.int .i64 0, .slice none 0 0] (0, 0) _ rfl Z3.out Try.underlying26 rfl (by kernel_rfl)) rfl ⟨none, 0, rfl, own_nil _ _, (B1.setCell (by simp) _).setCell (by simp) _⟩
  have HA := hid hab
  have hab2 := hab
  simp only [isAba, Bool.and_eq_true] at hab2
  have ht := inB_iff.1 hab2.1
  obtain ⟨t, rfl⟩ : ∃ t : Nat, r = t := ⟨r.toNat, by omega⟩
  have ht2 : 2 ≤ t ∧ t ≤ 6 := by omega
  have GB := hid (goodB_iff.1 hab2.2)
  have hlen := GB.out.len
  have HLF := hid (show lfB t xs a = (canGo xs a (a + t) && isAba t (insF (mvL a (a + t) xs))) by simp [lfB, hab])
  clear hab hab2
  cases hi : inB 0 1000 a
  · have hcg : canGo xs a (a + t) = false := by
      cases h : canGo xs a (a + t)
      · rfl
      · exfalso
        simp only [canGo, Bool.and_eq_true, decide_eq_true_eq] at h
        obtain ⟨j, hj, e⟩ := mem_getD.1 h.1
        have h3 := GB.out.top hj
        have h4 : inB 0 1000 a = true := inB_iff.2 (by omega)
        rw [hi] at h4; cases h4
    obtain ⟨e1, e2⟩ := lf_no (r := t) (xs := xs) (a := a) (by rw [HLF.out, hcg]; rfl)
    have e3 : lfB t xs a = false := by rw [HLF.out, hcg]; rfl
    rw [e1, e2, e3]
    have HI := hid hi
    clear hi hcg e1 e2 e3
    go_enter Try.func16, Try.ntmps16
    go_wp2_with fail
    rw [← HW.out]
    refine (abIs_b _ A c xs w0 hl (hc.below b0) _ HA.out).mono ?_
    rintro e w1 ⟨rfl, b1⟩
    have B1 := Below.next b0 b1
    clear h0 h1
    go_wp2_with fail
    refine (l1In_b _ _ _ _ _ HI.out).mono ?_
    rintro e w2 ⟨rfl, rfl⟩
    have z1 := HZ.out.next b1
    have f1 := z1.cell0
    have f2 := z1.froz 0
    have z2 := z1.set0 (.int .i64 0)
    have f3 := z2.cell1
    have f4 := z2.froz 1
    have Z3 := hid (z2.set1 (.slice none 0 0))
    clear z1 z2
    go_wp2_with fail
    refine bodyPost_ret (results_cell2 rfl _ _ _ (w.heap.size + 1) 26 #[.int .i64 0, .slice none 0 0] (0, 0) _ rfl Z3.out Try.underlying26 rfl (by kernel_rfl)) rfl ⟨none, 0, rfl, own_nil _ _, (B1.setCell (by simp) _).setCell (by simp) _⟩
  have ha := inB_iff.1 hi
  have HI := hid hi
  clear hi
  cases hcg : canGo xs a (a + t)
  · obtain ⟨e1, e2⟩ := lf_no (r := t) (xs := xs) (a := a) (by rw [HLF.out, hcg]; rfl)
    have e3 : lfB t xs a = false := by rw [HLF.out, hcg]; rfl
    rw [e1, e2, e3]
    have HC := hid hcg
    clear hcg e1 e2 e3
    go_enter Try.func16, Try.ntmps16
    go_wp2_with fail
    rw [← HW.out]
    refine (abIs_b _ A c xs w0 hl (hc.below b0) _ HA.out).mono ?_
    rintro e w1 ⟨rfl, b1⟩
    have B1 := Below.next b0 b1
    clear h0 h1
    have HY1 := hid (HY.out.next b1); have HZ1 := hid (HZ.out.next b1)
    have h2 := HY1.out.cell0
    have h3 := HY1.out.cell1
    go_wp2_with fail
    refine (l1In_b _ _ _ _ _ HI.out).mono ?_
    rintro e w2 ⟨rfl, rfl⟩
    go_wp2_with fail
    refine (abCan_any _ _ _ xs a _ w1 hl (hc.below B1) false HC.out).mono ?_
    rintro e w3 ⟨rfl, b3⟩
    clear h2 h3
    have z1 := HZ1.out.next b3
    have f1 := z1.cell0
    have f2 := z1.froz 0
    have z2 := z1.set0 (.int .i64 0)
    have f3 := z2.cell1
    have f4 := z2.froz 1
    have Z3 := hid (z2.set1 (.slice none 0 0))
    clear z1 z2
    go_wp2_with fail
    refine bodyPost_ret (results_cell2 rfl _ _ _ (w.heap.size + 1) 26 #[.int .i64 0, .slice none 0 0] (0, 0) _ rfl Z3.out Try.underlying26 rfl (by kernel_rfl)) rfl ⟨none, 0, rfl, own_nil _ _, ((Below.next B1 b3).setCell (by simp) _).setCell (by simp) _⟩
  have hcg2 := hcg
  simp only [canGo, Bool.and_eq_true, decide_eq_true_eq, Bool.not_eq_true', decide_eq_false_iff_not] at hcg2
  have hnd := mvL_nodup (a := a) (pw_nodup (rise_pw GB.out.rise.up)) hcg2.2.2
  have HC := hid hcg
  have HND := hid hnd
  have hll : (insF (mvL a (a + t) xs)).length = xs.length := by rw [(insF_all hnd).2.2, mvL_len]
  have HLL := hid hll
  obtain ⟨R, hR⟩ : ∃ R, R = insF (mvL a (a + t) xs) := ⟨_, rfl⟩
  have HPT := hid fun W (h : Cells W A xs) => abPut_any t A c xs a (a + t) W hlen h hnd
  rw [← hR] at HPT hll
  have HR := hid hR
  clear hcg2 hnd hR
  cases hq : isAba t R
  · obtain ⟨e1, e2⟩ := lf_no (r := t) (xs := xs) (a := a) (by rw [HLF.out, HC.out, ← HR.out, hq]; rfl)
    have e3 : lfB t xs a = false := by rw [HLF.out, HC.out, ← HR.out, hq]; rfl
    rw [e1, e2, e3]
    have HQ := hid hq
    clear hq e1 e2 e3
    go_enter Try.func16, Try.ntmps16
    go_wp2_with fail
    rw [← HW.out]
    refine (abIs_b _ A c xs w0 hl (hc.below b0) _ HA.out).mono ?_
    rintro e w1 ⟨rfl, b1⟩
    have B1 := Below.next b0 b1
    clear h0 h1
    have HY1 := hid (HY.out.next b1); have HZ1 := hid (HZ.out.next b1)
    have h2 := HY1.out.cell0
    have h3 := HY1.out.cell1
    go_wp2_with fail
    refine (l1In_b _ _ _ _ _ HI.out).mono ?_
    rintro e w2 ⟨rfl, rfl⟩
    go_wp2_with fail
    refine (abCan_any _ _ _ xs a _ w1 hl (hc.below B1) true HC.out).mono ?_
    rintro e w3 ⟨rfl, b3⟩
    have HY3 := hid (HY1.out.next b3); have HZ3 := hid (HZ1.out.next b3)
    have h4 := HY3.out.cell0
    have h5 := HY3.out.cell1
    have B3 := Below.next B1 b3
    clear h2 h3
    go_wp2_with fail
    refine (HPT.out _ (hc.below B3)).mono ?_
    rintro e w4 ⟨A4, c4, rfl, o4, b4⟩
    have B4 := Below.next B3 b4
    have hs1 := B1.size
    have hs3 := B3.size
    have hs4 := B4.size
    have n0 := Box2.new w4 26 (.int .i64 0) (.slice none 0 0)
    obtain ⟨w5, hw5⟩ : ∃ w5, w5 = w4.alloc (.cells #[.int .i64 t, .slice A4 xs.length c4] 26) := ⟨_, rfl⟩
    have n5 : Box2 w5 w4.heap.size 26 (.int .i64 t) (.slice A4 xs.length c4) := by rw [hw5]; exact Box2.new _ _ _ _
    have b45 : Below w4.heap.size w4 w5 := by rw [hw5]; exact (Below.refl _ _).alloc (Nat.le_refl _) _
    have HZ5 := hid ((HZ3.out.next b4).next b45)
    have B5 := Below.next B4 b45
    have o5 := o4.below b45
    have f7 := n5.cell0
    have f8 := n5.cell1
    have HW5 := hid hw5
    have HN5 := hid n5
    have HO5 := hid o5
    rw [hw5] at f7 f8
    clear h4 h5 n0 n5 o4 o5 hw5
    go_wp2_with fail
    rw [← HW5.out]
    clear f7 f8
    refine (abIs_n _ A4 c4 xs.length R w5 hll hl HO5.out.cells _ HQ.out).mono ?_
    rintro e w6 ⟨rfl, b6⟩
    have z1 := HZ5.out.next b6
    have f1 := z1.cell0
    have f2 := z1.froz 0
    have z2 := z1.set0 (.int .i64 0)
    have f3 := z2.cell1
    have f4 := z2.froz 1
    have Z3 := hid (z2.set1 (.slice none 0 0))
    clear z1 z2
    go_wp2_with fail
    refine bodyPost_ret (results_cell2 rfl _ _ _ (w.heap.size + 1) 26 #[.int .i64 0, .slice none 0 0] (0, 0) _ rfl Z3.out Try.underlying26 rfl (by kernel_rfl)) rfl ⟨none, 0, rfl, own_nil _ _, ((Below.next B5 b6).setCell (by simp) _).setCell (by simp) _⟩
  · have e3 : lfB t xs a = true := by rw [HLF.out, HC.out, ← HR.out, hq]; rfl
    obtain ⟨e1, e2⟩ := lf_yes e3
    rw [e1, e2, e3, ← HR.out, hll]
    have HQ := hid hq
    clear hq e1 e2 e3
    go_enter Try.func16, Try.ntmps16
    go_wp2_with fail
    rw [← HW.out]
    refine (abIs_b _ A c xs w0 hl (hc.below b0) _ HA.out).mono ?_
    rintro e w1 ⟨rfl, b1⟩
    have B1 := Below.next b0 b1
    clear h0 h1
    have HY1 := hid (HY.out.next b1); have HZ1 := hid (HZ.out.next b1)
    have h2 := HY1.out.cell0
    have h3 := HY1.out.cell1
    go_wp2_with fail
    refine (l1In_b _ _ _ _ _ HI.out).mono ?_
    rintro e w2 ⟨rfl, rfl⟩
    go_wp2_with fail
    refine (abCan_any _ _ _ xs a _ w1 hl (hc.below B1) true HC.out).mono ?_
    rintro e w3 ⟨rfl, b3⟩
    have HY3 := hid (HY1.out.next b3); have HZ3 := hid (HZ1.out.next b3)
    have h4 := HY3.out.cell0
    have h5 := HY3.out.cell1
    have B3 := Below.next B1 b3
    clear h2 h3
    go_wp2_with fail
    refine (HPT.out _ (hc.below B3)).mono ?_
    rintro e w4 ⟨A4, c4, rfl, o4, b4⟩
    have B4 := Below.next B3 b4
    have hs1 := B1.size
    have hs3 := B3.size
    have hs4 := B4.size
    have n0 := Box2.new w4 26 (.int .i64 0) (.slice none 0 0)
    obtain ⟨w5, hw5⟩ : ∃ w5, w5 = w4.alloc (.cells #[.int .i64 t, .slice A4 xs.length c4] 26) := ⟨_, rfl⟩
    have n5 : Box2 w5 w4.heap.size 26 (.int .i64 t) (.slice A4 xs.length c4) := by rw [hw5]; exact Box2.new _ _ _ _
    have b45 : Below w4.heap.size w4 w5 := by rw [hw5]; exact (Below.refl _ _).alloc (Nat.le_refl _) _
    have HZ5 := hid ((HZ3.out.next b4).next b45)
    have B5 := Below.next B4 b45
    have o5 := o4.below b45
    have f7 := n5.cell0
    have f8 := n5.cell1
    have HW5 := hid hw5
    have HN5 := hid n5
    have HO5 := hid o5
    rw [hw5] at f7 f8
    clear h4 h5 n0 n5 o4 o5 hw5
    go_wp2_with fail
    rw [← HW5.out]
    clear f7 f8
    refine (abIs_n _ A4 c4 xs.length R w5 hll hl HO5.out.cells _ HQ.out).mono ?_
    rintro e w6 ⟨rfl, b6⟩
    have g1 := (HN5.out.next b6).cell0
    have g2 := (HN5.out.next b6).cell1
    have z1 := HZ5.out.next b6
    have f1 := z1.cell0
    have f2 := z1.froz 0
    have z2 := z1.set0 (.int .i64 t)
    have f3 := z2.cell1
    have f4 := z2.froz 1
    have Z3 := hid (z2.set1 (.slice A4 xs.length c4))
    have hsw3 : w.heap.size + 1 + 1 ≤ w3.heap.size := by have := b1.size; have := b3.size; omega
    have HO6 := hid (own_set_other (g := w.heap.size + 1) (k := 1) (u := .slice A4 xs.length c4) (own_set_other (g := w.heap.size + 1) (k := 0) (u := .int .i64 t) (own_at_len' (HO5.out.below b6) hll) (by omega)) (by omega))
    clear z1 z2
    go_wp2_with fail
    refine bodyPost_ret (results_cell2 rfl _ _ _ (w.heap.size + 1) 26 #[.int .i64 t, .slice A4 xs.length c4] (0, 0) _ rfl Z3.out Try.underlying26 rfl (by kernel_rfl)) rfl ⟨A4, c4, rfl, Own.more (own_of_len' HO6.out hll) (by omega), ((Below.next B5 b6).setCell (by simp) _).setCell (by simp) _⟩
end Go.Proofs.Ytbkcefpefgklpaa
