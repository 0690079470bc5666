/-
  Several texts in one.
-/
import Derived.Test.YtelfapheigobeaaR10
import Derived.Test.YtelfapheigobeaaR09
import Derived.Test.YtelfapheigobeaaCF
import Derived.Test.YtelfapheigobeaaCB
/-
  Contracts: PushDown of the program.
-/
namespace Go.Proofs.Ytelfapheigobeaa
open Go.RowKit

def psR (r : Int) (xs : List Int) : Int := if isAba r xs then r else 0
def psF (r : Int) (xs : List Int) : List Int := if isAba r xs then dwL r.toNat xs else []
def psN (r : Int) (xs : List Int) : Int := if isAba r xs then dwM r.toNat xs else 0
theorem ps_no {r : Int} {xs : List Int} (h : isAba r xs = false) : psR r xs = 0 ∧ psF r xs = [] ∧ psN r xs = 0 := by simp [psR, psF, psN, h]
theorem ps_yes {t : Nat} {xs : List Int} (h : isAba t xs = true) : psR t xs = t ∧ psF t xs = dwL t xs ∧ psN t xs = dwM t xs := by simp [psR, psF, psN, h]
theorem bound_PushDown (r : Int) (xs : List Int) : (psF r xs).length ≤ 1048576 := by
  unfold psF; split
  · rename_i h
    simp only [isAba, Bool.and_eq_true] at h
    have ht := inB_iff.1 h.1
    have := (goodB_iff.1 h.2).len
    rw [dwL_len (by omega)]; omega
  · simp

set_option maxRecDepth 100000 in
set_option maxHeartbeats 8000000 in
theorem impl_PushDown (r : Int) (A : Option Addr) (c : Nat) (xs : List Int) (w : World) (hl : xs.length ≤ 1048576) (hc : Cells w A xs) :
    Calls Try.prog 37 #[.agg #[.int .i64 r, .slice A xs.length c]] w fun e w' => ∃ A' c', e = .returned (.tuple #[.agg #[.int .i64 (psR r xs), .slice A' (psF r xs).length c'], .int .i64 (psN r xs), .bool (isAba r xs)]) ∧ Own w' w.heap.size A' c' (psF r xs) ∧ Below w.heap.size w w' := by
  have hz := Try.bdZero
  unfold bdV at hz
  obtain ⟨w0, hw0⟩ : ∃ w0, w0 = (w.alloc (.cells #[.int .i64 r, .slice A xs.length c] 41)).alloc (.cells #[.int .i64 0, .slice none 0 0] 41) := ⟨_, rfl⟩
  have y0 : Box2 w0 w.heap.size 41 (.int .i64 r) (.slice A xs.length c) := by rw [hw0]; exact (Box2.new w _ _ _).alloc _
  have z0 : Box2 w0 (w.heap.size + 1) 41 (.int .i64 0) (.slice none 0 0) := by
    rw [hw0]; have h := Box2.new (w.alloc (.cells #[.int .i64 r, .slice A xs.length c] 41)) 41 (.int .i64 0) (.slice none 0 0); rw [World.size_alloc] at h; exact h
  have b0 : Below w.heap.size w w0 := by rw [hw0]; exact ((Below.refl _ _).alloc (Nat.le_refl _) _).alloc (by simp) _
  have hs0 : w0.heap.size = w.heap.size + 1 + 1 := by rw [hw0]; simp
  have h0 := y0.cell0
  have h1 := y0.cell1
  rw [hw0] at h0 h1
  have HW := hid hw0
  clear hw0
  cases hab : isAba r xs
  · obtain ⟨e1, e2, e3⟩ := ps_no hab
    rw [e1, e2, e3]
    have HA := hid hab
    clear hab e1 e2 e3
    go_enter Try.func37, Try.ntmps37
    go_wp2_with fail
    rw [← HW.out]
    refine (IsAbacus_b r A c xs w0 hl (hc.below b0) _ HA.out).mono ?_
    rintro e w1 ⟨rfl, b1⟩
    have z1 := z0.next b1
    have f1 := z1.cell0
    have f2 := z1.froz 0
    have z2 := z1.set0 (.int .i64 0)
    have f3 := z2.cell1
    have f4 := z2.froz 1
    have Z3 := hid (z2.set1 (.slice none 0 0))
    clear z1 z2 z0 y0
    go_wp2_with fail
    refine bodyPost_ret (results_cell3 rfl _ _ _ (w.heap.size + 1) 41 #[.int .i64 0, .slice none 0 0] (0, 0) _ rfl Z3.out Try.underlying41 rfl (by kernel_rfl)) rfl ⟨none, 0, rfl, own_nil _ _, ((Below.next b0 b1).setCell (by simp) _).setCell (by simp) _⟩
  have hab2 := hab
  simp only [isAba, Bool.and_eq_true] at hab2
  have ht := inB_iff.1 hab2.1
  obtain ⟨t, rfl⟩ : ∃ t : Nat, r = t := ⟨r.toNat, by omega⟩
  have ht2 : 2 ≤ t ∧ t ≤ 6 := by omega
  have GB := hid (goodB_iff.1 hab2.2)
  have hlen := GB.out.len
  obtain ⟨e1, e2, e3⟩ := ps_yes hab
  rw [e1, e2, e3]
  have HBO := hid fun W (h : Cells W A xs) => boardOf_any t A c xs W ht2 hlen (fun j hj => by have := GB.out.top hj; omega) h
  obtain ⟨d1, d2⟩ := dw_board ht2 GB.out
  have hda := dw_aba hab
  obtain ⟨F, hF⟩ : ∃ F, F = bitsK t xs xs.length := ⟨_, rfl⟩
  rw [← hF] at HBO d1 d2
  have HPU := hid fun W => pushed_any t F W ht2
  rw [d2] at HPU
  have HAB := hid fun W => brdAb_any t (pdB t F) W ht2
  have hT : abT t (pdB t F) = t := by unfold abT; rw [d1, hda]; rfl
  have hX : abX t (pdB t F) = dwL t xs := by unfold abX; rw [d1, hda]; rfl
  rw [hT, hX, d1, hda] at HAB
  obtain ⟨F', hF'⟩ : ∃ F', F' = pdB t F := ⟨_, rfl⟩
  rw [← hF'] at HAB HPU
  obtain ⟨rX, hrX⟩ : ∃ rX, rX = dwL t xs := ⟨_, rfl⟩
  obtain ⟨rM, hrM⟩ : ∃ rM, rM = dwM t xs := ⟨_, rfl⟩
  rw [← hrX] at HAB ⊢
  rw [← hrM] at HPU ⊢
  have HA := hid hab
  have HY := hid y0; have HZ := hid z0
  clear hab hab2 hF y0 z0 e1 e2 e3 d1 d2 hda hT hX hF' hrX hrM
  go_enter Try.func37, Try.ntmps37
  go_wp2_with fail
  rw [← HW.out]
  refine (IsAbacus_b t A c xs w0 hl (hc.below b0) _ HA.out).mono ?_
  rintro e w1 ⟨rfl, b1⟩
  have B1 := Below.next b0 b1
  have HY1 := hid (HY.out.next b1); have HZ1 := hid (HZ.out.next b1)
  have h2 := HY1.out.cell0
  have h3 := HY1.out.cell1
  have hs1 := b1.size
  clear h0 h1
  go_wp2_with fail
  refine (HBO.out _ (hc.later B1)).mono ?_
  rintro e w2 ⟨rfl, b2⟩
  have B2 := Below.next B1 b2
  have hs2 := b2.size
  clear h2 h3
  go_wp2_with fail
  refine (HPU.out _).mono ?_
  rintro e w3 ⟨rfl, b3⟩
  have B3 := Below.next B2 b3
  have hs3 := b3.size
  have X0 := hid (Blk.new w3 58 217 (brdV 0 fun _ => false))
  have X3 := hid (setRow_blk X0.out (brdV t F'))
  obtain ⟨w4, hw4⟩ : ∃ w4, w4 = (w3.alloc (.cells (ca 217 (brdV 0 fun _ => false)) 58)).setRow w3.heap.size (ca 217 (brdV t F')) := ⟨_, rfl⟩
  have b34 : Below w3.heap.size w3 w4 := by rw [hw4]; exact setRow_below ((Below.refl _ _).alloc (Nat.le_refl _) _) (Nat.le_refl _) _
  have B4 := Below.next B3 b34
  have HZ4 := hid (((HZ1.out.next b2).next b3).next b34)
  have hs4 := b34.size
  have HW4 := hid hw4
  clear hw4 b34
  unfold bdV
  go_wp2_with (first | (refine wpList_store_row rfl 58 _ _ rfl w3.heap.size _ rfl rfl 58 _ X0.out (by rw [ca_size]; exact Try.bdSize) (by rw [ca_size, ca_size]) (brd_one _ _) ?_) | (refine wpList_load_row rfl 58 _ rfl w3.heap.size rfl 58 _ (0, 0) _ X3.out Try.underlying58 rfl (by rw [ca_size]; exact Try.bdSize) ?_))
  rw [← HW4.out]
  refine (HAB.out _).mono ?_
  rintro e w5 ⟨A6, c6, rfl, o6, b6⟩
  have B5 := Below.next B4 b6
  have hs5 := b6.size
  obtain ⟨w6, hw6⟩ : ∃ w6, w6 = w5.alloc (.cells #[.int .i64 t, .slice A6 rX.length c6] 41) := ⟨_, rfl⟩
  have b56 : Below w5.heap.size w5 w6 := by rw [hw6]; exact (Below.refl _ _).alloc (Nat.le_refl _) _
  have n6 : Box2 w6 w5.heap.size 41 (.int .i64 t) (.slice A6 rX.length c6) := by rw [hw6]; exact Box2.new _ _ _ _
  have z6 := (HZ4.out.next b6).next b56
  have B6 := Below.next B5 b56
  have o7 := o6.below b56
  have m1 := n6.cell0
  have m2 := n6.cell1
  have f1 := z6.cell0
  have f2 := z6.froz 0
  have z7 := z6.set0 (.int .i64 t)
  have f3 := z7.cell1
  have f4 := z7.froz 1
  have Z8 := hid (z7.set1 (.slice A6 rX.length c6))
  have HO7 := hid (own_set_other (g := w.heap.size + 1) (k := 1) (u := .slice A6 rX.length c6) (own_set_other (g := w.heap.size + 1) (k := 0) (u := .int .i64 t) o7 (by omega)) (by omega))
  rw [hw6] at m1 m2 f1 f2 f3 f4 Z8 HO7
  have HW6 := hid hw6
  clear z6 z7 n6 hw6 o6 o7
  go_wp2_with fail
  refine bodyPost_ret (results_cell3 rfl _ _ _ (w.heap.size + 1) 41 #[.int .i64 t, .slice A6 rX.length c6] (0, 0) _ rfl Z8.out Try.underlying41 rfl (by kernel_rfl)) rfl ⟨A6, c6, rfl, Own.more HO7.out (by omega), ?_⟩
  rw [← HW6.out]
  exact (B6.setCell (by simp) _).setCell (by simp) _
end Go.Proofs.Ytelfapheigobeaa
/-
  Contracts: LiftBead of the program.
-/
namespace Go.Proofs.Ytelfapheigobeaa
open Go.RowKit

def lfB (r : Int) (xs : List Int) (a : Int) : Bool := isAba r xs && (canGo xs a (a + r) && isAba r (insF (mvL a (a + r) xs)))
def lfR (r : Int) (xs : List Int) (a : Int) : Int := if lfB r xs a then r else 0
def lfF (r : Int) (xs : List Int) (a : Int) : List Int := if lfB r xs a then insF (mvL a (a + r) xs) else []
theorem lf_no {r : Int} {xs : List Int} {a : Int} (h : lfB r xs a = false) : lfR r xs a = 0 ∧ lfF r xs a = [] := by simp [lfR, lfF, h]
theorem lf_yes {r : Int} {xs : List Int} {a : Int} (h : lfB r xs a = true) : lfR r xs a = r ∧ lfF r xs a = insF (mvL a (a + r) xs) := by simp [lfR, lfF, h]

theorem bound_LiftBead (r : Int) (xs : List Int) (a : Int) : (lfF r xs a).length ≤ 1048576 := by
  cases h : lfB r xs a
  · rw [(lf_no h).2]; simp
  · rw [(lf_yes h).2]
    simp only [lfB, Bool.and_eq_true] at h
    have h2 := h.2.2
    simp only [isAba, Bool.and_eq_true] at h2
    have := (goodB_iff.1 h2.2).len; omega

end Go.Proofs.Ytelfapheigobeaa
