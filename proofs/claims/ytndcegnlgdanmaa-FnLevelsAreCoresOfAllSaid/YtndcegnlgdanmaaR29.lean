/-
  Several texts in one.
-/
import Derived.Test.YtndcegnlgdanmaaR28
import Derived.Test.YtndcegnlgdanmaaR11
import Derived.Test.YtndcegnlgdanmaaCF
import Derived.Test.YtndcegnlgdanmaaR26
/-
  Contracts: PushDown of the program.
-/
namespace Go.Proofs.Ytndcegnlgdanmaa
open Go.RowKit

def psR (r : Int) (xs : List Int) : Int := if isAba r xs then r else 0
def psF (r : Int) (xs : List Int) : List Int := if isAba r xs then dwL r.toNat xs else []
def psN (r : Int) (xs : List Int) : Int := if isAba r xs then dwM r.toNat xs else 0
theorem ps_no {r : Int} {xs : List Int} (h : isAba r xs = false) : psR r xs = 0 ∧ psF r xs = [] ∧ psN r xs = 0 := by simp [psR, psF, psN, h]
theorem ps_yes {t : Nat} {xs : List Int} (h : isAba t xs = true) : psR t xs = t ∧ psF t xs = dwL t xs ∧ psN t xs = dwM t xs := by simp [psR, psF, psN, h]
theorem bound_PushDown (r : Int) (xs : List Int) : (psF r xs).length ≤ 1048576 := by
  unfold psF; split
  · rename_i h
    simp only [isAba, Bool.and_eq_true] at h
    have ht := inB_iff.1 h.1
    have := (goodB_iff.1 h.2).len
    rw [dwL_len (by omega)]; omega
  · simp

set_option maxRecDepth 100000 in
set_option maxHeartbeats 8000000 in
theorem impl_PushDown (r : Int) (A : Option Addr) (c : Nat) (xs : List Int) (w : World) (hl : xs.length ≤ 1048576) (hc : Cells w A xs) :
    Calls Try.prog 58 #[.agg #[.int .i64 r, .slice A xs.length c]] w fun e w' => ∃ A' c', e = .returned (.tuple #[.agg #[.int .i64 (psR r xs), .slice A' (psF r xs).length c'], .int .i64 (psN r xs), .bool (isAba r xs)]) ∧ Own w' w.heap.size A' c' (psF r xs) ∧ Below w.heap.size w w' := by
  have hz := Try.bdZero
  unfold bdV at hz
  obtain ⟨w0, hw0⟩ : ∃ w0, w0 = (w.alloc (.cells #[.int .i64 r, .slice A xs.length c] 37)).alloc (.cells #[.int .i64 0, .slice none 0 0] 37) := ⟨_, rfl⟩
  have y0 : Box2 w0 w.heap.size 37 (.int .i64 r) (.slice A xs.length c) := by rw [hw0]; exact (Box2.new w _ _ _).alloc _
  have z0 : Box2 w0 (w.heap.size + 1) 37 (.int .i64 0) (.slice none 0 0) := by
    rw [hw0]; have h := Box2.new (w.alloc (.cells #[.int .i64 r, .slice A xs.length c] 37)) 37 (.int .i64 0) (.slice none 0 0); rw [World.size_alloc] at h; exact h
  have b0 : Below w.heap.size w w0 := by rw [hw0]; exact ((Below.refl _ _).alloc (Nat.le_refl _) _).alloc (by simp) _
  have hs0 : w0.heap.size = w.heap.size + 1 + 1 := by rw [hw0]; simp
  have h0 := y0.cell0
  have h1 := y0.cell1
  rw [hw0] at h0 h1
  have HW := hid hw0
  clear hw0
  cases hab : isAba r xs
  · obtain ⟨e1, e2, e3⟩ := ps_no hab
    rw [e1, e2, e3]
    have HA := hid hab
    clear hab e1 e2 e3
    go_enter Try.func58, Try.ntmps58
    go_wp2_with fail
    rw [← HW.out]
    refine (IsAbacus_b r A c xs w0 hl (hc.below b0) _ HA.out).mono ?_
    rintro e w1 ⟨rfl, b1⟩
    have z1 := z0.next b1
    have f1 := z1.cell0
    have f2 := z1.froz 0
    have z2 := z1.set0 (.int .i64 0)
    have f3 := z2.cell1
    have f4 := z2.froz 1
    have Z3 := hid (z2.set1 (.slice none 0 0))
    clear z1 z2 z0 y0
    go_wp2_with fail
    refine bodyPost_ret (results_cell3 rfl _ _ _ (w.heap.size + 1) 37 #[.int .i64 0, .slice none 0 0] (0, 0) _ rfl Z3.out Try.underlying37 rfl (by kernel_rfl)) rfl ⟨none, 0, rfl, own_nil _ _, ((Below.next b0 b1).setCell (by simp) _).setCell (by simp) _⟩
  have hab2 := hab
  simp only [isAba, Bool.and_eq_true] at hab2
  have ht := inB_iff.1 hab2.1
  obtain ⟨t, rfl⟩ : ∃ t : Nat, r = t := ⟨r.toNat, by omega⟩
  have ht2 : 2 ≤ t ∧ t ≤ 6 := by omega
  have GB := hid (goodB_iff.1 hab2.2)
  have hlen := GB.out.len
  obtain ⟨e1, e2, e3⟩ := ps_yes hab
  rw [e1, e2, e3]
  have HBO := hid fun W (h : Cells W A xs) => boardOf_any t A c xs W ht2 hlen (fun j hj => by have := GB.out.top hj; omega) h
  obtain ⟨d1, d2⟩ := dw_board ht2 GB.out
  have hda := dw_aba hab
  obtain ⟨F, hF⟩ : ∃ F, F = bitsK t xs xs.length := ⟨_, rfl⟩
  rw [← hF] at HBO d1 d2
  have HPU := hid fun W => pushed_any t F W ht2
  rw [d2] at HPU
  have HAB := hid fun W => brdAb_any t (pdB t F) W ht2
  have hT : abT t (pdB t F) = t := by unfold abT; rw [d1, hda]; rfl
  have hX : abX t (pdB t F) = dwL t xs := by unfold abX; rw [d1, hda]; rfl
  rw [hT, hX, d1, hda] at HAB
  obtain ⟨F', hF'⟩ : ∃ F', F' = pdB t F := ⟨_, rfl⟩
  rw [← hF'] at HAB HPU
  obtain ⟨rX, hrX⟩ : ∃ rX, rX = dwL t xs := ⟨_, rfl⟩
  obtain ⟨rM, hrM⟩ : ∃ rM, rM = dwM t xs := ⟨_, rfl⟩
  rw [← hrX] at HAB ⊢
  rw [← hrM] at HPU ⊢
  have HA := hid hab
  have HY := hid y0; have HZ := hid z0
  clear hab hab2 hF y0 z0 e1 e2 e3 d1 d2 hda hT hX hF' hrX hrM
  go_enter Try.func58, Try.ntmps58
  go_wp2_with fail
  rw [← HW.out]
  refine (IsAbacus_b t A c xs w0 hl (hc.below b0) _ HA.out).mono ?_
  rintro e w1 ⟨rfl, b1⟩
  have B1 := Below.next b0 b1
  have HY1 := hid (HY.out.next b1); have HZ1 := hid (HZ.out.next b1)
  have h2 := HY1.out.cell0
  have h3 := HY1.out.cell1
  have hs1 := b1.size
  clear h0 h1
  go_wp2_with fail
  refine (HBO.out _ (hc.later B1)).mono ?_
  rintro e w2 ⟨rfl, b2⟩
  have B2 := Below.next B1 b2
  have hs2 := b2.size
  clear h2 h3
  go_wp2_with fail
  refine (HPU.out _).mono ?_
  rintro e w3 ⟨rfl, b3⟩
  have B3 := Below.next B2 b3
  have hs3 := b3.size
  have X0 := hid (Blk.new w3 60 217 (brdV 0 fun _ => false))
  have X3 := hid (setRow_blk X0.out (brdV t F'))
  obtain ⟨w4, hw4⟩ : ∃ w4, w4 = (w3.alloc (.cells (ca 217 (brdV 0 fun _ => false)) 60)).setRow w3.heap.size (ca 217 (brdV t F')) := ⟨_, rfl⟩
  have b34 : Below w3.heap.size w3 w4 := by rw [hw4]; exact setRow_below ((Below.refl _ _).alloc (Nat.le_refl _) _) (Nat.le_refl _) _
  have B4 := Below.next B3 b34
  have HZ4 := hid (((HZ1.out.next b2).next b3).next b34)
  have hs4 := b34.size
  have HW4 := hid hw4
  clear hw4 b34
  unfold bdV
  go_wp2_with (first | (refine wpList_store_row rfl 60 _ _ rfl w3.heap.size _ rfl rfl 60 _ X0.out (by rw [ca_size]; exact Try.bdSize) (by rw [ca_size, ca_size]) (brd_one _ _) ?_) | (refine wpList_load_row rfl 60 _ rfl w3.heap.size rfl 60 _ (0, 0) _ X3.out Try.underlying60 rfl (by rw [ca_size]; exact Try.bdSize) ?_))
  rw [← HW4.out]
  refine (HAB.out _).mono ?_
  rintro e w5 ⟨A6, c6, rfl, o6, b6⟩
  have B5 := Below.next B4 b6
  have hs5 := b6.size
  obtain ⟨w6, hw6⟩ : ∃ w6, w6 = w5.alloc (.cells #[.int .i64 t, .slice A6 rX.length c6] 37) := ⟨_, rfl⟩
  have b56 : Below w5.heap.size w5 w6 := by rw [hw6]; exact (Below.refl _ _).alloc (Nat.le_refl _) _
  have n6 : Box2 w6 w5.heap.size 37 (.int .i64 t) (.slice A6 rX.length c6) := by rw [hw6]; exact Box2.new _ _ _ _
  have z6 := (HZ4.out.next b6).next b56
  have B6 := Below.next B5 b56
  have o7 := o6.below b56
  have m1 := n6.cell0
  have m2 := n6.cell1
  have f1 := z6.cell0
  have f2 := z6.froz 0
  have z7 := z6.set0 (.int .i64 t)
  have f3 := z7.cell1
  have f4 := z7.froz 1
  have Z8 := hid (z7.set1 (.slice A6 rX.length c6))
  have HO7 := hid (own_set_other (g := w.heap.size + 1) (k := 1) (u := .slice A6 rX.length c6) (own_set_other (g := w.heap.size + 1) (k := 0) (u := .int .i64 t) o7 (by omega)) (by omega))
  rw [hw6] at m1 m2 f1 f2 f3 f4 Z8 HO7
  have HW6 := hid hw6
  clear z6 z7 n6 hw6 o6 o7
  go_wp2_with fail
  refine bodyPost_ret (results_cell3 rfl _ _ _ (w.heap.size + 1) 37 #[.int .i64 t, .slice A6 rX.length c6] (0, 0) _ rfl Z8.out Try.underlying37 rfl (by kernel_rfl)) rfl ⟨A6, c6, rfl, Own.more HO7.out (by omega), ?_⟩
  rw [← HW6.out]
  exact (B6.setCell (by simp) _).setCell (by simp) _
end Go.Proofs.Ytndcegnlgdanmaa
/-
  Contracts: an abacus with all beads down, of the model; PushDown of the model.
-/
namespace Go.Proofs.Ytndcegnlgdanmaa
open Go.RowKit

/-- A row whose first numbers are counted up. -/
def prt (r : List Int) (m : Nat) : List Int := fnRow r.length fun j => if j < m then (j : Int) else r.getD j 0
theorem prt_len (r : List Int) (m : Nat) : (prt r m).length = r.length := fnRow_len _ _
theorem prt_zero (r : List Int) : prt r 0 = r := by
  have := rowF_of r
  unfold prt; rw [rowF_ext _ _ (fun j => r.getD j 0) fun j _ => by simp]; exact this
theorem prt_all (r : List Int) : prt r r.length = upTo r.length := by unfold prt upTo; exact rowF_ext _ _ _ fun j hj => by rw [if_pos hj]
theorem prt_get (r : List Int) (m : Nat) (h : m < r.length) : (prt r m).getD m 0 = r.getD m 0 := by unfold prt; rw [fnRow_get _ _ _ h, if_neg (Nat.lt_irrefl _)]
theorem prt_set (r : List Int) (m : Nat) : (prt r m).set m (m : Int) = prt r (m + 1) := by
  unfold prt
  rw [fnRow_set]
  refine rowF_ext _ _ _ fun j _ => ?_
  by_cases e : j = m
  · subst e; simp
  · rw [if_neg e]
    by_cases h : j < m
    · rw [if_pos h, if_pos (by omega)]
    · rw [if_neg h, if_neg (by omega)]
/-- The rows while they are counted up: k of them done, and m numbers of the next one. -/
def dnM (R : Nat → List Int) (k m j : Nat) : List Int := if j < k then upTo (R j).length else if j = k then prt (R j) m else R j
theorem dnM_len (R : Nat → List Int) (k m j : Nat) : (dnM R k m j).length = (R j).length := by
  unfold dnM; split
  · exact upTo_len _
  · split
    · exact prt_len _ _
    · rfl
theorem dnM_start (R : Nat → List Int) (j : Nat) : dnM R 0 0 j = R j := by
  unfold dnM; rw [if_neg (by omega)]; split
  · exact prt_zero _
  · rfl
theorem dnM_next (R : Nat → List Int) (k j : Nat) : dnM R k (R k).length j = dnM R (k + 1) 0 j := by
  unfold dnM
  by_cases h : j < k
  · rw [if_pos h, if_pos (by omega)]
  · rw [if_neg h]
    by_cases e : j = k
    · subst e; rw [if_pos rfl, if_pos (by omega), prt_all]
    · rw [if_neg e, if_neg (by omega)]
      split
      · exact (prt_zero _).symm
      · rfl
theorem dnM_done (R : Nat → List Int) (t j : Nat) (h : j < t) : dnM R t 0 j = upTo (R j).length := by unfold dnM; rw [if_pos h]
theorem dnM_same (R : Nat → List Int) (k m j : Nat) (h : j ≠ k) : dnM R k m j = dnM R k (m + 1) j := by
  unfold dnM; rw [if_neg h, if_neg h]
theorem dnM_own (R : Nat → List Int) (k m : Nat) : dnM R k m k = prt (R k) m := by unfold dnM; rw [if_neg (Nat.lt_irrefl _), if_pos rfl]
theorem sum_take_bd {L : List Int} (h : ∀ j, j < L.length → 0 ≤ L.getD j 0 ∧ L.getD j 0 ≤ 1000) : ∀ m, m ≤ L.length → 0 ≤ (L.take m).sum ∧ (L.take m).sum ≤ 1000 * m
  | 0, _ => by simp
  | m + 1, hm => by
    have ih := sum_take_bd h m (by omega)
    have := h m (by omega)
    rw [take_snoc L m (by omega) _ rfl, List.sum_append]
    simp only [List.sum_cons, List.sum_nil]; omega
theorem tri_bd : ∀ m, m ≤ 1000 → 0 ≤ tri m ∧ tri m ≤ 1000 * m
  | 0, _ => by simp [tri]
  | m + 1, h => by have := tri_bd m (by omega); rw [tri]; omega
def mvS (R : Nat → List Int) : Nat → Int := sumN fun i => (R i).sum - tri (R i).length
theorem mvS_bd {R : Nat → List Int} {t : Nat} (h : ∀ i, i < t → (R i).length ≤ 1000 ∧ ∀ j, j < (R i).length → 0 ≤ (R i).getD j 0 ∧ (R i).getD j 0 ≤ 1000) : ∀ k, k ≤ t → -1000000 * (k : Int) ≤ mvS R k ∧ mvS R k ≤ 1000000 * (k : Int)
  | 0, _ => by simp [mvS, sumN]
  | k + 1, hk => by
    have ih := mvS_bd h k (by omega)
    obtain ⟨h1, h2⟩ := h k (by omega)
    have s := sum_take_bd h2 _ (Nat.le_refl _)
    rw [List.take_of_length_le (Nat.le_refl _)] at s
    have := tri_bd (R k).length h1
    show _ ≤ mvS R k + ((R k).sum - tri (R k).length) ∧ mvS R k + ((R k).sum - tri (R k).length) ≤ _
    omega

end Go.Proofs.Ytndcegnlgdanmaa
