/-
  Contracts: FromRunners of the model.
-/
import Derived.Test.YtnhjofcmaodamaaFrnI
import Derived.Test.YtnhjofcmaodamaaAbFrom
import Derived.Test.YtnhjofcmaodamaaCB
import Derived.Test.YtnhjofcmaodamaaLiftT
namespace Go.Proofs.Ytnhjofcmaodamaa
open Go.RowKit

theorem abfL_tot (t : Nat) (rows : List (List Int)) : ∀ k, k ≤ rows.length → (abfL t (rowsR rows) k).length = tot (rows.take k)
  | 0, _ => by simp [abfL, tot]
  | k + 1, hk => by
    rw [abfL, List.length_append, abfL_tot t rows k (by omega), List.length_map, tot_take_succ rows k (by omega)]; rfl
theorem rises_wide {a b c d : Int} {xs : List Int} (h : rises a b xs = true) (h1 : c ≤ a) (h2 : b ≤ d) : rises c d xs = true := by
  have := rises_Rises.1 h
  exact rises_Rises.2 ⟨fun j hj => by have := this.bd j hj; omega, this.up⟩
theorem fr_full {rows : List (List Int)} (h0 : inB 2 6 (rows.length : Int) = true) (h : ∀ i, i < rows.length → rises 0 1000 (rowsR rows i) = true) : frOk rows = isAba rows.length (frL rows) := by
  have hin := inB_iff.1 h0
  cases hb : isAba rows.length (frL rows)
  · simp [frOk, hb]
  · have hb2 := hb
    simp only [isAba, Bool.and_eq_true] at hb
    have G := goodB_pos (goodB_iff.1 hb.2)
    have hn : (abfL rows.length (rowsR rows) rows.length).Nodup := abfL_nodup _ (Nat.le_refl _) fun i hi => pw_nodup (rise_pw (rises_Rises.1 (h i hi)).up)
    rw [fr_ok h0 fun i hi => ?_, hb2]
    refine rises_Rises.2 ⟨fun j hj => ?_, (rises_Rises.1 (h i hi)).up⟩
    have hbd := (rises_Rises.1 (h i hi)).bd j hj
    have hm : (rowsR rows i).getD j 0 * (rows.length : Int) + i ∈ frL rows := by
      unfold frL
      rw [(insF_all hn).2.1, mem_abfL]
      exact ⟨i, _, hi, mem_getD.2 ⟨j, hj, rfl⟩, rfl⟩
    have hg := G _ hm
    obtain ⟨y, hy⟩ : ∃ y, y = (rowsR rows i).getD j 0 := ⟨_, rfl⟩
    rw [← hy] at hg hbd ⊢
    have h2 : y * 2 ≤ y * (rows.length : Int) := Int.mul_le_mul_of_nonneg_left (by omega) hbd.1
    omega
theorem fr_tot {rows : List (List Int)} (h : frOk rows = true) : tot rows ≤ 40 ∧ ∀ i, i < rows.length → rises 0 1000 (rowsR rows i) = true := by
  simp only [frOk, Bool.and_eq_true, List.all_eq_true] at h
  obtain ⟨h0, h1, h2⟩ := h
  have hall : ∀ i, i < rows.length → rwOk (rowsR rows i) = true := fun i hi => h1 _ (by
    unfold rowsR; rw [List.getD_eq_getElem?_getD, List.getElem?_eq_getElem hi]; exact List.getElem_mem hi)
  refine ⟨?_, fun i hi => rises_wide (hall i hi) (by omega) (by omega)⟩
  simp only [isAba, Bool.and_eq_true] at h2
  have hl := (goodB_iff.1 h2.2).len
  unfold frL at hl
  rw [(insF_all (fr_nodup hall)).2.2, abfL_tot _ _ _ (Nat.le_refl _), List.take_of_length_le (Nat.le_refl _)] at hl
  exact hl
theorem fr_tot_no {rows : List (List Int)} {k : Nat} (h : 40 < tot (rows.take k)) : frOk rows = false := by
  cases hb : frOk rows
  · rfl
  · have := (fr_tot hb).1; have := tot_take_le rows k; omega
theorem fr_rise_no {rows : List (List Int)} {k : Nat} (hk : k < rows.length) (h : rises 0 1000 (rows.getD k []) = false) : frOk rows = false := by
  cases hb : frOk rows
  · rfl
  · have := (fr_tot hb).2 k hk
    unfold rowsR at this
    rw [h] at this; cases this

set_option maxRecDepth 100000 in
set_option maxHeartbeats 8000000 in
theorem spec_FromRunners (A : Option Addr) (c : Nat) (rows : List (List Int)) (w : World) (hl : rows.length ≤ 1048576 ∧ tot rows ≤ 1048576) (hc : Cells2 w A rows) :
    Calls Try.prog 50 #[.slice A rows.length c] w fun e w' => ∃ A' c', e = .returned (.tuple #[.agg #[.int .i64 (frT rows), .slice A' (frF rows).length c'], .bool (frOk rows)]) ∧ Own w' w.heap.size A' c' (frF rows) ∧ Below w.heap.size w w' := by
  obtain ⟨w0, hw0⟩ : ∃ w0, w0 = w.alloc (.cells #[.int .i64 0, .slice none 0 0] 26) := ⟨_, rfl⟩
  have z0 : Box2 w0 w.heap.size 26 (.int .i64 0) (.slice none 0 0) := by rw [hw0]; exact Box2.new _ _ _ _
  have b0 : Below w.heap.size w w0 := by rw [hw0]; exact (Below.refl _ _).alloc (Nat.le_refl _) _
  have hs0 : w.heap.size < w0.heap.size := by rw [hw0]; simp
  have HW := hid hw0
  have HZ := hid z0
  have f1 := z0.cell0
  have f2 := z0.froz 0
  have z2 := z0.set0 (.int .i64 0)
  have f3 := z2.cell1
  have f4 := z2.froz 1
  have Z3 := hid (z2.set1 (.slice none 0 0))
  clear hw0 z0 z2
  cases hr : inB 2 6 (rows.length : Int)
  · obtain ⟨e1, e2⟩ := fr_no (rows := rows) (by simp [frOk, hr])
    rw [e1, e2, show frOk rows = false by simp [frOk, hr]]
    have HR := hid hr
    clear hr e1 e2
    go_enter Try.func50, Try.ntmps50
    go_wp2_with fail
    rw [← HW.out]
    refine (abRunners_b _ _ _ HR.out).mono ?_
    rintro e w' ⟨rfl, rfl⟩
    go_wp2_with fail
    refine bodyPost_ret (results_cell2 rfl _ _ _ w.heap.size 26 #[.int .i64 0, .slice none 0 0] (0, 0) _ rfl Z3.out Try.underlying26 rfl (by kernel_rfl)) rfl ⟨none, 0, rfl, own_nil _ _, (b0.setCell (Nat.le_refl _) _).setCell (Nat.le_refl _) _⟩
  have hin := inB_iff.1 hr
  have ht2 : 2 ≤ rows.length ∧ rows.length ≤ 6 := by omega
  have HTN := hid (fun k (h : 40 < tot (rows.take k)) => fr_tot_no h)
  have HRN := hid (fun k (hk : k < rows.length) h => fr_rise_no (rows := rows) hk h)
  have HFU := hid (fun h => fr_full (rows := rows) hr h)
  have HNO := hid (fun h => fr_no (rows := rows) h)
  have HYES := hid (fun h => fr_yes (rows := rows) h)
  have HTS := hid (fun k (hk : k < rows.length) => tot_take_succ rows k hk)
  have HTL := hid (fun k (hk : k < rows.length) => (Nat.le_trans (tot_get_le rows k hk) hl.2 : (rows.getD k []).length ≤ 1048576))
  have HAT := hid (show tot (rows.take rows.length) ≤ 40 → (abfL rows.length (rowsR rows) rows.length).length ≤ 40 from fun h => by rw [abfL_tot _ _ _ (Nat.le_refl _)]; exact h)
  have HAF := hid (show (∀ i, i < rows.length → rises 0 1000 (rowsR rows i) = true) → tot (rows.take rows.length) ≤ 40 → ∀ W, Cells2 W A rows → Calls Try.prog 118 #[.slice A rows.length c] W fun e w' => ∃ A' c', e = .returned (.agg #[.int .i64 rows.length, .slice A' (frL rows).length c']) ∧ Own w' W.heap.size A' c' (frL rows) ∧ Below W.heap.size W w' from fun hall htt W hcW => by
    have hn : (abfL rows.length (rowsR rows) rows.length).Nodup := abfL_nodup _ (Nat.le_refl _) fun i hi => pw_nodup (rise_pw (rises_Rises.1 (hall i hi)).up)
    have h40 : (abfL rows.length (rowsR rows) rows.length).length ≤ 40 := by rw [abfL_tot _ _ _ (Nat.le_refl _)]; exact htt
    have h := abFrom_any A c rows rows.length W rfl (by omega) hn (by show (abfL rows.length (rowsR rows) rows.length).length ≤ 900; omega) (fun i hi => ⟨by
      have h1 := tot_take_succ rows i hi
      have h2 := tot_take_le rows (i + 1)
      rw [List.take_of_length_le (Nat.le_refl _)] at htt
      omega, (rises_Rises.1 (hall i hi)).bd⟩) hcW
    have e1 : insF (abfL rows.length (fun i => rows.getD i []) rows.length) = frL rows := rfl
    have e2 : (abfL rows.length (fun i => rows.getD i []) rows.length).length = (frL rows).length := (insF_all hn).2.2.symm
    rw [e1, e2] at h; exact h)
  have HR := hid hr
  obtain ⟨rT, hrT⟩ : ∃ rT, rT = frT rows := ⟨_, rfl⟩
  obtain ⟨rX, hrX⟩ : ∃ rX, rX = frF rows := ⟨_, rfl⟩
  obtain ⟨rB, hrB⟩ : ∃ rB, rB = frOk rows := ⟨_, rfl⟩
  rw [← hrT, ← hrX, ← hrB] at HNO HYES
  rw [← hrB] at HTN HRN HFU
  rw [← hrT, ← hrX, ← hrB]
  have HC2 := hid hc
  obtain ⟨Pt, Ct, hA1, hA2⟩ := hc
  have HA1 := hid hA1; have HA2 := hid hA2
  clear hr hin hA1 hA2 hrT hrX hrB hl
  go_enter Try.func50, Try.ntmps50
  go_wp2_with fail
  rw [← HW.out]
  refine (abRunners_b _ _ _ HR.out).mono ?_
  rintro e w' ⟨rfl, rfl⟩
  go_wp2_with fail
  go_loop [4, 15] (fun nv i => ∃ k : Nat, k ≤ rows.length ∧ i = .int .i64 k ∧ (∃ n : Nat, nv = .int .i64 n ∧ n = tot (rows.take k) ∧ n ≤ 40) ∧ Hid (∀ j, j < k → rises 0 1000 (rowsR rows j) = true)) (fun _ i => rows.length - (intOf i).toNat)
  case atStart => exact ⟨0, Nat.zero_le _, rfl, ⟨0, rfl, by simp [tot], by omega⟩, hid fun j hj => absurd hj (Nat.not_lt_zero _)⟩
  case round =>
    obtain ⟨k, hk, rfl, ⟨n, rfl, hn, hn40⟩, HAL⟩ := hrel
    have HN := hid hn
    by_cases hlt : k < rows.length
    · obtain ⟨b, o, rfl, hcc⟩ := HA1.out (by omega)
      have hck := (b0.cell (World.block_lt_of_cell? w _ (hcc k hlt))).trans (hcc k hlt)
      have hrow := (HA2.out k hlt).below b0
      have hlen := HTL.out k hlt
      have hts := HTS.out k hlt
      rw [← hn] at hts
      have HTNk := hid (HTN.out (k + 1))
      have HRNk := hid (HRN.out k hlt)
      have HLR := hid (l1Rising_any (Pt k) (rows.getD k []) (Ct k) 0 1000 w0 hlen hrow)
      have HRR := hid (show rowsR rows k = rows.getD k [] from rfl)
      obtain ⟨L, hL⟩ : ∃ L, L = rows.getD k [] := ⟨_, rfl⟩
      rw [← hL] at hck hlen hts HRNk HLR HRR
      rw [hts] at HTNk
      have HTK := hid hts
      clear hcc hrow hts hL hn
      by_cases h40 : 40 < n + L.length
      · have hf := HTNk.out h40
        obtain ⟨e1, e2⟩ := HNO.out hf
        have HF := hid hf; have HE1 := hid e1; have HE2 := hid e2
        clear hf e1 e2
        go_wp2_with fail
        refine bodyPost_ret (results_cell2 rfl _ _ _ w.heap.size 26 #[.int .i64 0, .slice none 0 0] (0, 0) _ rfl Z3.out Try.underlying26 rfl (by kernel_rfl)) rfl ⟨none, 0, by rw [HE1.out, HE2.out, HF.out]; rfl, by rw [HE2.out]; exact own_nil _ _, (b0.setCell (Nat.le_refl _) _).setCell (Nat.le_refl _) _⟩
      · have hn2 : n + L.length ≤ 40 := by omega
        cases hrs : rises 0 1000 L
        · have hf := HRNk.out hrs
          obtain ⟨e1, e2⟩ := HNO.out hf
          rw [hrs] at HLR
          have HF := hid hf; have HE1 := hid e1; have HE2 := hid e2
          clear hf e1 e2 hrs
          go_wp2_with (go_at_call 117; refine HLR.out.mono ?_; rintro e w' ⟨rfl, rfl⟩)
          refine bodyPost_ret (results_cell2 rfl _ _ _ w.heap.size 26 #[.int .i64 0, .slice none 0 0] (0, 0) _ rfl Z3.out Try.underlying26 rfl (by kernel_rfl)) rfl ⟨none, 0, by rw [HE1.out, HE2.out, HF.out]; rfl, by rw [HE2.out]; exact own_nil _ _, (b0.setCell (Nat.le_refl _) _).setCell (Nat.le_refl _) _⟩
        · rw [hrs] at HLR
          have HRS := hid hrs
          clear hrs
          go_wp2_with (go_at_call 117; refine HLR.out.mono ?_; rintro e w' ⟨rfl, rfl⟩)
          go_round
          case rel => exact ⟨k + 1, by omega, by go_num, ⟨n + L.length, by go_num, HTK.out.symm, hn2⟩, hid fun j hj => by
            rcases Nat.lt_or_ge j k with h | h
            · exact HAL.out j h
            · rw [show j = k by omega, HRR.out]; exact HRS.out⟩
          case measure => simp [intOf]; omega
    · have hkl : k = rows.length := by omega
      subst hkl
      have htt : tot (rows.take rows.length) ≤ 40 := by rw [← hn]; exact hn40
      have HFR := hid (HAF.out HAL.out htt)
      have hfu := HFU.out HAL.out
      have h40 := HAT.out htt
      have HLL := hid (show (frL rows).length ≤ 40 by
        unfold frL
        rw [(insF_all (abfL_nodup _ (Nat.le_refl _) fun i hi => pw_nodup (rise_pw (rises_Rises.1 (HAL.out i hi)).up))).2.2]; exact h40)
      obtain ⟨D, hD⟩ : ∃ D, D = frL rows := ⟨_, rfl⟩
      rw [← hD] at HFR HLL hfu HYES
      have hD40 := HLL.out
      have HCW := hid (show Cells2 w0 A rows by
        obtain ⟨P2, C2, q1, q2⟩ := HC2.out
        exact ⟨P2, C2, fun h => by obtain ⟨b, o, h1, h2⟩ := q1 h; exact ⟨b, o, h1, fun j hj => (b0.cell (World.block_lt_of_cell? w _ (h2 j hj))).trans (h2 j hj)⟩, fun j hj => (q2 j hj).below b0⟩)
      have HFUU := hid hfu
      clear hD htt hfu h40 hn f1 f2 f3 f4
      go_wp2_with fail
      refine (HFR.out _ HCW.out).mono ?_
      rintro e w5 ⟨A6, c6, rfl, o6, b6⟩
      have hs5 := b6.size
      obtain ⟨w6, hw6⟩ : ∃ w6, w6 = w5.alloc (.cells #[.int .i64 rows.length, .slice A6 D.length c6] 26) := ⟨_, rfl⟩
      have b56 : Below w5.heap.size w5 w6 := by rw [hw6]; exact (Below.refl _ _).alloc (Nat.le_refl _) _
      have n6 : Box2 w6 w5.heap.size 26 (.int .i64 rows.length) (.slice A6 D.length c6) := by rw [hw6]; exact Box2.new _ _ _ _
      have o7 := o6.below b56
      have m1 := n6.cell0
      have m2 := n6.cell1
      rw [hw6] at m1 m2
      have B5 := Below.next b0 b6
      have B6 := Below.next B5 b56
      have HW6 := hid hw6
      have HN6 := hid n6
      have HO7 := hid o7
      clear hw6 n6 o6 o7
      go_wp2_with fail
      rw [← HW6.out]
      cases hb : isAba rows.length D
      · have hf : rB = false := by rw [HFUU.out, hb]
        obtain ⟨e1, e2⟩ := HNO.out hf
        have HF := hid hf; have HE1 := hid e1; have HE2 := hid e2
        have HBB := hid hb
        clear hb hf e1 e2 m1 m2
        refine (abIs_b _ A6 c6 D w6 (by omega) HO7.out.cells _ HBB.out).mono ?_
        rintro e w7 ⟨rfl, b7⟩
        have z7 := ((HZ.out.next b6).next b56).next b7
        have g1 := z7.cell0
        have g2 := z7.froz 0
        have z8 := z7.set0 (.int .i64 0)
        have g3 := z8.cell1
        have g4 := z8.froz 1
        have Z9 := hid (z8.set1 (.slice none 0 0))
        have B7 := Below.next B6 b7
        clear z7 z8
        go_wp2_with fail
        refine bodyPost_ret (results_cell2 rfl _ _ _ w.heap.size 26 #[.int .i64 0, .slice none 0 0] (0, 0) _ rfl Z9.out Try.underlying26 rfl (by kernel_rfl)) rfl ⟨none, 0, by rw [HE1.out, HE2.out, HF.out]; rfl, by rw [HE2.out]; exact own_nil _ _, (B7.setCell (Nat.le_refl _) _).setCell (Nat.le_refl _) _⟩
      · have hf : rB = true := by rw [HFUU.out, hb]
        obtain ⟨e1, e2⟩ := HYES.out hf
        have HF := hid hf; have HE1 := hid e1; have HE2 := hid e2
        have HBB := hid hb
        clear hb hf e1 e2 m1 m2
        refine (abIs_b _ A6 c6 D w6 (by omega) HO7.out.cells _ HBB.out).mono ?_
        rintro e w7 ⟨rfl, b7⟩
        have n7 := HN6.out.next b7
        have m1 := n7.cell0
        have m2 := n7.cell1
        have z7 := ((HZ.out.next b6).next b56).next b7
        have g1 := z7.cell0
        have g2 := z7.froz 0
        have z8 := z7.set0 (.int .i64 rows.length)
        have g3 := z8.cell1
        have g4 := z8.froz 1
        have Z9 := hid (z8.set1 (.slice A6 D.length c6))
        have B7 := Below.next B6 b7
        have HO9 := hid (own_set_other (g := w.heap.size) (k := 1) (u := .slice A6 D.length c6) (own_set_other (g := w.heap.size) (k := 0) (u := .int .i64 rows.length) (HO7.out.below b7) (by omega)) (by omega))
        clear z7 z8 n7
        go_wp2_with fail
        refine bodyPost_ret (results_cell2 rfl _ _ _ w.heap.size 26 #[.int .i64 rows.length, .slice A6 D.length c6] (0, 0) _ rfl Z9.out Try.underlying26 rfl (by kernel_rfl)) rfl ⟨A6, c6, by rw [HE1.out, HE2.out, HF.out]; rfl, by rw [HE2.out]; exact Own.more HO9.out (by omega), (B7.setCell (Nat.le_refl _) _).setCell (Nat.le_refl _) _⟩
end Go.Proofs.Ytnhjofcmaodamaa
