/-
  Contracts: PartitionNumbers, PartitionNumber of the model.
-/
import Derived.Test.YtalmeamgnmboiaaPnI
namespace Go.Proofs.Ytalmeamgnmboiaa
open Go.RowKit

theorem sg1_next (k : Nat) : sg1 (k + 1) = - sg1 k := by
  unfold sg1
  rcases Nat.mod_two_eq_zero_or_one k with h | h
  · rw [if_pos h, if_neg (show ¬ (k + 1) % 2 = 0 by omega)]
  · rw [if_neg (show ¬ k % 2 = 0 by omega), if_pos (show (k + 1) % 2 = 0 by omega)]; rfl
theorem pq_neg {n q : Nat} (h : ¬ q ≤ n) : pq n q = 0 := by simp [pq, h]
theorem pq_get {n q : Nat} (h1 : 1 ≤ q) (h : q ≤ n) : (pnT.take n).getD (n - q) 0 = pq n q := by
  unfold pq
  rw [if_pos h, List.getD_eq_getElem?_getD, List.getD_eq_getElem?_getD, List.getElem?_take_of_lt (by omega)]

set_option maxRecDepth 100000 in
set_option maxHeartbeats 4000000 in
theorem rkNumbers_any (n : Nat) (w : World) (hn : n < 201) :
    Calls Try.prog 18 #[.int .i64 n] w fun e w' => ∃ A' c', e = .returned (.slice A' (n + 1) c') ∧ Own w' w.heap.size A' c' (pnT.take (n + 1)) ∧ Below w.heap.size w w' := by
  obtain ⟨i0, hi, hz0, hz1, hz2⟩ := info_parts Try.infoInt
  have hO1 : (w.alloc (.cells #[.int .i64 1] 3)).ownsRow w.heap.size 3 1 (.slice (some ⟨w.heap.size, 0, none⟩) 1 1) 1 (IL (pnT.take 1)) := World.ownsRow_lit (base := w.heap.size) (e := 3) (size := 1) w #[.int .i64 1] 1 (Nat.le_refl _) (by unfold maxLen; omega) rfl
  have hB1 := (Below.refl w.heap.size w).alloc (Nat.le_refl _) (.cells #[.int .i64 1] 3)
  obtain ⟨w1, hw1⟩ : ∃ w1, w1 = w.alloc (.cells #[.int .i64 1] 3) := ⟨_, rfl⟩
  rw [← hw1] at hO1 hB1
  have HW := hid hw1
  clear hw1
  go_enter Try.func18, Try.ntmps18
  go_wp2_with fail
  rw [← HW.out]
  go_loopw [3, 4] (fun v m wr => ∃ k : Nat, 1 ≤ k ∧ k ≤ n + 1 ∧ m = .int .i64 k ∧ wr.ownsRow w.heap.size 3 1 v k (IL (pnT.take k)) ∧ Below w.heap.size w wr) (fun _ m _ => n + 1 - (intOf m).toNat)
  case atStart => exact ⟨1, Nat.le_refl _, by omega, rfl, hO1, hB1⟩
  case round =>
    obtain ⟨k, hk1, hk2, rfl, hown, hbel⟩ := hrel
    clear hO1 hB1
    obtain ⟨wo, rfl⟩ : ∃ wo : World, wo = wr := ⟨_, rfl⟩
    have hkl : (pnT.take k).length = k := pnT_take_len (by omega)
    obtain ⟨A', c', rfl, ho⟩ := own_form hown hkl.symm
    rw [hkl] at hown ⊢
    by_cases hlt : k ≤ n
    · obtain ⟨b, o, rfl, hcc⟩ := ho.cells (by omega)
      rw [hkl] at hcc
      have HCC := hid hcc
      have HOWN := hid hown
      have HB := hid hbel
      have HKL := hid hkl
      clear hown ho hcc hbel hkl
      go_wp2_with fail
      go_loop [5, 6, 7] (fun s g i => ∃ j : Nat, j ≤ 11 ∧ i = .int .i64 ((j : Int) + 1) ∧ s = .int .i64 (nxS k j) ∧ g = .int .i64 (-(sg1 (j + 1)))) (fun _ _ i => 20 - (intOf i).toNat)
      case atStart => exact ⟨0, by omega, rfl, rfl, rfl⟩
      case round =>
        obtain ⟨j, hj, rfl, rfl, rfl⟩ := hrel
        have hq := q_bd (j + 1) (by omega)
        have e1 : pnt ((j : Int) + 1) = qA (j + 1) := (pnt_q (j + 1) (by omega)).1
        have e2 : pnt (-((j : Int) + 1)) = qB (j + 1) := (pnt_q (j + 1) (by omega)).2
        have HPA := hid fun wx => (e1 ▸ rkPentagonal_any ((j : Int) + 1) wx (by omega) : Calls Try.prog 23 #[.int .i64 ((j : Int) + 1)] wx fun e w' => e = .returned (.int .i64 (qA (j + 1))) ∧ wx = w')
        have HPB := hid fun wx => (e2 ▸ rkPentagonal_any (-((j : Int) + 1)) wx (by omega) : Calls Try.prog 23 #[.int .i64 (-((j : Int) + 1))] wx fun e w' => e = .returned (.int .i64 (qB (j + 1))) ∧ wx = w')
        have hsb := nxS_bd k (by omega) j (by omega)
        have hsb2 := nxS_bd k (by omega) (j + 1) (by omega)
        have hse := nxS_end k (by omega) j (by omega)
        have hss := nxS_succ k j
        have hg := sg1_or (j + 1)
        have hgn := sg1_next (j + 1)
        obtain ⟨qa, hqa⟩ : ∃ q, q = qA (j + 1) := ⟨_, rfl⟩
        obtain ⟨qb, hqb⟩ : ∃ q, q = qB (j + 1) := ⟨_, rfl⟩
        obtain ⟨s, hs⟩ : ∃ s, s = nxS k j := ⟨_, rfl⟩
        obtain ⟨g, hgg⟩ : ∃ g, g = sg1 (j + 1) := ⟨_, rfl⟩
        rw [← hqa, ← hqb] at hq
        rw [← hqa] at HPA hse
        rw [← hqb] at HPB
        rw [← hgg] at hg hgn ⊢
        rw [← hs] at hsb hse ⊢
        rw [← hqa, ← hqb, ← hs, ← hgg] at hss
        have ha := pq_bd (n := k) qa (by omega)
        have hb := pq_bd (n := k) qb (by omega)
        have hgA := pq_get (n := k) (q := qa) (by omega)
        have hgB := pq_get (n := k) (q := qb) (by omega)
        have hnB := pq_neg (n := k) (q := qb)
        clear e1 e2 hqa hqb hs hgg
        by_cases hla : qa ≤ k
        · have hcA := HCC.out (k - qa) (by omega)
          rw [hgA hla] at hcA
          obtain ⟨a, hae⟩ : ∃ a, a = pq k qa := ⟨_, rfl⟩
          obtain ⟨z, hze⟩ : ∃ z, z = pq k qb := ⟨_, rfl⟩
          rw [← hae] at ha hcA hss
          rw [← hze] at hb hgB hnB hss
          obtain ⟨p, hp⟩ : ∃ p, p = k - qa := ⟨_, rfl⟩
          rw [← hp] at hcA
          have hpi : IntKind.i64.wrap ((k : Int) - (qa : Int)) = (p : Int) := by rw [IntWalk.i64_in _ (by omega)]; omega
          have hpk : (p : Int) < (k : Int) := by omega
          obtain ⟨s2, hs2⟩ : ∃ s2, s2 = nxS k (j + 1) := ⟨_, rfl⟩
          rw [← hs2] at hsb2 hss
          have HS2 := hid hs2
          have HGN := hid hgn
          have hk11 : j + 1 ≤ 11 := by
            rcases Nat.lt_or_ge j 11 with h | h
            · omega
            · have := hq.2.2.2.1 (by omega); omega
          by_cases hlb : qb ≤ k
          · have hcB := HCC.out (k - qb) (by omega)
            rw [hgB hlb] at hcB
            obtain ⟨r, hr⟩ : ∃ r, r = k - qb := ⟨_, rfl⟩
            rw [← hr] at hcB
            have hri : IntKind.i64.wrap ((k : Int) - (qb : Int)) = (r : Int) := by rw [IntWalk.i64_in _ (by omega)]; omega
            have hrk : (r : Int) < (k : Int) := by omega
            clear hgA hgB hnB hae hze hp hr hs2 hgn hse
            rcases hg with rfl | rfl
            · have HSS := hid hss
              clear hss
              go_wp2_with (first | (go_at_call 23; refine (HPA.out _).mono ?_; rintro e w' ⟨rfl, rfl⟩) | (go_at_call 23; refine (HPB.out _).mono ?_; rintro e w' ⟨rfl, rfl⟩))
              go_round
              case rel => exact ⟨j + 1, hk11, by go_num, by rw [← HS2.out, HSS.out]; congr 1; omega, by rw [HGN.out]; rfl⟩
              case measure => simp [intOf]; omega
            · have HSS := hid hss
              clear hss
              go_wp2_with (first | (go_at_call 23; refine (HPA.out _).mono ?_; rintro e w' ⟨rfl, rfl⟩) | (go_at_call 23; refine (HPB.out _).mono ?_; rintro e w' ⟨rfl, rfl⟩))
              go_round
              case rel => exact ⟨j + 1, hk11, by go_num, by rw [← HS2.out, HSS.out]; congr 1; omega, by rw [HGN.out]; rfl⟩
              case measure => simp [intOf]; omega
          · have hz0' := hnB hlb
            clear hgA hgB hnB hae hze hp hs2 hgn hse
            rcases hg with rfl | rfl
            · have HSS := hid hss
              have HZ := hid hz0'
              clear hss hz0'
              go_wp2_with (first | (go_at_call 23; refine (HPA.out _).mono ?_; rintro e w' ⟨rfl, rfl⟩) | (go_at_call 23; refine (HPB.out _).mono ?_; rintro e w' ⟨rfl, rfl⟩))
              go_round
              case rel => exact ⟨j + 1, hk11, by go_num, by rw [← HS2.out, HSS.out, HZ.out]; congr 1; omega, by rw [HGN.out]; rfl⟩
              case measure => simp [intOf]; omega
            · have HSS := hid hss
              have HZ := hid hz0'
              clear hss hz0'
              go_wp2_with (first | (go_at_call 23; refine (HPA.out _).mono ?_; rintro e w' ⟨rfl, rfl⟩) | (go_at_call 23; refine (HPB.out _).mono ?_; rintro e w' ⟨rfl, rfl⟩))
              go_round
              case rel => exact ⟨j + 1, hk11, by go_num, by rw [← HS2.out, HSS.out, HZ.out]; congr 1; omega, by rw [HGN.out]; rfl⟩
              case measure => simp [intOf]; omega
        · have hfin := hse (by omega)
          have HTS := hid (pnT_take_succ (k := k) (by omega))
          rw [← hfin] at HTS
          have hown2 := HOWN.out
          clear hse hfin hss hsb2 hgA hgB hnB hgn
          go_wp2_with (first | (go_at_call 23; refine (HPA.out _).mono ?_; rintro e w' ⟨rfl, rfl⟩) | (at_builtin; refine wpList_append_own _ rfl _ _ 22 rfl w.heap.size 3 i0 (.int .i64 0) 1 8 Try.underlying22 hi hz0 hz1 hz2 rfl (by decide) _ _ _ rfl (hown2.alloc _) ⟨wo.heap.size, 0, none⟩ 1 1 [.int .i64 s] rfl rfl one_at (one_cell _) (by unfold maxLen; omega) (by omega) (by have := HB.out.size; simp; omega) ?_))
          intro v' w3 hown' hgrow _
          have hb3 : Below w.heap.size w w3 := (HB.out.alloc HB.out.size _).grown hgrow (by have := HB.out.size; simp; omega) (fun q hq => (hown2.lt q hq).1)
          have hs := own_snoc HTS.out (by rw [HKL.out]; exact hown')
          rw [pnT_take_len (by omega)] at hs
          have HS := hid hs
          clear hgrow hown' hown2 hs
          go_wp2_with fail
          go_roundw
          case rel => exact ⟨k + 1, by omega, by omega, by go_num, HS.out, hb3⟩
          case measure => simp [intOf]; omega
    · have hke : k = n + 1 := by omega
      subst hke
      have HO := hid ho
      clear ho hown
      go_wp2_with fail
      go_ret
      exact ⟨A', c', rfl, HO.out, hbel⟩

set_option maxHeartbeats 1000000 in
theorem spec_PartitionNumbers (n : Int) (w : World) (_hn : I64 n) :
    Calls Try.prog 5 #[.int .i64 n] w fun e w' => ∃ A' c', e = .returned (.tuple #[.slice A' (pnF n).length c', .bool (nmB n)]) ∧ Own w' w.heap.size A' c' (pnF n) ∧ Below w.heap.size w w' := by
  cases h : nmB n
  · rw [pnF_f h]
    have H := hid h; clear h
    go_enter Try.func5, Try.ntmps5
    go_wp2_with (go_at_call 17; refine (rkNumber_b _ _ _ H.out).mono ?_; rintro e w' ⟨rfl, rfl⟩)
    go_ret2
    exact ⟨none, 0, rfl, own_nil _ _, Below.refl _ _⟩
  obtain ⟨n, rfl, hn⟩ := nmB_nat h
  rw [pnF_t h, pnT_take_len (by omega)]
  have HR := hid (rkNumbers_any n w (by omega))
  have H := hid h; clear h
  go_enter Try.func5, Try.ntmps5
  go_wp2_with (first | (go_at_call 17; refine (rkNumber_b _ _ _ H.out).mono ?_; rintro e w' ⟨rfl, rfl⟩) | (go_at_call 18; refine HR.out.mono ?_; rintro e w2 ⟨A2, c2, rfl, o2, b2⟩))
  go_ret2
  exact ⟨A2, c2, rfl, o2, b2⟩

end Go.Proofs.Ytalmeamgnmboiaa
