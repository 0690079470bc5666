/-
  The walk of FnNumbersOfPartitionsOfAll (made by gennp.py).
-/
import Derived.Test.YtalmeamgnmboiaaNpMath
import Derived.Test.YtalmeamgnmboiaaEu
import Derived.Test.YtalmeamgnmboiaaPnS
import Derived.Test.YtalmeamgnmboiaaCs
import Derived.Deep.CutRange
namespace Go.Proofs.Ytalmeamgnmboiaa
open Go.RowKit

set_option maxHeartbeats 1000000 in
theorem qSame_t (A B : Option Addr) (c d : Nat) (xs : List Int) (w : World) (hl : xs.length ≤ 1048576) (hA : Cells w A xs) (hB : Cells w B xs) :
    Calls Try.prog 10 #[.slice A xs.length c, .slice B xs.length d] w fun e w' => e = .returned (.bool true) ∧ Below w.heap.size w w' := by
  go_enter Try.func10, Try.ntmps10
  go_wp2_with fail
  go_loopw [13] (fun i wr => ∃ k : Nat, k ≤ xs.length ∧ i = .int .i64 k ∧ ∃ n, wr = w.drewN n) (fun i _ => xs.length - (intOf i).toNat)
  case atStart => exact ⟨0, Nat.zero_le _, rfl, 0, rfl⟩
  case round =>
    obtain ⟨k, hk, rfl, n, rfl⟩ := hrel
    by_cases hlt : k < xs.length
    · obtain ⟨b, o, rfl, hcc⟩ := hA (by omega)
      obtain ⟨b2, o2, rfl, hcc2⟩ := hB (by omega)
      have hck := hcc k hlt
      have hck2 := hcc2 k hlt
      clear hcc hcc2
      obtain ⟨x, hx⟩ : ∃ x, x = xs.getD k 0 := ⟨_, rfl⟩
      rw [← hx] at hck hck2
      clear hx
      go_wp2_with fail
      go_quiet (fail)
      go_wp2_with fail
      go_roundw
      case rel => exact ⟨k + 1, by omega, by go_num, _, rfl⟩
      case measure => simp [intOf]; omega
    · go_wp2_with fail
      go_ret
      exact ⟨rfl, below_drew' _ _⟩
theorem pnT_take_get {n j : Nat} (h : j < n) : (pnT.take n).getD j 0 = pnT.getD j 0 := by
  rw [List.getD_eq_getElem?_getD, List.getD_eq_getElem?_getD, List.getElem?_take_of_lt h]

set_option maxRecDepth 100000 in
set_option maxHeartbeats 16000000 in
theorem walkNumbersOfPartitionsOfAll (n k : Int) (w : World) (hn : I64 n) (hk : I64 k) :
    Calls Try.prog 3 #[.int .i64 n, .int .i64 k] w fun e w' => e = .returned (.bool true) ∧ Below w.heap.size w w' := by
  have HP1 := hid fun W => impl_PartitionNumbers n W hn
  have HP2 := hid fun W => spec_PartitionNumbers n W hn
  have HQ := hid fun A B c d W (hA : Cells W A (pnF n)) (hB : Cells W B (pnF n)) => qSame_t A B c d (pnF n) W (bound_PartitionNumbers n) hA hB
  have HN1 := hid fun W => impl_PartitionNumber n W hn
  have HD1 := hid fun W => impl_DifferentNumber n W hn
  have HD2 := hid fun W => spec_DifferentNumber n W hn
  have HO1 := hid fun W => impl_OddNumber n W hn
  rw [← dnF_onF n] at HO1
  have HK1 := hid fun W => impl_PentagonalAt k W hk
  have HK2 := hid fun W => spec_PentagonalAt k W hk
  have HKT : Hid (pntB k = true → (∀ W, Calls Try.prog 11 #[.int .i64 (-k)] W fun e w' => e = .returned (.tuple #[.int .i64 (pntF k + k), .bool true]) ∧ Below W.heap.size W w') ∧ (0 ≤ pntF k ∧ pntF k ≤ 4000000) ∧ (0 ≤ k * (3 * k - 1) ∧ k * (3 * k - 1) ≤ 4000000) ∧ 2 * pntF k = k * (3 * k - 1) ∧ -1000 ≤ k ∧ k ≤ 1000 ∧ True) := by
    intro hK
    have hkb := inB_iff.1 hK
    have e3 : pntB (-k) = true := inB_iff.2 (by omega)
    rw [pntF_t hK]
    refine ⟨fun W => ?_, pnt_bd hkb, pnt_prod hkb, pnt_two hkb, hkb.1, hkb.2, trivial⟩
    have h := impl_PentagonalAt (-k) W ⟨by omega, by omega⟩
    rw [pntF_t e3, e3, pnt_neg hkb] at h
    exact h
  obtain ⟨PV, hPV⟩ : ∃ v, v = pntF k := ⟨_, rfl⟩
  obtain ⟨TB, hTB⟩ : ∃ v, v = pntB k := ⟨_, rfl⟩
  obtain ⟨G, hG⟩ : ∃ G, G = k * (3 * k - 1) := ⟨_, rfl⟩
  rw [← hPV, ← hTB] at HK1 HK2
  rw [← hPV, ← hTB, ← hG] at HKT
  have HKK := hid hG.symm
  clear hPV hTB hG
  cases hB : nmB n
  · rw [pnF_f hB] at HP1 HP2 HQ
    rw [hB] at HP1 HP2
    rw [pvF_f hB, hB] at HN1
    rw [dnF_f hB, hB] at HD1 HD2 HO1
    simp only [List.length_nil] at HP1 HP2 HQ
    have B0 : Below w.heap.size w w := Below.refl _ _
    go_enter Try.func3, Try.ntmps3
    go_wp2_with fail
    refine (HP1.out _).mono ?_
    rintro e w1 ⟨Ap1, cp1, rfl, op1, b1⟩
    have B1 : Below w.heap.size w w1 := Below.next B0 b1
    go_wp2_with fail
    refine (HP2.out _).mono ?_
    rintro e w2 ⟨Ap2, cp2, rfl, op2, b2⟩
    have B2 : Below w.heap.size w w2 := Below.next B1 b2
    have op1_2 := op1.below b2
    clear op1
    go_wp2_with fail
    refine (HN1.out _).mono ?_
    rintro e w3 ⟨rfl, b3⟩
    have B3 : Below w.heap.size w w3 := Below.next B2 b3
    have op1_3 := op1_2.below b3
    clear op1_2
    have op2_3 := op2.below b3
    clear op2
    go_wp2_with fail
    refine (HD1.out _).mono ?_
    rintro e w4 ⟨rfl, b4⟩
    have B4 : Below w.heap.size w w4 := Below.next B3 b4
    have op1_4 := op1_3.below b4
    clear op1_3
    have op2_4 := op2_3.below b4
    clear op2_3
    go_wp2_with fail
    refine (HD2.out _).mono ?_
    rintro e w5 ⟨rfl, b5⟩
    have B5 : Below w.heap.size w w5 := Below.next B4 b5
    have op1_5 := op1_4.below b5
    clear op1_4
    have op2_5 := op2_4.below b5
    clear op2_4
    go_wp2_with fail
    refine (HO1.out _).mono ?_
    rintro e w6 ⟨rfl, b6⟩
    have B6 : Below w.heap.size w w6 := Below.next B5 b6
    have op1_6 := op1_5.below b6
    clear op1_5
    have op2_6 := op2_5.below b6
    clear op2_5
    go_wp2_with fail
    refine (HQ.out _ _ _ _ _ op1_6.cells op2_6.cells).mono ?_
    rintro e w7 ⟨rfl, b7⟩
    have B7 : Below w.heap.size w w7 := Below.next B6 b7
    have op1_7 := op1_6.below b7
    clear op1_6
    have op2_7 := op2_6.below b7
    clear op2_6
    go_wp2_with fail
    refine (HK1.out _).mono ?_
    rintro e w8 ⟨rfl, b8⟩
    have B8 : Below w.heap.size w w8 := Below.next B7 b8
    have op1_8 := op1_7.below b8
    clear op1_7
    go_wp2_with fail
    refine (HK2.out _).mono ?_
    rintro e w9 ⟨rfl, b9⟩
    have B9 : Below w.heap.size w w9 := Below.next B8 b9
    have op1_9 := op1_8.below b9
    clear op1_8
    go_upto_if 111 with fail
    go_cut [21, 22] from 111 to 136 (fun a b wx => Below w9.heap.size w9 wx)
    case first =>
      cases TB
      · go_wp2_with fail
        go_meet
        case rel => exact Below.refl _ _
      · obtain ⟨HK3, hp0, hpp, htwo, hk1, hk2, -⟩ := HKT.out rfl
        have hGG := HKK.out
        go_wp2_with fail
        refine (HK3 _).mono ?_
        rintro e wx ⟨rfl, bx⟩
        go_wp2_with fail
        go_meet
        case rel => exact bx
    case rest =>
    obtain ⟨wz, rfl⟩ : ∃ wz : World, wz = wc := ⟨_, rfl⟩
    have Bc : Below w.heap.size w wz := Below.next B9 hcut
    have oc := op1_9.below hcut
    go_wp2_with fail
    go_ret
    exact ⟨rfl, Bc⟩
  · obtain ⟨n, rfl, hn200⟩ := nmB_nat hB
    have hlen := pnT_take_len (n := n + 1) (by omega)
    rw [pnF_t hB] at HP1 HP2 HQ
    rw [hB, hlen] at HP1 HP2
    rw [hlen] at HQ
    rw [pvF_t hB, hB] at HN1
    rw [hB] at HD1 HD2 HO1
    have hVb := pnT_bd n (by omega)
    obtain ⟨V, hV⟩ : ∃ V, V = pnT.getD n 0 := ⟨_, rfl⟩
    rw [← hV] at HN1 hVb
    have HVV := hid hV
    obtain ⟨D, hD⟩ : ∃ D, D = dnF n := ⟨_, rfl⟩
    rw [← hD] at HD1 HD2 HO1
    have hdc := hid ((show D = dnF n from hD).trans (dnF_t hB))
    clear hV hlen hD hB
    have B0 : Below w.heap.size w w := Below.refl _ _
    go_enter Try.func3, Try.ntmps3
    go_wp2_with fail
    refine (HP1.out _).mono ?_
    rintro e w1 ⟨Ap1, cp1, rfl, op1, b1⟩
    have B1 : Below w.heap.size w w1 := Below.next B0 b1
    go_wp2_with fail
    refine (HP2.out _).mono ?_
    rintro e w2 ⟨Ap2, cp2, rfl, op2, b2⟩
    have B2 : Below w.heap.size w w2 := Below.next B1 b2
    have op1_2 := op1.below b2
    clear op1
    go_wp2_with fail
    refine (HN1.out _).mono ?_
    rintro e w3 ⟨rfl, b3⟩
    have B3 : Below w.heap.size w w3 := Below.next B2 b3
    have op1_3 := op1_2.below b3
    clear op1_2
    have op2_3 := op2.below b3
    clear op2
    go_wp2_with fail
    refine (HD1.out _).mono ?_
    rintro e w4 ⟨rfl, b4⟩
    have B4 : Below w.heap.size w w4 := Below.next B3 b4
    have op1_4 := op1_3.below b4
    clear op1_3
    have op2_4 := op2_3.below b4
    clear op2_3
    go_wp2_with fail
    refine (HD2.out _).mono ?_
    rintro e w5 ⟨rfl, b5⟩
    have B5 : Below w.heap.size w w5 := Below.next B4 b5
    have op1_5 := op1_4.below b5
    clear op1_4
    have op2_5 := op2_4.below b5
    clear op2_4
    go_wp2_with fail
    refine (HO1.out _).mono ?_
    rintro e w6 ⟨rfl, b6⟩
    have B6 : Below w.heap.size w w6 := Below.next B5 b6
    have op1_6 := op1_5.below b6
    clear op1_5
    have op2_6 := op2_5.below b6
    clear op2_5
    go_wp2_with fail
    refine (HQ.out _ _ _ _ _ op1_6.cells op2_6.cells).mono ?_
    rintro e w7 ⟨rfl, b7⟩
    have B7 : Below w.heap.size w w7 := Below.next B6 b7
    have op1_7 := op1_6.below b7
    clear op1_6
    have op2_7 := op2_6.below b7
    clear op2_6
    go_wp2_with fail
    refine (HK1.out _).mono ?_
    rintro e w8 ⟨rfl, b8⟩
    have B8 : Below w.heap.size w w8 := Below.next B7 b8
    have op1_8 := op1_7.below b8
    clear op1_7
    go_wp2_with fail
    refine (HK2.out _).mono ?_
    rintro e w9 ⟨rfl, b9⟩
    have B9 : Below w.heap.size w w9 := Below.next B8 b9
    have op1_9 := op1_8.below b9
    clear op1_8
    go_upto_if 111 with fail
    go_cut [21, 22] from 111 to 136 (fun a b wx => Below w9.heap.size w9 wx)
    case first =>
      cases TB
      · go_wp2_with fail
        go_meet
        case rel => exact Below.refl _ _
      · obtain ⟨HK3, hp0, hpp, htwo, hk1, hk2, -⟩ := HKT.out rfl
        have hGG := HKK.out
        go_wp2_with fail
        refine (HK3 _).mono ?_
        rintro e wx ⟨rfl, bx⟩
        go_wp2_with fail
        go_meet
        case rel => exact bx
    case rest =>
    obtain ⟨wz, rfl⟩ : ∃ wz : World, wz = wc := ⟨_, rfl⟩
    have Bc : Below w.heap.size w wz := Below.next B9 hcut
    have oc := op1_9.below hcut
    obtain ⟨b0, o0, rfl, hcc⟩ := oc.cells (by rw [pnT_take_len (by omega)]; omega)
    rw [pnT_take_len (by omega)] at hcc
    have HCC := hid (fun j (hj : j < n + 1) => (hcc j hj).trans (by rw [pnT_take_get hj]))
    have hcn := HCC.out n (by omega)
    rw [← HVV.out] at hcn
    have hBB := hid Bc
    clear hcc oc
    go_wp2_with fail
    clear hcn
    go_loopw [159] (fun i wr => ∃ j : Nat, j ≤ n + 1 ∧ i = .int .i64 j ∧ Hid (Below wz.heap.size wz wr)) (fun i _ => n + 1 - (intOf i).toNat)
    case atStart => exact ⟨0, Nat.zero_le _, rfl, hid (Below.refl _ _)⟩
    case round =>
      obtain ⟨j, hj, rfl, HBJ⟩ := hrel
      by_cases hlt : j < n + 1
      · have hck := (HBJ.out.cell (World.block_lt_of_cell? _ _ (HCC.out j hlt))).trans (HCC.out j hlt)
        have hxb := pnT_bd j (by omega)
        have D5 := pnT_5 j (by omega)
        have D7 := pnT_7 j (by omega)
        have D11 := pnT_11 j (by omega)
        have hup := pnT_up j (by omega)
        have hct := hid fun h => pnT_T j h
        have hjl : (j : Int) < (n : Int) + 1 := by omega
        obtain ⟨x, hx⟩ : ∃ x, x = pnT.getD j 0 := ⟨_, rfl⟩
        rw [← hx] at hck hxb D5 D7 D11 hct hup
        have HUP := hid hup
        have HD5 := hid D5
        have HD7 := hid D7
        have HD11 := hid D11
        clear hx hup D5 D7 D11
        go_upto_region 24 with fail
        go_cut [159, 174] from 159 to 217 (fun i v wx => i = .int .i64 (j : Int) ∧ v = .bool false ∧ wr = wx)
        case first =>
          by_cases h0 : 1 ≤ j
          · have hck1 := (HBJ.out.cell (World.block_lt_of_cell? _ _ (HCC.out (j - 1) (by omega)))).trans (HCC.out (j - 1) (by omega))
            obtain ⟨q, hq⟩ : ∃ q, q = j - 1 := ⟨_, rfl⟩
            have hqi : IntKind.i64.wrap ((j : Int) - 1) = (q : Int) := by rw [IntWalk.i64_in _ (by omega)]; omega
            have hql : (q : Int) < (n : Int) + 1 := by omega
            have hj0 : (0 : Int) < (j : Int) := by omega
            have hu := HUP.out h0
            rw [← hq] at hck1 hu
            obtain ⟨y, hy⟩ : ∃ y, y = pnT.getD q 0 := ⟨_, rfl⟩
            rw [← hy] at hck1 hu
            clear hy hq
            go_wp2_with fail
            go_meet
            case rel => exact ⟨rfl, by rw [decide_eq_false (show ¬ x < y by omega)], rfl⟩
          · have hj0 : ¬ (0 : Int) < (j : Int) := by omega
            go_wp2_with fail
            go_meet
            case rel => exact ⟨rfl, rfl, rfl⟩
        case rest =>
        obtain ⟨rfl, rfl, rfl⟩ := hcut
        go_upto_if 176 with fail
        go_cut [159, 25, 26] from 159 to 217 (fun i a b wx => i = .int .i64 (j : Int) ∧ Below wr.heap.size wr wx)
        case first =>
          by_cases h30 : (j : Int) ≤ 30
          · have hcv := hct.out (by omega)
            have HCP := hid fun W => impl_CountPartitions (j : Int) W ⟨by omega, by omega⟩
            rw [countF_t j (by omega), show okN (j : Int) = true from inB_iff.2 (by omega), hcv] at HCP
            clear hcv
            go_wp2_with (go_at_call 13; refine (HCP.out _).mono ?_; rintro e w50 ⟨rfl, b50⟩)
            go_meet
            case rel => exact ⟨rfl, b50⟩
          · go_wp2_with fail
            go_meet
            case rel => exact ⟨rfl, Below.refl _ _⟩
        case rest =>
        obtain ⟨rfl, b51⟩ := hcut
        have HB51 := hid (HBJ.out.trans (b51.mono HBJ.out.size))
        clear hck b51
        go_upto_region 30 with fail
        go_cut [159, 216] from 159 to 217 (fun i v wx => i = .int .i64 (j : Int) ∧ v = .bool false ∧ Below wz.heap.size wz wx)
        case first =>
          rcases HD5.out with ⟨a1, a2⟩ | a1 <;> rcases HD7.out with ⟨a3, a4⟩ | a3 <;> rcases HD11.out with ⟨a5, a6⟩ | a5
          all_goals
            go_wp2_with fail
            go_meet
            case rel => exact ⟨rfl, rfl, HB51.out⟩
        case rest =>
        obtain ⟨rfl, rfl, b52⟩ := hcut
        go_wp2_with fail
        go_roundw
        case rel => exact ⟨j + 1, by omega, by go_num, hid b52⟩
        case measure => simp [intOf]; omega
      · have hje : j = n + 1 := by omega
        subst hje
        have HE := hid (hBB.out.trans (HBJ.out.mono hBB.out.size))
        by_cases h30 : n ≤ 30
        · have HCS := hid fun W => impl_CountStrict (n : Int) W hn
          have hok : okN (n : Int) = true := inB_iff.2 (by omega)
          rw [csF_t hok, hok, ← hdc.out] at HCS
          have h30i : (n : Int) ≤ 30 := by omega
          clear hok
          go_wp2_with (go_at_call 14; refine (HCS.out _).mono ?_; rintro e w60 ⟨rfl, b60⟩)
          go_ret
          exact ⟨by first | rfl | exact ret_bool (by simp), HE.out.trans (b60.mono HE.out.size)⟩
        · have h30i : ¬ (n : Int) ≤ 30 := by omega
          go_wp2_with fail
          go_ret
          exact ⟨rfl, HE.out⟩
end Go.Proofs.Ytalmeamgnmboiaa
