/-
  The walk of FnPairsOfDifferentOfAll (made by genpsd.py).
-/
import Derived.Test.YtphfmlfojebjkaaPsgMath
import Derived.Test.YtphfmlfojebjkaaPrI
import Derived.Test.YtphfmlfojebjkaaPrS
import Derived.Test.YtphfmlfojebjkaaBr
import Derived.Test.YtphfmlfojebjkaaQsr
namespace Go.Proofs.Ytphfmlfojebjkaa
open Go.RowKit

theorem qSame_psd (A B : Option Addr) (c d : Nat) (xs : List Int) (w : World) (hl : xs.length ≤ 1048576) (hA : Cells w A xs) (hB : Cells w B xs) :
    Calls Try.prog 6 #[.slice A xs.length c, .slice B xs.length d] w fun e w' => e = .returned (.bool true) ∧ Below w.heap.size w w' :=
  (qSame_d A B c d xs xs w hl hl hA hB).mono (by rintro e w' ⟨rfl, n, rfl⟩; exact ⟨by rw [decide_eq_true rfl], below_drew' _ _⟩)
set_option maxRecDepth 100000 in
set_option maxHeartbeats 16000000 in
theorem walkPairsOfDifferentOfAll (A0 : Option Addr) (c0 : Nat) (p : List Int) (n : Int) (w : World)
    (h0 : Cells w A0 p) (hcap0 : p.length ≤ c0) (hno0 : A0 = none → c0 = 0) (hn64 : I64 n) :
    Calls Try.prog 3 #[.slice A0 p.length c0, .int .i64 n] w fun e w' => e = .returned (.bool true) ∧ Below w.heap.size w w' := by
  by_cases hbig : 10000 < p.length
  · have hb : (10000 : Int) < (p.length : Int) := by omega
    go_enter Try.func3, Try.ntmps3
    go_wp2_with fail
    go_ret
    exact ⟨rfl, Below.refl _ _⟩
  have hz0 : (p.length : Int) ≤ 10000 := by omega
  have hl0 : p.length ≤ 10000 := by omega
  have hnn : A0 = none → p.length = 0 ∧ c0 = 0 := fun e => by have := hno0 e; omega
  clear hbig hno0
  have HE := hid fun A B c d (xs : List Int) W (hl : xs.length ≤ 10000) (hA : Cells W A xs) (hB : Cells W B xs) => qSame_psd A B c d xs W (by omega) hA hB
  have HA1 := hid fun W (h : Cells W A0 p) => impl_PairOfC A0 c0 p W (by omega) hcap0 hnn h
  have HA2 := hid fun W (h : Cells W A0 p) => spec_PairOfC A0 c0 p W (by omega) hnn h
  have HI0 := hid fun W (h : Cells W A0 p) => impl_IsStrict A0 c0 p W (by omega) h
  have HN1 := hid fun W => impl_SignedNumber n W hn64
  have HN2 := hid fun W => spec_SignedNumber n W hn64
  have HP : Hid (∀ (K : Int) W, -6 ≤ K → K ≤ 6 → Calls Try.prog 11 #[.int .i64 K] W fun e w' => e = .returned (.tuple #[.int .i64 (pnt K), .bool true]) ∧ Below W.heap.size W w') := hid fun K W h1 h2 => by
    have hb : pntB K = true := inB_iff.2 (by omega)
    have H := impl_PentagonalAt K W ⟨by omega, by omega⟩
    rw [hb, pntF_t hb] at H
    exact H
  obtain ⟨D, hD⟩ : ∃ D, D = dueK n := ⟨_, rfl⟩
  have HD0 := hid (show D 0 = 0 by rw [hD]; rfl)
  have HDS := hid fun (j : Nat) (K : Int) (hK : K = j - 6) => show D (j + 1) = if pnt K = n then 1 - 2 * ((j % 2 : Nat) : Int) else D j by rw [hD, hK]; rfl
  have hdb := dueK_bd n 13
  rw [← hD] at hdb
  cases hok : prB p
  · have hf : prF p = [] := by unfold prF; unfold prB at hok; cases h : prO p with | none => rfl | some q => rw [h] at hok; cases hok
    rw [hok, hf] at HA1 HA2
    have HXL := hid (show ([] : List Int).length ≤ 10000 by simp)
    clear hf hnn
    cases htold : sgdB n
    · have es : sgdF n = 0 := sgdF_f htold
      rw [htold, es] at HN1 HN2
      clear htold es HD0 HDS hD hdb HP
      clear hok HI0
      have B0 : Below w.heap.size w w := Below.refl _ _
      go_enter Try.func3, Try.ntmps3
      go_wp2_with fail
      refine (HA1.out _ (h0.later B0)).mono ?_
      rintro e w1 ⟨Ad1, cd1, rfl, od1, b1⟩
      have B1 : Below w.heap.size w w1 := Below.next B0 b1
      go_wp2_with fail
      refine (HA2.out _ (h0.later B1)).mono ?_
      rintro e w2 ⟨Ad2, cd2, rfl, od2, b2⟩
      have B2 : Below w.heap.size w w2 := Below.next B1 b2
      have od1_2 := od1.below b2
      clear od1
      go_wp2_with fail
      refine (HE.out _ _ _ _ _ _ HXL.out od1_2.cells od2.cells).mono ?_
      rintro e w3 ⟨rfl, b3⟩
      have B3 : Below w.heap.size w w3 := Below.next B2 b3
      have od1_3 := od1_2.below b3
      clear od1_2
      have od2_3 := od2.below b3
      clear od2
      go_wp2_with fail
      refine (HN1.out _).mono ?_
      rintro e w4 ⟨rfl, b4⟩
      have B4 : Below w.heap.size w w4 := Below.next B3 b4
      go_wp2_with fail
      refine (HN2.out _).mono ?_
      rintro e w5 ⟨rfl, b5⟩
      have B5 : Below w.heap.size w w5 := Below.next B4 b5
      go_wp2_with fail
      go_ret
      exact ⟨by first | rfl | exact ret_bool (by simp), B5⟩
    · have es : sgdF n = D 13 := by rw [hD]; exact sgd_due htold
      obtain ⟨S, hS⟩ : ∃ S, S = D 13 := ⟨_, rfl⟩
      have HDE := hid hS.symm
      rw [htold, es, ← hS] at HN1 HN2
      rw [← hS] at hdb
      clear htold es hD hS
      cases hg : good p
      · rw [hg, show strB p = false by simp [strB, hg]] at HI0
        clear hok hg
        have B0 : Below w.heap.size w w := Below.refl _ _
        go_enter Try.func3, Try.ntmps3
        go_wp2_with fail
        refine (HA1.out _ (h0.later B0)).mono ?_
        rintro e w1 ⟨Ad1, cd1, rfl, od1, b1⟩
        have B1 : Below w.heap.size w w1 := Below.next B0 b1
        go_wp2_with fail
        refine (HA2.out _ (h0.later B1)).mono ?_
        rintro e w2 ⟨Ad2, cd2, rfl, od2, b2⟩
        have B2 : Below w.heap.size w w2 := Below.next B1 b2
        have od1_2 := od1.below b2
        clear od1
        go_wp2_with fail
        refine (HE.out _ _ _ _ _ _ HXL.out od1_2.cells od2.cells).mono ?_
        rintro e w3 ⟨rfl, b3⟩
        have B3 : Below w.heap.size w w3 := Below.next B2 b3
        have od1_3 := od1_2.below b3
        clear od1_2
        have od2_3 := od2.below b3
        clear od2
        go_wp2_with fail
        refine (HN1.out _).mono ?_
        rintro e w4 ⟨rfl, b4⟩
        have B4 : Below w.heap.size w w4 := Below.next B3 b4
        go_wp2_with fail
        refine (HN2.out _).mono ?_
        rintro e w5 ⟨rfl, b5⟩
        have B5 : Below w.heap.size w w5 := Below.next B4 b5
        go_wp2_with fail
        obtain ⟨wl, hwl⟩ : ∃ x, x = w5 := ⟨_, rfl⟩
        rw [← hwl] at B5 ⊢
        clear hwl
        go_loopw [17, 18] (fun dv iv wr => ∃ (j : Nat) (K : Int), j ≤ 13 ∧ K = j - 6 ∧ dv = .int .i64 (D j) ∧ iv = .int .i64 K ∧ Below wl.heap.size wl wr) (fun _ iv _ => 7 - intOf iv |>.toNat)
        case atStart => exact ⟨0, -6, by omega, by omega, by rw [HD0.out], rfl, Below.refl _ _⟩
        case round =>
          obtain ⟨j, K, hj, hK, rfl, rfl, hbr⟩ := hrel
          by_cases hlt : j < 13
          · have hk7 : K ≤ 6 := by omega
            have hkm : -6 ≤ K := by omega
            have HPP := hid fun W => HP.out K W hkm hk7
            have HN := hid (HDS.out j K hK)
            obtain ⟨P, hP⟩ : ∃ P, P = pnt K := ⟨_, rfl⟩
            rw [← hP] at HPP HN
            clear hP
            have HBR := hid hbr
            clear hbr
            have HJ := hid (show j + 1 ≤ 13 ∧ K + 1 = ((j + 1 : Nat) : Int) - 6 from ⟨by omega, by omega⟩)
            by_cases hpn : P = n
            · have e6 : K + 6 = j := by omega
              rcases Nat.mod_two_eq_zero_or_one j with hp2 | hp2
              · have htm : Int.tmod (K + 6) 2 = 0 := by rw [e6, Int.tmod_eq_emod_of_nonneg (by omega)]; omega
                have HV := hid (show D (j + 1) = 1 by rw [HN.out, if_pos hpn, hp2]; rfl)
                clear HN hp2 e6 hj hlt hK
                go_wp2_with fail
                refine (HPP.out _).mono ?_
                rintro e v1 ⟨rfl, d1⟩
                have HD := hid (Below.next HBR.out d1)
                clear d1
                go_wp2_with fail
                go_roundw
                case rel => exact ⟨j + 1, K + 1, HJ.out.1, HJ.out.2, (by rw [HV.out]), (by go_num), HD.out⟩
                case measure => simp [intOf]; omega
              · have htm : Int.tmod (K + 6) 2 = 1 := by rw [e6, Int.tmod_eq_emod_of_nonneg (by omega)]; omega
                have HV := hid (show D (j + 1) = -1 by rw [HN.out, if_pos hpn, hp2]; rfl)
                clear HN hp2 e6 hj hlt hK
                go_wp2_with fail
                refine (HPP.out _).mono ?_
                rintro e v1 ⟨rfl, d1⟩
                have HD := hid (Below.next HBR.out d1)
                clear d1
                go_wp2_with fail
                go_roundw
                case rel => exact ⟨j + 1, K + 1, HJ.out.1, HJ.out.2, (by rw [HV.out]), (by go_num), HD.out⟩
                case measure => simp [intOf]; omega
            · have HV := hid (show D (j + 1) = D j by rw [HN.out, if_neg hpn])
              clear HN hj hlt hK
              go_wp2_with fail
              refine (HPP.out _).mono ?_
              rintro e v1 ⟨rfl, d1⟩
              have HD := hid (Below.next HBR.out d1)
              clear d1
              go_wp2_with fail
              go_roundw
              case rel => exact ⟨j + 1, K + 1, HJ.out.1, HJ.out.2, (by rw [HV.out]), (by go_num), HD.out⟩
              case measure => simp [intOf]; omega
          · obtain rfl : j = 13 := by omega
            have hk7 : ¬ K ≤ 6 := by omega
            have B6 : Below w.heap.size w wr := Below.next B5 hbr
            obtain ⟨w6, hw6⟩ : ∃ x, x = wr := ⟨_, rfl⟩
            rw [← hw6] at B6 ⊢
            clear hw6 hbr hj hlt
            rw [HDE.out]
            go_wp2_with fail
            refine (HI0.out _ (h0.later B6)).mono ?_
            rintro e w7 ⟨rfl, b7⟩
            have B7 : Below w.heap.size w w7 := Below.next B6 b7
            go_wp2_with fail
            go_ret
            exact ⟨by first | rfl | exact ret_bool (by simp), B7⟩
      cases hs : strB p
      · rw [hg, hs] at HI0
        clear hok hg hs
        have B0 : Below w.heap.size w w := Below.refl _ _
        go_enter Try.func3, Try.ntmps3
        go_wp2_with fail
        refine (HA1.out _ (h0.later B0)).mono ?_
        rintro e w1 ⟨Ad1, cd1, rfl, od1, b1⟩
        have B1 : Below w.heap.size w w1 := Below.next B0 b1
        go_wp2_with fail
        refine (HA2.out _ (h0.later B1)).mono ?_
        rintro e w2 ⟨Ad2, cd2, rfl, od2, b2⟩
        have B2 : Below w.heap.size w w2 := Below.next B1 b2
        have od1_2 := od1.below b2
        clear od1
        go_wp2_with fail
        refine (HE.out _ _ _ _ _ _ HXL.out od1_2.cells od2.cells).mono ?_
        rintro e w3 ⟨rfl, b3⟩
        have B3 : Below w.heap.size w w3 := Below.next B2 b3
        have od1_3 := od1_2.below b3
        clear od1_2
        have od2_3 := od2.below b3
        clear od2
        go_wp2_with fail
        refine (HN1.out _).mono ?_
        rintro e w4 ⟨rfl, b4⟩
        have B4 : Below w.heap.size w w4 := Below.next B3 b4
        go_wp2_with fail
        refine (HN2.out _).mono ?_
        rintro e w5 ⟨rfl, b5⟩
        have B5 : Below w.heap.size w w5 := Below.next B4 b5
        go_wp2_with fail
        obtain ⟨wl, hwl⟩ : ∃ x, x = w5 := ⟨_, rfl⟩
        rw [← hwl] at B5 ⊢
        clear hwl
        go_loopw [17, 18] (fun dv iv wr => ∃ (j : Nat) (K : Int), j ≤ 13 ∧ K = j - 6 ∧ dv = .int .i64 (D j) ∧ iv = .int .i64 K ∧ Below wl.heap.size wl wr) (fun _ iv _ => 7 - intOf iv |>.toNat)
        case atStart => exact ⟨0, -6, by omega, by omega, by rw [HD0.out], rfl, Below.refl _ _⟩
        case round =>
          obtain ⟨j, K, hj, hK, rfl, rfl, hbr⟩ := hrel
          by_cases hlt : j < 13
          · have hk7 : K ≤ 6 := by omega
            have hkm : -6 ≤ K := by omega
            have HPP := hid fun W => HP.out K W hkm hk7
            have HN := hid (HDS.out j K hK)
            obtain ⟨P, hP⟩ : ∃ P, P = pnt K := ⟨_, rfl⟩
            rw [← hP] at HPP HN
            clear hP
            have HBR := hid hbr
            clear hbr
            have HJ := hid (show j + 1 ≤ 13 ∧ K + 1 = ((j + 1 : Nat) : Int) - 6 from ⟨by omega, by omega⟩)
            by_cases hpn : P = n
            · have e6 : K + 6 = j := by omega
              rcases Nat.mod_two_eq_zero_or_one j with hp2 | hp2
              · have htm : Int.tmod (K + 6) 2 = 0 := by rw [e6, Int.tmod_eq_emod_of_nonneg (by omega)]; omega
                have HV := hid (show D (j + 1) = 1 by rw [HN.out, if_pos hpn, hp2]; rfl)
                clear HN hp2 e6 hj hlt hK
                go_wp2_with fail
                refine (HPP.out _).mono ?_
                rintro e v1 ⟨rfl, d1⟩
                have HD := hid (Below.next HBR.out d1)
                clear d1
                go_wp2_with fail
                go_roundw
                case rel => exact ⟨j + 1, K + 1, HJ.out.1, HJ.out.2, (by rw [HV.out]), (by go_num), HD.out⟩
                case measure => simp [intOf]; omega
              · have htm : Int.tmod (K + 6) 2 = 1 := by rw [e6, Int.tmod_eq_emod_of_nonneg (by omega)]; omega
                have HV := hid (show D (j + 1) = -1 by rw [HN.out, if_pos hpn, hp2]; rfl)
                clear HN hp2 e6 hj hlt hK
                go_wp2_with fail
                refine (HPP.out _).mono ?_
                rintro e v1 ⟨rfl, d1⟩
                have HD := hid (Below.next HBR.out d1)
                clear d1
                go_wp2_with fail
                go_roundw
                case rel => exact ⟨j + 1, K + 1, HJ.out.1, HJ.out.2, (by rw [HV.out]), (by go_num), HD.out⟩
                case measure => simp [intOf]; omega
            · have HV := hid (show D (j + 1) = D j by rw [HN.out, if_neg hpn])
              clear HN hj hlt hK
              go_wp2_with fail
              refine (HPP.out _).mono ?_
              rintro e v1 ⟨rfl, d1⟩
              have HD := hid (Below.next HBR.out d1)
              clear d1
              go_wp2_with fail
              go_roundw
              case rel => exact ⟨j + 1, K + 1, HJ.out.1, HJ.out.2, (by rw [HV.out]), (by go_num), HD.out⟩
              case measure => simp [intOf]; omega
          · obtain rfl : j = 13 := by omega
            have hk7 : ¬ K ≤ 6 := by omega
            have B6 : Below w.heap.size w wr := Below.next B5 hbr
            obtain ⟨w6, hw6⟩ : ∃ x, x = wr := ⟨_, rfl⟩
            rw [← hw6] at B6 ⊢
            clear hw6 hbr hj hlt
            rw [HDE.out]
            go_wp2_with fail
            refine (HI0.out _ (h0.later B6)).mono ?_
            rintro e w7 ⟨rfl, b7⟩
            have B7 : Below w.heap.size w w7 := Below.next B6 b7
            go_wp2_with fail
            go_ret
            exact ⟨by first | rfl | exact ret_bool (by simp), B7⟩
      rw [hg, hs] at HI0
      by_cases h00 : p.length = 0
      · have hzi : ¬ (0 : Int) < (p.length : Int) := by omega
        clear hok hg hs h00
        have B0 : Below w.heap.size w w := Below.refl _ _
        go_enter Try.func3, Try.ntmps3
        go_wp2_with fail
        refine (HA1.out _ (h0.later B0)).mono ?_
        rintro e w1 ⟨Ad1, cd1, rfl, od1, b1⟩
        have B1 : Below w.heap.size w w1 := Below.next B0 b1
        go_wp2_with fail
        refine (HA2.out _ (h0.later B1)).mono ?_
        rintro e w2 ⟨Ad2, cd2, rfl, od2, b2⟩
        have B2 : Below w.heap.size w w2 := Below.next B1 b2
        have od1_2 := od1.below b2
        clear od1
        go_wp2_with fail
        refine (HE.out _ _ _ _ _ _ HXL.out od1_2.cells od2.cells).mono ?_
        rintro e w3 ⟨rfl, b3⟩
        have B3 : Below w.heap.size w w3 := Below.next B2 b3
        have od1_3 := od1_2.below b3
        clear od1_2
        have od2_3 := od2.below b3
        clear od2
        go_wp2_with fail
        refine (HN1.out _).mono ?_
        rintro e w4 ⟨rfl, b4⟩
        have B4 : Below w.heap.size w w4 := Below.next B3 b4
        go_wp2_with fail
        refine (HN2.out _).mono ?_
        rintro e w5 ⟨rfl, b5⟩
        have B5 : Below w.heap.size w w5 := Below.next B4 b5
        go_wp2_with fail
        obtain ⟨wl, hwl⟩ : ∃ x, x = w5 := ⟨_, rfl⟩
        rw [← hwl] at B5 ⊢
        clear hwl
        go_loopw [17, 18] (fun dv iv wr => ∃ (j : Nat) (K : Int), j ≤ 13 ∧ K = j - 6 ∧ dv = .int .i64 (D j) ∧ iv = .int .i64 K ∧ Below wl.heap.size wl wr) (fun _ iv _ => 7 - intOf iv |>.toNat)
        case atStart => exact ⟨0, -6, by omega, by omega, by rw [HD0.out], rfl, Below.refl _ _⟩
        case round =>
          obtain ⟨j, K, hj, hK, rfl, rfl, hbr⟩ := hrel
          by_cases hlt : j < 13
          · have hk7 : K ≤ 6 := by omega
            have hkm : -6 ≤ K := by omega
            have HPP := hid fun W => HP.out K W hkm hk7
            have HN := hid (HDS.out j K hK)
            obtain ⟨P, hP⟩ : ∃ P, P = pnt K := ⟨_, rfl⟩
            rw [← hP] at HPP HN
            clear hP
            have HBR := hid hbr
            clear hbr
            have HJ := hid (show j + 1 ≤ 13 ∧ K + 1 = ((j + 1 : Nat) : Int) - 6 from ⟨by omega, by omega⟩)
            by_cases hpn : P = n
            · have e6 : K + 6 = j := by omega
              rcases Nat.mod_two_eq_zero_or_one j with hp2 | hp2
              · have htm : Int.tmod (K + 6) 2 = 0 := by rw [e6, Int.tmod_eq_emod_of_nonneg (by omega)]; omega
                have HV := hid (show D (j + 1) = 1 by rw [HN.out, if_pos hpn, hp2]; rfl)
                clear HN hp2 e6 hj hlt hK
                go_wp2_with fail
                refine (HPP.out _).mono ?_
                rintro e v1 ⟨rfl, d1⟩
                have HD := hid (Below.next HBR.out d1)
                clear d1
                go_wp2_with fail
                go_roundw
                case rel => exact ⟨j + 1, K + 1, HJ.out.1, HJ.out.2, (by rw [HV.out]), (by go_num), HD.out⟩
                case measure => simp [intOf]; omega
              · have htm : Int.tmod (K + 6) 2 = 1 := by rw [e6, Int.tmod_eq_emod_of_nonneg (by omega)]; omega
                have HV := hid (show D (j + 1) = -1 by rw [HN.out, if_pos hpn, hp2]; rfl)
                clear HN hp2 e6 hj hlt hK
                go_wp2_with fail
                refine (HPP.out _).mono ?_
                rintro e v1 ⟨rfl, d1⟩
                have HD := hid (Below.next HBR.out d1)
                clear d1
                go_wp2_with fail
                go_roundw
                case rel => exact ⟨j + 1, K + 1, HJ.out.1, HJ.out.2, (by rw [HV.out]), (by go_num), HD.out⟩
                case measure => simp [intOf]; omega
            · have HV := hid (show D (j + 1) = D j by rw [HN.out, if_neg hpn])
              clear HN hj hlt hK
              go_wp2_with fail
              refine (HPP.out _).mono ?_
              rintro e v1 ⟨rfl, d1⟩
              have HD := hid (Below.next HBR.out d1)
              clear d1
              go_wp2_with fail
              go_roundw
              case rel => exact ⟨j + 1, K + 1, HJ.out.1, HJ.out.2, (by rw [HV.out]), (by go_num), HD.out⟩
              case measure => simp [intOf]; omega
          · obtain rfl : j = 13 := by omega
            have hk7 : ¬ K ≤ 6 := by omega
            have B6 : Below w.heap.size w wr := Below.next B5 hbr
            obtain ⟨w6, hw6⟩ : ∃ x, x = wr := ⟨_, rfl⟩
            rw [← hw6] at B6 ⊢
            clear hw6 hbr hj hlt
            rw [HDE.out]
            go_wp2_with fail
            refine (HI0.out _ (h0.later B6)).mono ?_
            rintro e w7 ⟨rfl, b7⟩
            have B7 : Below w.heap.size w w7 := Below.next B6 b7
            go_wp2_with fail
            go_ret
            exact ⟨by first | rfl | exact ret_bool (by simp), B7⟩
      obtain ⟨f1, f2⟩ := pr_none hs hok (by omega)
      have G := strB_good hs
      have hp0 := G.pos 0 (by omega)
      have hp1 := G.le 0 (by omega)
      have hq0 := G.pos (p.length - 1) (by omega)
      have hq1 := G.le (p.length - 1) (by omega)
      have hpl := G.len
      obtain ⟨b, o, rfl, hcc⟩ := h0 (by omega)
      have HCC := hid fun W (h : Below w.heap.size w W) => show W.cell? ⟨b, o + 0, none⟩ = some (.int .i64 (p.getD 0 0)) ∧ W.cell? ⟨b, o + (p.length - 1), none⟩ = some (.int .i64 (p.getD (p.length - 1) 0)) by obtain ⟨b2, o2, e, hc⟩ := (h0.later h) (by omega); cases e; exact ⟨hc 0 (by omega), hc (p.length - 1) (by omega)⟩
      have hwl : IntKind.i64.wrap ((p.length : Int) - 1) = ((p.length - 1 : Nat) : Int) := by rw [IntWalk.i64_in _ (by omega)]; omega
      obtain ⟨P0, hP0⟩ : ∃ x, x = p.getD 0 0 := ⟨_, rfl⟩
      obtain ⟨Q0, hQ0⟩ : ∃ x, x = p.getD (p.length - 1) 0 := ⟨_, rfl⟩
      rw [← hP0, ← hQ0] at HCC f1
      rw [← hQ0] at f2 hq0 hq1
      rw [← hP0] at hp0 hp1
      obtain ⟨l, hll⟩ : ∃ l, l = p.length - 1 := ⟨_, rfl⟩
      rw [← hll] at HCC hwl
      have hli : (l : Int) < (p.length : Int) := by omega
      have hlp : (0 : Int) < (p.length : Int) := by omega
      have f3 : P0 - Q0 = (l : Int) := by omega
      clear hok hg hs G hcc hP0 hQ0 hll h00 f1
      rcases f2 with f4 | f4
      · have f5 : Q0 = (p.length : Int) := by omega
        have B0 : Below w.heap.size w w := Below.refl _ _
        go_enter Try.func3, Try.ntmps3
        go_wp2_with fail
        refine (HA1.out _ (h0.later B0)).mono ?_
        rintro e w1 ⟨Ad1, cd1, rfl, od1, b1⟩
        have B1 : Below w.heap.size w w1 := Below.next B0 b1
        go_wp2_with fail
        refine (HA2.out _ (h0.later B1)).mono ?_
        rintro e w2 ⟨Ad2, cd2, rfl, od2, b2⟩
        have B2 : Below w.heap.size w w2 := Below.next B1 b2
        have od1_2 := od1.below b2
        clear od1
        go_wp2_with fail
        refine (HE.out _ _ _ _ _ _ HXL.out od1_2.cells od2.cells).mono ?_
        rintro e w3 ⟨rfl, b3⟩
        have B3 : Below w.heap.size w w3 := Below.next B2 b3
        have od1_3 := od1_2.below b3
        clear od1_2
        have od2_3 := od2.below b3
        clear od2
        go_wp2_with fail
        refine (HN1.out _).mono ?_
        rintro e w4 ⟨rfl, b4⟩
        have B4 : Below w.heap.size w w4 := Below.next B3 b4
        go_wp2_with fail
        refine (HN2.out _).mono ?_
        rintro e w5 ⟨rfl, b5⟩
        have B5 : Below w.heap.size w w5 := Below.next B4 b5
        go_wp2_with fail
        obtain ⟨wl, hwl⟩ : ∃ x, x = w5 := ⟨_, rfl⟩
        rw [← hwl] at B5 ⊢
        clear hwl
        go_loopw [17, 18] (fun dv iv wr => ∃ (j : Nat) (K : Int), j ≤ 13 ∧ K = j - 6 ∧ dv = .int .i64 (D j) ∧ iv = .int .i64 K ∧ Below wl.heap.size wl wr) (fun _ iv _ => 7 - intOf iv |>.toNat)
        case atStart => exact ⟨0, -6, by omega, by omega, by rw [HD0.out], rfl, Below.refl _ _⟩
        case round =>
          obtain ⟨j, K, hj, hK, rfl, rfl, hbr⟩ := hrel
          by_cases hlt : j < 13
          · have hk7 : K ≤ 6 := by omega
            have hkm : -6 ≤ K := by omega
            have HPP := hid fun W => HP.out K W hkm hk7
            have HN := hid (HDS.out j K hK)
            obtain ⟨P, hP⟩ : ∃ P, P = pnt K := ⟨_, rfl⟩
            rw [← hP] at HPP HN
            clear hP
            have HBR := hid hbr
            clear hbr
            have HJ := hid (show j + 1 ≤ 13 ∧ K + 1 = ((j + 1 : Nat) : Int) - 6 from ⟨by omega, by omega⟩)
            by_cases hpn : P = n
            · have e6 : K + 6 = j := by omega
              rcases Nat.mod_two_eq_zero_or_one j with hp2 | hp2
              · have htm : Int.tmod (K + 6) 2 = 0 := by rw [e6, Int.tmod_eq_emod_of_nonneg (by omega)]; omega
                have HV := hid (show D (j + 1) = 1 by rw [HN.out, if_pos hpn, hp2]; rfl)
                clear HN hp2 e6 hj hlt hK
                go_wp2_with fail
                refine (HPP.out _).mono ?_
                rintro e v1 ⟨rfl, d1⟩
                have HD := hid (Below.next HBR.out d1)
                clear d1
                go_wp2_with fail
                go_roundw
                case rel => exact ⟨j + 1, K + 1, HJ.out.1, HJ.out.2, (by rw [HV.out]), (by go_num), HD.out⟩
                case measure => simp [intOf]; omega
              · have htm : Int.tmod (K + 6) 2 = 1 := by rw [e6, Int.tmod_eq_emod_of_nonneg (by omega)]; omega
                have HV := hid (show D (j + 1) = -1 by rw [HN.out, if_pos hpn, hp2]; rfl)
                clear HN hp2 e6 hj hlt hK
                go_wp2_with fail
                refine (HPP.out _).mono ?_
                rintro e v1 ⟨rfl, d1⟩
                have HD := hid (Below.next HBR.out d1)
                clear d1
                go_wp2_with fail
                go_roundw
                case rel => exact ⟨j + 1, K + 1, HJ.out.1, HJ.out.2, (by rw [HV.out]), (by go_num), HD.out⟩
                case measure => simp [intOf]; omega
            · have HV := hid (show D (j + 1) = D j by rw [HN.out, if_neg hpn])
              clear HN hj hlt hK
              go_wp2_with fail
              refine (HPP.out _).mono ?_
              rintro e v1 ⟨rfl, d1⟩
              have HD := hid (Below.next HBR.out d1)
              clear d1
              go_wp2_with fail
              go_roundw
              case rel => exact ⟨j + 1, K + 1, HJ.out.1, HJ.out.2, (by rw [HV.out]), (by go_num), HD.out⟩
              case measure => simp [intOf]; omega
          · obtain rfl : j = 13 := by omega
            have hk7 : ¬ K ≤ 6 := by omega
            have B6 : Below w.heap.size w wr := Below.next B5 hbr
            obtain ⟨w6, hw6⟩ : ∃ x, x = wr := ⟨_, rfl⟩
            rw [← hw6] at B6 ⊢
            clear hw6 hbr hj hlt
            rw [HDE.out]
            go_wp2_with fail
            refine (HI0.out _ (h0.later B6)).mono ?_
            rintro e w7 ⟨rfl, b7⟩
            have B7 : Below w.heap.size w w7 := Below.next B6 b7
            have hc0 := (HCC.out _ B7).1
            rw [Nat.add_zero] at hc0
            have hcl := (HCC.out _ B7).2
            go_wp2_with fail
            go_ret
            exact ⟨by first | rfl | exact ret_bool (by simp), B7⟩
      · have f5 : ¬ Q0 = (p.length : Int) := by omega
        have B0 : Below w.heap.size w w := Below.refl _ _
        go_enter Try.func3, Try.ntmps3
        go_wp2_with fail
        refine (HA1.out _ (h0.later B0)).mono ?_
        rintro e w1 ⟨Ad1, cd1, rfl, od1, b1⟩
        have B1 : Below w.heap.size w w1 := Below.next B0 b1
        go_wp2_with fail
        refine (HA2.out _ (h0.later B1)).mono ?_
        rintro e w2 ⟨Ad2, cd2, rfl, od2, b2⟩
        have B2 : Below w.heap.size w w2 := Below.next B1 b2
        have od1_2 := od1.below b2
        clear od1
        go_wp2_with fail
        refine (HE.out _ _ _ _ _ _ HXL.out od1_2.cells od2.cells).mono ?_
        rintro e w3 ⟨rfl, b3⟩
        have B3 : Below w.heap.size w w3 := Below.next B2 b3
        have od1_3 := od1_2.below b3
        clear od1_2
        have od2_3 := od2.below b3
        clear od2
        go_wp2_with fail
        refine (HN1.out _).mono ?_
        rintro e w4 ⟨rfl, b4⟩
        have B4 : Below w.heap.size w w4 := Below.next B3 b4
        go_wp2_with fail
        refine (HN2.out _).mono ?_
        rintro e w5 ⟨rfl, b5⟩
        have B5 : Below w.heap.size w w5 := Below.next B4 b5
        go_wp2_with fail
        obtain ⟨wl, hwl⟩ : ∃ x, x = w5 := ⟨_, rfl⟩
        rw [← hwl] at B5 ⊢
        clear hwl
        go_loopw [17, 18] (fun dv iv wr => ∃ (j : Nat) (K : Int), j ≤ 13 ∧ K = j - 6 ∧ dv = .int .i64 (D j) ∧ iv = .int .i64 K ∧ Below wl.heap.size wl wr) (fun _ iv _ => 7 - intOf iv |>.toNat)
        case atStart => exact ⟨0, -6, by omega, by omega, by rw [HD0.out], rfl, Below.refl _ _⟩
        case round =>
          obtain ⟨j, K, hj, hK, rfl, rfl, hbr⟩ := hrel
          by_cases hlt : j < 13
          · have hk7 : K ≤ 6 := by omega
            have hkm : -6 ≤ K := by omega
            have HPP := hid fun W => HP.out K W hkm hk7
            have HN := hid (HDS.out j K hK)
            obtain ⟨P, hP⟩ : ∃ P, P = pnt K := ⟨_, rfl⟩
            rw [← hP] at HPP HN
            clear hP
            have HBR := hid hbr
            clear hbr
            have HJ := hid (show j + 1 ≤ 13 ∧ K + 1 = ((j + 1 : Nat) : Int) - 6 from ⟨by omega, by omega⟩)
            by_cases hpn : P = n
            · have e6 : K + 6 = j := by omega
              rcases Nat.mod_two_eq_zero_or_one j with hp2 | hp2
              · have htm : Int.tmod (K + 6) 2 = 0 := by rw [e6, Int.tmod_eq_emod_of_nonneg (by omega)]; omega
                have HV := hid (show D (j + 1) = 1 by rw [HN.out, if_pos hpn, hp2]; rfl)
                clear HN hp2 e6 hj hlt hK
                go_wp2_with fail
                refine (HPP.out _).mono ?_
                rintro e v1 ⟨rfl, d1⟩
                have HD := hid (Below.next HBR.out d1)
                clear d1
                go_wp2_with fail
                go_roundw
                case rel => exact ⟨j + 1, K + 1, HJ.out.1, HJ.out.2, (by rw [HV.out]), (by go_num), HD.out⟩
                case measure => simp [intOf]; omega
              · have htm : Int.tmod (K + 6) 2 = 1 := by rw [e6, Int.tmod_eq_emod_of_nonneg (by omega)]; omega
                have HV := hid (show D (j + 1) = -1 by rw [HN.out, if_pos hpn, hp2]; rfl)
                clear HN hp2 e6 hj hlt hK
                go_wp2_with fail
                refine (HPP.out _).mono ?_
                rintro e v1 ⟨rfl, d1⟩
                have HD := hid (Below.next HBR.out d1)
                clear d1
                go_wp2_with fail
                go_roundw
                case rel => exact ⟨j + 1, K + 1, HJ.out.1, HJ.out.2, (by rw [HV.out]), (by go_num), HD.out⟩
                case measure => simp [intOf]; omega
            · have HV := hid (show D (j + 1) = D j by rw [HN.out, if_neg hpn])
              clear HN hj hlt hK
              go_wp2_with fail
              refine (HPP.out _).mono ?_
              rintro e v1 ⟨rfl, d1⟩
              have HD := hid (Below.next HBR.out d1)
              clear d1
              go_wp2_with fail
              go_roundw
              case rel => exact ⟨j + 1, K + 1, HJ.out.1, HJ.out.2, (by rw [HV.out]), (by go_num), HD.out⟩
              case measure => simp [intOf]; omega
          · obtain rfl : j = 13 := by omega
            have hk7 : ¬ K ≤ 6 := by omega
            have B6 : Below w.heap.size w wr := Below.next B5 hbr
            obtain ⟨w6, hw6⟩ : ∃ x, x = wr := ⟨_, rfl⟩
            rw [← hw6] at B6 ⊢
            clear hw6 hbr hj hlt
            rw [HDE.out]
            go_wp2_with fail
            refine (HI0.out _ (h0.later B6)).mono ?_
            rintro e w7 ⟨rfl, b7⟩
            have B7 : Below w.heap.size w w7 := Below.next B6 b7
            have hc0 := (HCC.out _ B7).1
            rw [Nat.add_zero] at hc0
            have hcl := (HCC.out _ B7).2
            go_wp2_with fail
            go_ret
            exact ⟨by first | rfl | exact ret_bool (by simp), B7⟩
  obtain ⟨m1, m2, m3, m4, m5⟩ := pr_two hok
  have hs := prB_str hok
  have hg : good p = true := by have h := hs; unfold strB at h; rw [Bool.and_eq_true] at h; exact h.1
  have hgq : good (prF p) = true := by have h := m3; unfold strB at h; rw [Bool.and_eq_true] at h; exact h.1
  have hp0 : 0 < p.length := by rcases Nat.eq_zero_or_pos p.length with h | h; (unfold prB at hok; rw [prO_nil h] at hok; cases hok); exact h
  have hpi : (0 : Int) < (p.length : Int) := by omega
  rw [hok] at HA1 HA2
  rw [hg, hs] at HI0
  have G := strB_good hs
  have GQ := strB_good m3
  have hql := GQ.len
  have hpl := G.len
  have HS1 := hid fun A c W (h : Cells W A (prF p)) => qSum_e A (prF p) c W hql (fun j hj => by have := GQ.pos j hj; have := GQ.le j hj; omega) h
  have HS2 := hid fun W (h : Cells W A0 p) => qSum_e A0 p c0 W hpl (fun j hj => by have := G.pos j hj; have := G.le j hj; omega) h
  have HB1 := hid fun B A c W (h : Own W B A c (prF p)) => impl_PairOf (B := B) A c (prF p) W (by omega) h
  rw [m1, m2] at HB1
  have HI1 := hid fun A c W (h : Cells W A (prF p)) => impl_IsStrict A c (prF p) W (by omega) h
  rw [m3, hgq] at HI1
  rw [m4] at HS1
  have hsm := G.sum
  have hsm0 := G.sum0
  have HXL := hid (show (prF p).length ≤ 10000 by omega)
  obtain ⟨X, hX⟩ : ∃ X, X = prF p := ⟨_, rfl⟩
  rw [← hX] at HA1 HA2 HB1 HI1 HS1 m5 hql HXL
  obtain ⟨S2, hS2⟩ : ∃ s, s = p.sum := ⟨_, rfl⟩
  rw [← hS2] at HS1 HS2 hsm hsm0
  clear hok m1 m2 m3 m4 hs hg hgq hp0 G GQ hX hS2 hnn
  cases htold : sgdB n
  · have es : sgdF n = 0 := sgdF_f htold
    rw [htold, es] at HN1 HN2
    clear htold es HD0 HDS hD hdb HP
    clear HI0
    rcases m5 with m5 | m5
    · have m6 : (X.length : Int) = (p.length : Int) + 1 := by omega
      clear m5
      have B0 : Below w.heap.size w w := Below.refl _ _
      go_enter Try.func3, Try.ntmps3
      go_wp2_with fail
      refine (HA1.out _ (h0.later B0)).mono ?_
      rintro e w1 ⟨Ad1, cd1, rfl, od1, b1⟩
      have B1 : Below w.heap.size w w1 := Below.next B0 b1
      go_wp2_with fail
      refine (HA2.out _ (h0.later B1)).mono ?_
      rintro e w2 ⟨Ad2, cd2, rfl, od2, b2⟩
      have B2 : Below w.heap.size w w2 := Below.next B1 b2
      have od1_2 := od1.below b2
      clear od1
      go_wp2_with fail
      refine (HE.out _ _ _ _ _ _ HXL.out od1_2.cells od2.cells).mono ?_
      rintro e w3 ⟨rfl, b3⟩
      have B3 : Below w.heap.size w w3 := Below.next B2 b3
      have od1_3 := od1_2.below b3
      clear od1_2
      have od2_3 := od2.below b3
      clear od2
      go_wp2_with fail
      refine (HB1.out _ _ _ _ od1_3).mono ?_
      rintro e w4 ⟨Ak1, ck1, rfl, ok1, b4⟩
      have B4 : Below w.heap.size w w4 := Below.next B3 b4
      have od1_4 := od1_3.below b4
      clear od1_3
      go_wp2_with fail
      refine (HI1.out _ _ _ od1_4.cells).mono ?_
      rintro e w5 ⟨rfl, b5⟩
      have B5 : Below w.heap.size w w5 := Below.next B4 b5
      have od1_5 := od1_4.below b5
      clear od1_4
      have ok1_5 := ok1.below b5
      clear ok1
      go_wp2_with fail
      refine (HE.out _ _ _ _ _ _ hl0 ok1_5.cells (h0.later B5)).mono ?_
      rintro e w6 ⟨rfl, b6⟩
      have B6 : Below w.heap.size w w6 := Below.next B5 b6
      have od1_6 := od1_5.below b6
      clear od1_5
      have ok1_6 := ok1_5.below b6
      clear ok1_5
      go_wp2_with fail
      refine (HS1.out _ _ _ od1_6.cells).mono ?_
      rintro e w' ⟨rfl, rfl⟩
      go_wp2_with fail
      refine (HS2.out _ (h0.later B6)).mono ?_
      rintro e w' ⟨rfl, rfl⟩
      go_wp2_with fail
      refine (HN1.out _).mono ?_
      rintro e w7 ⟨rfl, b7⟩
      have B7 : Below w.heap.size w w7 := Below.next B6 b7
      go_wp2_with fail
      refine (HN2.out _).mono ?_
      rintro e w8 ⟨rfl, b8⟩
      have B8 : Below w.heap.size w w8 := Below.next B7 b8
      go_wp2_with fail
      go_ret
      exact ⟨by first | rfl | exact ret_bool (by simp), B8⟩
    · have m6 : ¬ (X.length : Int) = (p.length : Int) + 1 := by omega
      have m7 : (p.length : Int) = (X.length : Int) + 1 := by omega
      clear m5
      have B0 : Below w.heap.size w w := Below.refl _ _
      go_enter Try.func3, Try.ntmps3
      go_wp2_with fail
      refine (HA1.out _ (h0.later B0)).mono ?_
      rintro e w1 ⟨Ad1, cd1, rfl, od1, b1⟩
      have B1 : Below w.heap.size w w1 := Below.next B0 b1
      go_wp2_with fail
      refine (HA2.out _ (h0.later B1)).mono ?_
      rintro e w2 ⟨Ad2, cd2, rfl, od2, b2⟩
      have B2 : Below w.heap.size w w2 := Below.next B1 b2
      have od1_2 := od1.below b2
      clear od1
      go_wp2_with fail
      refine (HE.out _ _ _ _ _ _ HXL.out od1_2.cells od2.cells).mono ?_
      rintro e w3 ⟨rfl, b3⟩
      have B3 : Below w.heap.size w w3 := Below.next B2 b3
      have od1_3 := od1_2.below b3
      clear od1_2
      have od2_3 := od2.below b3
      clear od2
      go_wp2_with fail
      refine (HB1.out _ _ _ _ od1_3).mono ?_
      rintro e w4 ⟨Ak1, ck1, rfl, ok1, b4⟩
      have B4 : Below w.heap.size w w4 := Below.next B3 b4
      have od1_4 := od1_3.below b4
      clear od1_3
      go_wp2_with fail
      refine (HI1.out _ _ _ od1_4.cells).mono ?_
      rintro e w5 ⟨rfl, b5⟩
      have B5 : Below w.heap.size w w5 := Below.next B4 b5
      have od1_5 := od1_4.below b5
      clear od1_4
      have ok1_5 := ok1.below b5
      clear ok1
      go_wp2_with fail
      refine (HE.out _ _ _ _ _ _ hl0 ok1_5.cells (h0.later B5)).mono ?_
      rintro e w6 ⟨rfl, b6⟩
      have B6 : Below w.heap.size w w6 := Below.next B5 b6
      have od1_6 := od1_5.below b6
      clear od1_5
      have ok1_6 := ok1_5.below b6
      clear ok1_5
      go_wp2_with fail
      refine (HS1.out _ _ _ od1_6.cells).mono ?_
      rintro e w' ⟨rfl, rfl⟩
      go_wp2_with fail
      refine (HS2.out _ (h0.later B6)).mono ?_
      rintro e w' ⟨rfl, rfl⟩
      go_wp2_with fail
      refine (HN1.out _).mono ?_
      rintro e w7 ⟨rfl, b7⟩
      have B7 : Below w.heap.size w w7 := Below.next B6 b7
      go_wp2_with fail
      refine (HN2.out _).mono ?_
      rintro e w8 ⟨rfl, b8⟩
      have B8 : Below w.heap.size w w8 := Below.next B7 b8
      go_wp2_with fail
      go_ret
      exact ⟨by first | rfl | exact ret_bool (by simp), B8⟩
  · have es : sgdF n = D 13 := by rw [hD]; exact sgd_due htold
    obtain ⟨S, hS⟩ : ∃ S, S = D 13 := ⟨_, rfl⟩
    have HDE := hid hS.symm
    rw [htold, es, ← hS] at HN1 HN2
    rw [← hS] at hdb
    clear htold es hD hS
    rcases m5 with m5 | m5
    · have m6 : (X.length : Int) = (p.length : Int) + 1 := by omega
      clear m5
      have B0 : Below w.heap.size w w := Below.refl _ _
      go_enter Try.func3, Try.ntmps3
      go_wp2_with fail
      refine (HA1.out _ (h0.later B0)).mono ?_
      rintro e w1 ⟨Ad1, cd1, rfl, od1, b1⟩
      have B1 : Below w.heap.size w w1 := Below.next B0 b1
      go_wp2_with fail
      refine (HA2.out _ (h0.later B1)).mono ?_
      rintro e w2 ⟨Ad2, cd2, rfl, od2, b2⟩
      have B2 : Below w.heap.size w w2 := Below.next B1 b2
      have od1_2 := od1.below b2
      clear od1
      go_wp2_with fail
      refine (HE.out _ _ _ _ _ _ HXL.out od1_2.cells od2.cells).mono ?_
      rintro e w3 ⟨rfl, b3⟩
      have B3 : Below w.heap.size w w3 := Below.next B2 b3
      have od1_3 := od1_2.below b3
      clear od1_2
      have od2_3 := od2.below b3
      clear od2
      go_wp2_with fail
      refine (HB1.out _ _ _ _ od1_3).mono ?_
      rintro e w4 ⟨Ak1, ck1, rfl, ok1, b4⟩
      have B4 : Below w.heap.size w w4 := Below.next B3 b4
      have od1_4 := od1_3.below b4
      clear od1_3
      go_wp2_with fail
      refine (HI1.out _ _ _ od1_4.cells).mono ?_
      rintro e w5 ⟨rfl, b5⟩
      have B5 : Below w.heap.size w w5 := Below.next B4 b5
      have od1_5 := od1_4.below b5
      clear od1_4
      have ok1_5 := ok1.below b5
      clear ok1
      go_wp2_with fail
      refine (HE.out _ _ _ _ _ _ hl0 ok1_5.cells (h0.later B5)).mono ?_
      rintro e w6 ⟨rfl, b6⟩
      have B6 : Below w.heap.size w w6 := Below.next B5 b6
      have od1_6 := od1_5.below b6
      clear od1_5
      have ok1_6 := ok1_5.below b6
      clear ok1_5
      go_wp2_with fail
      refine (HS1.out _ _ _ od1_6.cells).mono ?_
      rintro e w' ⟨rfl, rfl⟩
      go_wp2_with fail
      refine (HS2.out _ (h0.later B6)).mono ?_
      rintro e w' ⟨rfl, rfl⟩
      go_wp2_with fail
      refine (HN1.out _).mono ?_
      rintro e w7 ⟨rfl, b7⟩
      have B7 : Below w.heap.size w w7 := Below.next B6 b7
      go_wp2_with fail
      refine (HN2.out _).mono ?_
      rintro e w8 ⟨rfl, b8⟩
      have B8 : Below w.heap.size w w8 := Below.next B7 b8
      go_wp2_with fail
      obtain ⟨wl, hwl⟩ : ∃ x, x = w8 := ⟨_, rfl⟩
      rw [← hwl] at B8 ⊢
      clear hwl
      go_loopw [17, 18] (fun dv iv wr => ∃ (j : Nat) (K : Int), j ≤ 13 ∧ K = j - 6 ∧ dv = .int .i64 (D j) ∧ iv = .int .i64 K ∧ Below wl.heap.size wl wr) (fun _ iv _ => 7 - intOf iv |>.toNat)
      case atStart => exact ⟨0, -6, by omega, by omega, by rw [HD0.out], rfl, Below.refl _ _⟩
      case round =>
        obtain ⟨j, K, hj, hK, rfl, rfl, hbr⟩ := hrel
        by_cases hlt : j < 13
        · have hk7 : K ≤ 6 := by omega
          have hkm : -6 ≤ K := by omega
          have HPP := hid fun W => HP.out K W hkm hk7
          have HN := hid (HDS.out j K hK)
          obtain ⟨P, hP⟩ : ∃ P, P = pnt K := ⟨_, rfl⟩
          rw [← hP] at HPP HN
          clear hP
          have HBR := hid hbr
          clear hbr
          have HJ := hid (show j + 1 ≤ 13 ∧ K + 1 = ((j + 1 : Nat) : Int) - 6 from ⟨by omega, by omega⟩)
          by_cases hpn : P = n
          · have e6 : K + 6 = j := by omega
            rcases Nat.mod_two_eq_zero_or_one j with hp2 | hp2
            · have htm : Int.tmod (K + 6) 2 = 0 := by rw [e6, Int.tmod_eq_emod_of_nonneg (by omega)]; omega
              have HV := hid (show D (j + 1) = 1 by rw [HN.out, if_pos hpn, hp2]; rfl)
              clear HN hp2 e6 hj hlt hK
              go_wp2_with fail
              refine (HPP.out _).mono ?_
              rintro e v1 ⟨rfl, d1⟩
              have HD := hid (Below.next HBR.out d1)
              clear d1
              go_wp2_with fail
              go_roundw
              case rel => exact ⟨j + 1, K + 1, HJ.out.1, HJ.out.2, (by rw [HV.out]), (by go_num), HD.out⟩
              case measure => simp [intOf]; omega
            · have htm : Int.tmod (K + 6) 2 = 1 := by rw [e6, Int.tmod_eq_emod_of_nonneg (by omega)]; omega
              have HV := hid (show D (j + 1) = -1 by rw [HN.out, if_pos hpn, hp2]; rfl)
              clear HN hp2 e6 hj hlt hK
              go_wp2_with fail
              refine (HPP.out _).mono ?_
              rintro e v1 ⟨rfl, d1⟩
              have HD := hid (Below.next HBR.out d1)
              clear d1
              go_wp2_with fail
              go_roundw
              case rel => exact ⟨j + 1, K + 1, HJ.out.1, HJ.out.2, (by rw [HV.out]), (by go_num), HD.out⟩
              case measure => simp [intOf]; omega
          · have HV := hid (show D (j + 1) = D j by rw [HN.out, if_neg hpn])
            clear HN hj hlt hK
            go_wp2_with fail
            refine (HPP.out _).mono ?_
            rintro e v1 ⟨rfl, d1⟩
            have HD := hid (Below.next HBR.out d1)
            clear d1
            go_wp2_with fail
            go_roundw
            case rel => exact ⟨j + 1, K + 1, HJ.out.1, HJ.out.2, (by rw [HV.out]), (by go_num), HD.out⟩
            case measure => simp [intOf]; omega
        · obtain rfl : j = 13 := by omega
          have hk7 : ¬ K ≤ 6 := by omega
          have B9 : Below w.heap.size w wr := Below.next B8 hbr
          obtain ⟨w9, hw9⟩ : ∃ x, x = wr := ⟨_, rfl⟩
          rw [← hw9] at B9 ⊢
          clear hw9 hbr hj hlt
          rw [HDE.out]
          go_wp2_with fail
          refine (HI0.out _ (h0.later B9)).mono ?_
          rintro e w10 ⟨rfl, b10⟩
          have B10 : Below w.heap.size w w10 := Below.next B9 b10
          go_wp2_with fail
          go_ret
          exact ⟨by first | rfl | exact ret_bool (by simp), B10⟩
    · have m6 : ¬ (X.length : Int) = (p.length : Int) + 1 := by omega
      have m7 : (p.length : Int) = (X.length : Int) + 1 := by omega
      clear m5
      have B0 : Below w.heap.size w w := Below.refl _ _
      go_enter Try.func3, Try.ntmps3
      go_wp2_with fail
      refine (HA1.out _ (h0.later B0)).mono ?_
      rintro e w1 ⟨Ad1, cd1, rfl, od1, b1⟩
      have B1 : Below w.heap.size w w1 := Below.next B0 b1
      go_wp2_with fail
      refine (HA2.out _ (h0.later B1)).mono ?_
      rintro e w2 ⟨Ad2, cd2, rfl, od2, b2⟩
      have B2 : Below w.heap.size w w2 := Below.next B1 b2
      have od1_2 := od1.below b2
      clear od1
      go_wp2_with fail
      refine (HE.out _ _ _ _ _ _ HXL.out od1_2.cells od2.cells).mono ?_
      rintro e w3 ⟨rfl, b3⟩
      have B3 : Below w.heap.size w w3 := Below.next B2 b3
      have od1_3 := od1_2.below b3
      clear od1_2
      have od2_3 := od2.below b3
      clear od2
      go_wp2_with fail
      refine (HB1.out _ _ _ _ od1_3).mono ?_
      rintro e w4 ⟨Ak1, ck1, rfl, ok1, b4⟩
      have B4 : Below w.heap.size w w4 := Below.next B3 b4
      have od1_4 := od1_3.below b4
      clear od1_3
      go_wp2_with fail
      refine (HI1.out _ _ _ od1_4.cells).mono ?_
      rintro e w5 ⟨rfl, b5⟩
      have B5 : Below w.heap.size w w5 := Below.next B4 b5
      have od1_5 := od1_4.below b5
      clear od1_4
      have ok1_5 := ok1.below b5
      clear ok1
      go_wp2_with fail
      refine (HE.out _ _ _ _ _ _ hl0 ok1_5.cells (h0.later B5)).mono ?_
      rintro e w6 ⟨rfl, b6⟩
      have B6 : Below w.heap.size w w6 := Below.next B5 b6
      have od1_6 := od1_5.below b6
      clear od1_5
      have ok1_6 := ok1_5.below b6
      clear ok1_5
      go_wp2_with fail
      refine (HS1.out _ _ _ od1_6.cells).mono ?_
      rintro e w' ⟨rfl, rfl⟩
      go_wp2_with fail
      refine (HS2.out _ (h0.later B6)).mono ?_
      rintro e w' ⟨rfl, rfl⟩
      go_wp2_with fail
      refine (HN1.out _).mono ?_
      rintro e w7 ⟨rfl, b7⟩
      have B7 : Below w.heap.size w w7 := Below.next B6 b7
      go_wp2_with fail
      refine (HN2.out _).mono ?_
      rintro e w8 ⟨rfl, b8⟩
      have B8 : Below w.heap.size w w8 := Below.next B7 b8
      go_wp2_with fail
      obtain ⟨wl, hwl⟩ : ∃ x, x = w8 := ⟨_, rfl⟩
      rw [← hwl] at B8 ⊢
      clear hwl
      go_loopw [17, 18] (fun dv iv wr => ∃ (j : Nat) (K : Int), j ≤ 13 ∧ K = j - 6 ∧ dv = .int .i64 (D j) ∧ iv = .int .i64 K ∧ Below wl.heap.size wl wr) (fun _ iv _ => 7 - intOf iv |>.toNat)
      case atStart => exact ⟨0, -6, by omega, by omega, by rw [HD0.out], rfl, Below.refl _ _⟩
      case round =>
        obtain ⟨j, K, hj, hK, rfl, rfl, hbr⟩ := hrel
        by_cases hlt : j < 13
        · have hk7 : K ≤ 6 := by omega
          have hkm : -6 ≤ K := by omega
          have HPP := hid fun W => HP.out K W hkm hk7
          have HN := hid (HDS.out j K hK)
          obtain ⟨P, hP⟩ : ∃ P, P = pnt K := ⟨_, rfl⟩
          rw [← hP] at HPP HN
          clear hP
          have HBR := hid hbr
          clear hbr
          have HJ := hid (show j + 1 ≤ 13 ∧ K + 1 = ((j + 1 : Nat) : Int) - 6 from ⟨by omega, by omega⟩)
          by_cases hpn : P = n
          · have e6 : K + 6 = j := by omega
            rcases Nat.mod_two_eq_zero_or_one j with hp2 | hp2
            · have htm : Int.tmod (K + 6) 2 = 0 := by rw [e6, Int.tmod_eq_emod_of_nonneg (by omega)]; omega
              have HV := hid (show D (j + 1) = 1 by rw [HN.out, if_pos hpn, hp2]; rfl)
              clear HN hp2 e6 hj hlt hK
              go_wp2_with fail
              refine (HPP.out _).mono ?_
              rintro e v1 ⟨rfl, d1⟩
              have HD := hid (Below.next HBR.out d1)
              clear d1
              go_wp2_with fail
              go_roundw
              case rel => exact ⟨j + 1, K + 1, HJ.out.1, HJ.out.2, (by rw [HV.out]), (by go_num), HD.out⟩
              case measure => simp [intOf]; omega
            · have htm : Int.tmod (K + 6) 2 = 1 := by rw [e6, Int.tmod_eq_emod_of_nonneg (by omega)]; omega
              have HV := hid (show D (j + 1) = -1 by rw [HN.out, if_pos hpn, hp2]; rfl)
              clear HN hp2 e6 hj hlt hK
              go_wp2_with fail
              refine (HPP.out _).mono ?_
              rintro e v1 ⟨rfl, d1⟩
              have HD := hid (Below.next HBR.out d1)
              clear d1
              go_wp2_with fail
              go_roundw
              case rel => exact ⟨j + 1, K + 1, HJ.out.1, HJ.out.2, (by rw [HV.out]), (by go_num), HD.out⟩
              case measure => simp [intOf]; omega
          · have HV := hid (show D (j + 1) = D j by rw [HN.out, if_neg hpn])
            clear HN hj hlt hK
            go_wp2_with fail
            refine (HPP.out _).mono ?_
            rintro e v1 ⟨rfl, d1⟩
            have HD := hid (Below.next HBR.out d1)
            clear d1
            go_wp2_with fail
            go_roundw
            case rel => exact ⟨j + 1, K + 1, HJ.out.1, HJ.out.2, (by rw [HV.out]), (by go_num), HD.out⟩
            case measure => simp [intOf]; omega
        · obtain rfl : j = 13 := by omega
          have hk7 : ¬ K ≤ 6 := by omega
          have B9 : Below w.heap.size w wr := Below.next B8 hbr
          obtain ⟨w9, hw9⟩ : ∃ x, x = wr := ⟨_, rfl⟩
          rw [← hw9] at B9 ⊢
          clear hw9 hbr hj hlt
          rw [HDE.out]
          go_wp2_with fail
          refine (HI0.out _ (h0.later B9)).mono ?_
          rintro e w10 ⟨rfl, b10⟩
          have B10 : Below w.heap.size w w10 := Below.next B9 b10
          go_wp2_with fail
          go_ret
          exact ⟨by first | rfl | exact ret_bool (by simp), B10⟩
end Go.Proofs.Ytphfmlfojebjkaa
