/-
  The walk of FnRanksAndCranksOfAll (made by genrnc.py).
-/
import Derived.Test.YtmiifdedmjfgkaaR27
import Derived.Test.YtmiifdedmjfgkaaR28
import Derived.Test.YtmiifdedmjfgkaaR10
import Derived.Test.YtmiifdedmjfgkaaR29
import Derived.Deep.CutRange
import Derived.Deep.QuietTactic
import Derived.BigQuiet
namespace Go.Proofs.Ytmiifdedmjfgkaa
open Go.RowKit

theorem qSame_rnc (A B : Option Addr) (c d : Nat) (xs : List Int) (w : World) (hl : xs.length ≤ 1048576) (hA : Cells w A xs) (hB : Cells w B xs) :
    Calls Try.prog 8 #[.slice A xs.length c, .slice B xs.length d] w fun e w' => e = .returned (.bool true) ∧ Below w.heap.size w w' :=
  (qSame_d A B c d xs xs w hl hl hA hB).mono (by rintro e w' ⟨rfl, n, rfl⟩; exact ⟨by rw [decide_eq_true rfl], below_drew' _ _⟩)
theorem tm_at {M k : Nat} (hk : k < M) : Int.tmod ((M : Int) - (k : Int)) (M : Int) = (((M - k) % M : Nat) : Int) := by
  rw [Int.tmod_eq_emod_of_nonneg (by omega), show (M : Int) - (k : Int) = ((M - k : Nat) : Int) by omega]
  exact (Int.natCast_emod _ _).symm
set_option maxRecDepth 100000 in
set_option maxHeartbeats 16000000 in
theorem walkRanksAndCranksOfAll (n m : Int) (A2 : Option Addr) (c2 : Nat) (p : List Int) (k r : Int) (w : World)
    (hn64 : I64 n) (hm64 : I64 m) (h2 : Cells w A2 p) (hk64 : I64 k) (hr64 : I64 r) :
    Calls Try.prog 3 #[.int .i64 n, .int .i64 m, .slice A2 p.length c2, .int .i64 k, .int .i64 r] w fun e w' => e = .returned (.bool true) ∧ Below w.heap.size w w' := by
  by_cases hbig : 10000 < p.length
  · have hb : (10000 : Int) < (p.length : Int) := by omega
    go_enter Try.func3, Try.ntmps3
    go_wp2_with fail
    go_ret
    exact ⟨rfl, Below.refl _ _⟩
  have hz0 : (p.length : Int) ≤ 10000 := by omega
  have hl0 : p.length ≤ 10000 := by omega
  clear hbig
  have HE := hid fun A B c d (xs : List Int) W (hl : xs.length ≤ 10000) (hA : Cells W A xs) (hB : Cells W B xs) => qSame_rnc A B c d xs W (by omega) hA hB
  have HS1 := hid fun W => impl_RankSpread n m W hn64 hm64
  have HS2 := hid fun W => spec_RankSpread n m W hn64 hm64
  have HC1 := hid fun W => impl_CrankSpread n m W hn64 hm64
  have HC2 := hid fun W => spec_CrankSpread n m W hn64 hm64
  have HR1 := hid fun W (h : Cells W A2 p) => impl_RankOf A2 c2 p W (by omega) h
  have HR2 := hid fun W (h : Cells W A2 p) => spec_RankOf A2 c2 p W (by omega) h
  have HK1 := hid fun W (h : Cells W A2 p) => impl_CrankOf A2 c2 p W (by omega) h
  have HK2 := hid fun W (h : Cells W A2 p) => spec_CrankOf A2 c2 p W (by omega) h
  have HQ1 := hid fun W (h : Cells W A2 p) => impl_SquareOf A2 c2 p W (by omega) h
  have HQ2 := hid fun W (h : Cells W A2 p) => spec_SquareOf A2 c2 p W (by omega) h
  have HG1 := hid fun W => impl_RankCountAt k r W hk64 hr64
  have HG2 := hid fun W => spec_RankCountAt k r W hk64 hr64
  have HTH0 := hid (fun (h : rcB p = true) => rnc_conj h)
  have HTH : Hid (rcB p = true → Hid (∀ W, Cells W A2 p → Calls Try.prog 15 #[.slice A2 p.length c2] W fun e w' => ∃ A' c', e = .returned (.tuple #[.slice A' (conjF p).length c', .bool true]) ∧ Own w' W.heap.size A' c' (conjF p) ∧ Below W.heap.size W w')
      ∧ Hid (∀ A c W, Cells W A (conjF p) → Calls Try.prog 9 #[.slice A (conjF p).length c] W fun e w' => e = .returned (.tuple #[.int .i64 (- rkF p), .bool true]) ∧ Below W.heap.size W w')
      ∧ Hid (∀ A c W, Cells W A (conjF p) → Calls Try.prog 13 #[.slice A (conjF p).length c] W fun e w' => e = .returned (.tuple #[.int .i64 (sqF p), .bool true]) ∧ Below W.heap.size W w')
      ∧ Hid (∀ W, Cells W A2 p → Calls Try.prog 16 #[.slice A2 p.length c2] W fun e w' => e = .returned (.int .i64 p.sum) ∧ W = w')
      ∧ ((-30 ≤ rkF p ∧ rkF p ≤ 30) ∧ (0 ≤ sqF p ∧ sqF p ≤ 30) ∧ (0 ≤ sqF p * sqF p ∧ sqF p * sqF p ≤ p.sum)) ∧ (0 ≤ p.sum ∧ p.sum ≤ 30)) := hid fun h => by
    obtain ⟨g1, g2, g3, g4, g5, g6⟩ := rnc_conj h
    have G := (good_iff p).1 g1
    have hb := rkV_bd G (rcB_iff.1 h).2
    have hs := sq_sum G
    refine ⟨hid fun W hc => ?_, hid fun A c W hc => ?_, hid fun A c W hc => ?_, hid fun W hc => ?_, ⟨by rw [rkF_t h]; exact hb, by rw [sqF_t g1]; omega, ?_⟩, G.sum0, G.sum⟩
    · have H := impl_ConjugateOf A2 c2 p W (by omega) hc
      rw [g1] at H; exact H
    · have H := impl_RankOf A c (conjF p) W (by omega) hc
      rw [g3, g4] at H; exact H
    · have H := impl_SquareOf A c (conjF p) W (by omega) hc
      rw [g2, g5] at H; exact H
    · exact qSum_e A2 p c2 W G.len (fun j hj => by have := G.pos j hj; have := G.le j hj; omega) hc
    · rw [sqF_t g1]
      exact ⟨by rw [← Int.natCast_mul]; omega, hs.1⟩
  have HTW : Hid (rctB k r = true → (-30 ≤ r ∧ r ≤ 30) ∧ (0 ≤ rctF k r ∧ rctF k r ≤ 5604) ∧ Hid (∀ W, Calls Try.prog 17 #[.int .i64 k, .int .i64 (-r)] W fun e w' => e = .returned (.tuple #[.int .i64 (rctF k r), .bool true]) ∧ Below W.heap.size W w')) := hid fun h => by
    obtain ⟨g1, g2⟩ := rct_neg h
    have h2 := h
    unfold rctB at h2
    rw [Bool.and_eq_true] at h2
    have hr := inB_iff.1 h2.2
    refine ⟨hr, rct_bd k r, hid fun W => ?_⟩
    have H := impl_RankCountAt k (-r) W hk64 ⟨by omega, by omega⟩
    rw [g1, g2] at H; exact H
  obtain ⟨tb, htb⟩ : ∃ b, b = rcB p := ⟨_, rfl⟩
  obtain ⟨gb, hgb⟩ : ∃ b, b = rctB k r := ⟨_, rfl⟩
  obtain ⟨RK, hRK⟩ : ∃ b, b = rkF p := ⟨_, rfl⟩
  obtain ⟨CK, hCK⟩ : ∃ b, b = crF p := ⟨_, rfl⟩
  obtain ⟨SQ, hSQ⟩ : ∃ b, b = sqF p := ⟨_, rfl⟩
  obtain ⟨CT, hCT⟩ : ∃ b, b = rctF k r := ⟨_, rfl⟩
  obtain ⟨PS, hPS⟩ : ∃ b, b = p.sum := ⟨_, rfl⟩
  obtain ⟨CJ, hCJ⟩ : ∃ b, b = conjF p := ⟨_, rfl⟩
  have HSQ : Hid (∀ W, Cells W A2 p → Calls Try.prog 13 #[.slice A2 p.length c2] W fun e w' => ∃ g, e = .returned (.tuple #[.int .i64 SQ, .bool g]) ∧ g = good p ∧ Below W.heap.size W w') := hid fun W h => (HQ1.out W h).mono (by rintro e w' ⟨rfl, b⟩; exact ⟨good p, by rw [hSQ], rfl, b⟩)
  obtain ⟨gp, hgp⟩ : ∃ b, b = good p := ⟨_, rfl⟩
  rw [← htb, ← hRK] at HR1 HR2
  rw [← htb, ← hCK] at HK1 HK2
  rw [← hgp, ← hSQ] at HQ1 HQ2
  rw [← hgb, ← hCT] at HG1 HG2
  rw [← htb, ← hRK, ← hSQ, ← hPS, ← hCJ] at HTH
  rw [← hgb, ← hCT] at HTW
  have e1 : (tb == tb) = true := by simp
  have e2 : (gb == gb) = true := by simp
  have e3 : (gp == gp) = true := by simp
  have e4 : (tb != tb) = false := by simp
  have e5 : (gb != gb) = false := by simp
  have e6 : (gp != gp) = false := by simp
  clear htb hgb hRK hCK hSQ hCT hPS hCJ hgp HTH0 HSQ
  cases hfine : rsB n m
  · have ex : rksF n m = [] := rsF_f hfine
    have ey : crsF n m = [] := rsF_f hfine
    rw [hfine, ex] at HS1 HS2
    rw [hfine, ey] at HC1 HC2
    have HXL := hid (show ([] : List Int).length ≤ 10000 by simp)
    have HYL := hid (show ([] : List Int).length ≤ 10000 by simp)
    clear hfine ex ey
    have B0 : Below w.heap.size w w := Below.refl _ _
    go_enter Try.func3, Try.ntmps3
    go_wp2_with fail
    refine (HS1.out _).mono ?_
    rintro e w1 ⟨Ad1, cd1, rfl, od1, b1⟩
    have B1 : Below w.heap.size w w1 := Below.next B0 b1
    go_wp2_with fail
    refine (HS2.out _).mono ?_
    rintro e w2 ⟨Ad2, cd2, rfl, od2, b2⟩
    have B2 : Below w.heap.size w w2 := Below.next B1 b2
    have od1_2 := od1.below b2
    clear od1
    go_wp2_with fail
    refine (HC1.out _).mono ?_
    rintro e w3 ⟨Ad3, cd3, rfl, od3, b3⟩
    have B3 : Below w.heap.size w w3 := Below.next B2 b3
    have od1_3 := od1_2.below b3
    clear od1_2
    have od2_3 := od2.below b3
    clear od2
    go_wp2_with fail
    refine (HC2.out _).mono ?_
    rintro e w4 ⟨Ad4, cd4, rfl, od4, b4⟩
    have B4 : Below w.heap.size w w4 := Below.next B3 b4
    have od1_4 := od1_3.below b4
    clear od1_3
    have od2_4 := od2_3.below b4
    clear od2_3
    have od3_4 := od3.below b4
    clear od3
    go_wp2_with fail
    refine (HE.out _ _ _ _ _ _ HXL.out od1_4.cells od2_4.cells).mono ?_
    rintro e w5 ⟨rfl, b5⟩
    have B5 : Below w.heap.size w w5 := Below.next B4 b5
    have od1_5 := od1_4.below b5
    clear od1_4
    have od2_5 := od2_4.below b5
    clear od2_4
    have od3_5 := od3_4.below b5
    clear od3_4
    have od4_5 := od4.below b5
    clear od4
    go_wp2_with fail
    refine (HE.out _ _ _ _ _ _ HYL.out od3_5.cells od4_5.cells).mono ?_
    rintro e w6 ⟨rfl, b6⟩
    have B6 : Below w.heap.size w w6 := Below.next B5 b6
    have od1_6 := od1_5.below b6
    clear od1_5
    have od3_6 := od3_5.below b6
    clear od3_5
    have od4_6 := od4_5.below b6
    clear od4_5
    go_wp2_with fail
    refine (HR1.out _ (h2.later B6)).mono ?_
    rintro e w7 ⟨rfl, b7⟩
    have B7 : Below w.heap.size w w7 := Below.next B6 b7
    have od1_7 := od1_6.below b7
    clear od1_6
    have od3_7 := od3_6.below b7
    clear od3_6
    go_wp2_with fail
    refine (HR2.out _ (h2.later B7)).mono ?_
    rintro e w8 ⟨rfl, b8⟩
    have B8 : Below w.heap.size w w8 := Below.next B7 b8
    have od1_8 := od1_7.below b8
    clear od1_7
    have od3_8 := od3_7.below b8
    clear od3_7
    go_wp2_with fail
    refine (HK1.out _ (h2.later B8)).mono ?_
    rintro e w9 ⟨rfl, b9⟩
    have B9 : Below w.heap.size w w9 := Below.next B8 b9
    have od1_9 := od1_8.below b9
    clear od1_8
    have od3_9 := od3_8.below b9
    clear od3_8
    go_wp2_with fail
    refine (HK2.out _ (h2.later B9)).mono ?_
    rintro e w10 ⟨rfl, b10⟩
    have B10 : Below w.heap.size w w10 := Below.next B9 b10
    have od1_10 := od1_9.below b10
    clear od1_9
    have od3_10 := od3_9.below b10
    clear od3_9
    go_wp2_with fail
    refine (HQ1.out _ (h2.later B10)).mono ?_
    rintro e w11 ⟨rfl, b11⟩
    have B11 : Below w.heap.size w w11 := Below.next B10 b11
    have od1_11 := od1_10.below b11
    clear od1_10
    have od3_11 := od3_10.below b11
    clear od3_10
    go_wp2_with fail
    refine (HQ2.out _ (h2.later B11)).mono ?_
    rintro e w12 ⟨rfl, b12⟩
    have B12 : Below w.heap.size w w12 := Below.next B11 b12
    have od1_12 := od1_11.below b12
    clear od1_11
    have od3_12 := od3_11.below b12
    clear od3_11
    go_upto_if 162 with fail
    go_cut [] from 163 to 206 (fun wx => Below w12.heap.size w12 wx)
    case first =>
      cases tb
      · go_wp2_with fail
        go_meet
        case rel => exact Below.refl _ _
      · skip
        obtain ⟨HV, HV1, HV2, HV3, hq1, hq2⟩ := HTH.out rfl
        have HQ := hid hq1
        have HQ2 := hid hq2
        have hq3 := HQ.out
        go_wp2_with fail
        refine (HV.out _ (h2.later B12)).mono ?_
        rintro e v1 ⟨Ac, cc, rfl, oc, d1⟩
        go_wp2_with fail
        refine (HV1.out _ _ _ oc.cells).mono ?_
        rintro e v2 ⟨rfl, d2⟩
        go_wp2_with fail
        refine (HV2.out _ _ _ (oc.below d2).cells).mono ?_
        rintro e v3 ⟨rfl, d3⟩
        have D3 := Below.next (Below.next d1 d2) d3
        go_wp2_with fail
        refine (HV3.out _ (h2.later (Below.next B12 D3))).mono ?_
        rintro e w' ⟨rfl, rfl⟩
        go_wp2_with fail
        go_meet
        case rel => exact D3
    case rest =>
    obtain ⟨w13, hwc⟩ : ∃ x : World, x = wc := ⟨_, rfl⟩
    rw [← hwc] at hcut ⊢
    clear hwc
    have b13 := hcut
    clear hcut
    have B13 : Below w.heap.size w w13 := Below.next B12 b13
    have od1_13 := od1_12.below b13
    clear od1_12
    have od3_13 := od3_12.below b13
    clear od3_12
    go_wp2_with fail
    refine (HG1.out _).mono ?_
    rintro e w14 ⟨rfl, b14⟩
    have B14 : Below w.heap.size w w14 := Below.next B13 b14
    have od1_14 := od1_13.below b14
    clear od1_13
    have od3_14 := od3_13.below b14
    clear od3_13
    go_wp2_with fail
    refine (HG2.out _).mono ?_
    rintro e w15 ⟨rfl, b15⟩
    have B15 : Below w.heap.size w w15 := Below.next B14 b15
    have od1_15 := od1_14.below b15
    clear od1_14
    have od3_15 := od3_14.below b15
    clear od3_14
    go_upto_if 227 with fail
    go_cut [] from 228 to 241 (fun wx => Below w15.heap.size w15 wx)
    case first =>
      cases gb
      · go_wp2_with fail
        go_meet
        case rel => exact Below.refl _ _
      · skip
        obtain ⟨hr1, hr2, HV⟩ := HTW.out rfl
        go_wp2_with fail
        refine (HV.out _).mono ?_
        rintro e v1 ⟨rfl, d1⟩
        go_wp2_with fail
        go_meet
        case rel => exact d1
    case rest =>
    obtain ⟨w16, hwc⟩ : ∃ x : World, x = wc := ⟨_, rfl⟩
    rw [← hwc] at hcut ⊢
    clear hwc
    have b16 := hcut
    clear hcut
    have B16 : Below w.heap.size w w16 := Below.next B15 b16
    have od1_16 := od1_15.below b16
    clear od1_15
    have od3_16 := od3_15.below b16
    clear od3_15
    go_wp2_with fail
    go_ret
    exact ⟨rfl, B16⟩
  obtain ⟨N, M, hN, hM, hN1, hM1⟩ := rsB_nat hfine
  have hfn : rsB (N : Int) (M : Int) = true := by rw [← hN, ← hM]; exact hfine
  rw [hfine] at HS1 HS2 HC1 HC2
  have HP1 := hid fun W => impl_PartitionNumber n W hn64
  obtain ⟨p1, p2⟩ := pv_T hN1.1 hN1.2
  have hpl := prt_len hN1.2
  have hxs := spr_sum rkV hfn
  have hys := spr_sum crV hfn
  have hxl : (rksF n m).length = M := by rw [hN, hM]; unfold rksF; rw [rsF_t hfn, rsL_len]
  have hyl : (crsF n m).length = M := by rw [hN, hM]; unfold crsF; rw [rsF_t hfn, rsL_len]
  have HX1 := hid fun A c W (h : Cells W A (rksF n m)) => qSum_e A (rksF n m) c W (by omega) (fun j hj => by have := spr_bd rkV hfn (x := j) (by omega); rw [hN, hM]; exact ⟨this.1, by have h9 := this.2; exact Int.le_trans h9 (by omega)⟩) h
  have HY1 := hid fun A c W (h : Cells W A (crsF n m)) => qSum_e A (crsF n m) c W (by omega) (fun j hj => by have := spr_bd crV hfn (x := j) (by omega); rw [hN, hM]; exact ⟨this.1, by have h9 := this.2; exact Int.le_trans h9 (by omega)⟩) h
  rw [show (rksF n m).sum = pvF n by rw [hN, hM, p2]; exact hxs] at HX1
  rw [show (crsF n m).sum = pvF n by rw [hN, hM, p2]; exact hys] at HY1
  rw [show nmB n = true by rw [hN]; exact p1] at HP1
  have HXV0 : Hid (∀ x, x < (rksF n m).length → x < M ∧ (rksF n m).getD (((rksF n m).length - x) % (rksF n m).length) 0 = (rksF n m).getD x 0 ∧ (0 ≤ (rksF n m).getD x 0 ∧ (rksF n m).getD x 0 ≤ 5604) ∧ (0 ≤ (crsF n m).getD x 0 ∧ (crsF n m).getD x 0 ≤ 5604)) := hid fun x hx => by
    rw [hxl] at hx ⊢
    rw [hN, hM]
    exact ⟨hx, (rk_sym hfn hx).symm, spr_bd rkV hfn hx, spr_bd crV hfn hx⟩
  have HEVR : Hid ((m = 5 ∧ Int.tmod n 5 = 4) ∨ (m = 7 ∧ Int.tmod n 7 = 5) → ∀ x, x < (rksF n m).length → m * (rksF n m).getD x 0 = pvF n) := hid fun h x hx => by
    rw [hxl] at hx
    rw [Int.tmod_eq_emod_of_nonneg (by omega), Int.tmod_eq_emod_of_nonneg (by omega)] at h
    rw [hN, hM]
    exact ev_rk hfn (by omega) hx
  have HEVC : Hid ((m = 5 ∧ Int.tmod n 5 = 4) ∨ (m = 7 ∧ Int.tmod n 7 = 5) ∨ (m = 11 ∧ Int.tmod n 11 = 6) → ∀ x, x < (rksF n m).length → m * (crsF n m).getD x 0 = pvF n) := hid fun h x hx => by
    rw [hxl] at hx
    rw [Int.tmod_eq_emod_of_nonneg (by omega), Int.tmod_eq_emod_of_nonneg (by omega), Int.tmod_eq_emod_of_nonneg (by omega)] at h
    rw [hN, hM]
    exact ev_cr hfn (by omega) hx
  have HTM : Hid (∀ x, x < (rksF n m).length → (x : Int) < m ∧ Int.tmod (m - (x : Int)) m = ((((rksF n m).length - x) % (rksF n m).length : Nat) : Int)) := hid fun x hx => by
    rw [hxl] at hx ⊢
    rw [hM]; exact ⟨by omega, tm_at hx⟩
  have HYX := hid (show (crsF n m).length = (rksF n m).length by omega)
  have hpv : 0 ≤ pvF n ∧ pvF n ≤ 5604 := by rw [hN, p2]; omega
  obtain ⟨X, hX⟩ : ∃ X, X = rksF n m := ⟨_, rfl⟩
  obtain ⟨Y, hY⟩ : ∃ Y, Y = crsF n m := ⟨_, rfl⟩
  obtain ⟨P, hP⟩ : ∃ P, P = pvF n := ⟨_, rfl⟩
  rw [← hX] at HS1 HS2 HX1 HXV0 HEVR HEVC HTM HYX hxl
  rw [← hY] at HC1 HC2 HY1 HXV0 HEVC HYX hyl
  rw [← hP] at HX1 HY1 HP1 HEVR HEVC hpv
  have HXL := hid (show X.length ≤ 10000 by omega)
  have HYL := hid (show Y.length ≤ 10000 by omega)
  have hm2 : 2 ≤ m ∧ m ≤ 11 := by omega
  have hn0 : 1 ≤ n ∧ n ≤ 30 := by omega
  have hmne : ¬ m = 0 := by omega
  have HCASE : Hid ((m = 5 ∧ Int.tmod n 5 = 4) ∨ (m = 5 ∧ ¬ Int.tmod n 5 = 4) ∨ (m = 7 ∧ Int.tmod n 7 = 5) ∨ (m = 7 ∧ ¬ Int.tmod n 7 = 5) ∨ (¬ m = 5 ∧ ¬ m = 7)) := hid (by
    by_cases a1 : m = 5
    · by_cases a2 : Int.tmod n 5 = 4
      · exact .inl ⟨a1, a2⟩
      · exact .inr (.inl ⟨a1, a2⟩)
    by_cases b1 : m = 7
    · by_cases a2 : Int.tmod n 7 = 5
      · exact .inr (.inr (.inl ⟨b1, a2⟩))
      · exact .inr (.inr (.inr (.inl ⟨b1, a2⟩)))
    exact .inr (.inr (.inr (.inr ⟨a1, b1⟩))))
  clear hfine hfn p1 p2 hpl hxs hys hX hY hP hyl hN hN1 hM hM1 hxl
  have B0 : Below w.heap.size w w := Below.refl _ _
  go_enter Try.func3, Try.ntmps3
  go_wp2_with fail
  refine (HS1.out _).mono ?_
  rintro e w1 ⟨Ad1, cd1, rfl, od1, b1⟩
  have B1 : Below w.heap.size w w1 := Below.next B0 b1
  go_wp2_with fail
  refine (HS2.out _).mono ?_
  rintro e w2 ⟨Ad2, cd2, rfl, od2, b2⟩
  have B2 : Below w.heap.size w w2 := Below.next B1 b2
  have od1_2 := od1.below b2
  clear od1
  go_wp2_with fail
  refine (HC1.out _).mono ?_
  rintro e w3 ⟨Ad3, cd3, rfl, od3, b3⟩
  have B3 : Below w.heap.size w w3 := Below.next B2 b3
  have od1_3 := od1_2.below b3
  clear od1_2
  have od2_3 := od2.below b3
  clear od2
  go_wp2_with fail
  refine (HC2.out _).mono ?_
  rintro e w4 ⟨Ad4, cd4, rfl, od4, b4⟩
  have B4 : Below w.heap.size w w4 := Below.next B3 b4
  have od1_4 := od1_3.below b4
  clear od1_3
  have od2_4 := od2_3.below b4
  clear od2_3
  have od3_4 := od3.below b4
  clear od3
  go_wp2_with fail
  refine (HE.out _ _ _ _ _ _ HXL.out od1_4.cells od2_4.cells).mono ?_
  rintro e w5 ⟨rfl, b5⟩
  have B5 : Below w.heap.size w w5 := Below.next B4 b5
  have od1_5 := od1_4.below b5
  clear od1_4
  have od2_5 := od2_4.below b5
  clear od2_4
  have od3_5 := od3_4.below b5
  clear od3_4
  have od4_5 := od4.below b5
  clear od4
  go_wp2_with fail
  refine (HE.out _ _ _ _ _ _ HYL.out od3_5.cells od4_5.cells).mono ?_
  rintro e w6 ⟨rfl, b6⟩
  have B6 : Below w.heap.size w w6 := Below.next B5 b6
  have od1_6 := od1_5.below b6
  clear od1_5
  have od3_6 := od3_5.below b6
  clear od3_5
  have od4_6 := od4_5.below b6
  clear od4_5
  go_wp2_with fail
  refine (HR1.out _ (h2.later B6)).mono ?_
  rintro e w7 ⟨rfl, b7⟩
  have B7 : Below w.heap.size w w7 := Below.next B6 b7
  have od1_7 := od1_6.below b7
  clear od1_6
  have od3_7 := od3_6.below b7
  clear od3_6
  go_wp2_with fail
  refine (HR2.out _ (h2.later B7)).mono ?_
  rintro e w8 ⟨rfl, b8⟩
  have B8 : Below w.heap.size w w8 := Below.next B7 b8
  have od1_8 := od1_7.below b8
  clear od1_7
  have od3_8 := od3_7.below b8
  clear od3_7
  go_wp2_with fail
  refine (HK1.out _ (h2.later B8)).mono ?_
  rintro e w9 ⟨rfl, b9⟩
  have B9 : Below w.heap.size w w9 := Below.next B8 b9
  have od1_9 := od1_8.below b9
  clear od1_8
  have od3_9 := od3_8.below b9
  clear od3_8
  go_wp2_with fail
  refine (HK2.out _ (h2.later B9)).mono ?_
  rintro e w10 ⟨rfl, b10⟩
  have B10 : Below w.heap.size w w10 := Below.next B9 b10
  have od1_10 := od1_9.below b10
  clear od1_9
  have od3_10 := od3_9.below b10
  clear od3_9
  go_wp2_with fail
  refine (HQ1.out _ (h2.later B10)).mono ?_
  rintro e w11 ⟨rfl, b11⟩
  have B11 : Below w.heap.size w w11 := Below.next B10 b11
  have od1_11 := od1_10.below b11
  clear od1_10
  have od3_11 := od3_10.below b11
  clear od3_10
  go_wp2_with fail
  refine (HQ2.out _ (h2.later B11)).mono ?_
  rintro e w12 ⟨rfl, b12⟩
  have B12 : Below w.heap.size w w12 := Below.next B11 b12
  have od1_12 := od1_11.below b12
  clear od1_11
  have od3_12 := od3_11.below b12
  clear od3_11
  go_upto_if 162 with fail
  go_cut [] from 163 to 206 (fun wx => Below w12.heap.size w12 wx)
  case first =>
    cases tb
    · go_wp2_with fail
      go_meet
      case rel => exact Below.refl _ _
    · skip
      obtain ⟨HV, HV1, HV2, HV3, hq1, hq2⟩ := HTH.out rfl
      have HQ := hid hq1
      have HQ2 := hid hq2
      have hq3 := HQ.out
      go_wp2_with fail
      refine (HV.out _ (h2.later B12)).mono ?_
      rintro e v1 ⟨Ac, cc, rfl, oc, d1⟩
      go_wp2_with fail
      refine (HV1.out _ _ _ oc.cells).mono ?_
      rintro e v2 ⟨rfl, d2⟩
      go_wp2_with fail
      refine (HV2.out _ _ _ (oc.below d2).cells).mono ?_
      rintro e v3 ⟨rfl, d3⟩
      have D3 := Below.next (Below.next d1 d2) d3
      go_wp2_with fail
      refine (HV3.out _ (h2.later (Below.next B12 D3))).mono ?_
      rintro e w' ⟨rfl, rfl⟩
      go_wp2_with fail
      go_meet
      case rel => exact D3
  case rest =>
  obtain ⟨w13, hwc⟩ : ∃ x : World, x = wc := ⟨_, rfl⟩
  rw [← hwc] at hcut ⊢
  clear hwc
  have b13 := hcut
  clear hcut
  have B13 : Below w.heap.size w w13 := Below.next B12 b13
  have od1_13 := od1_12.below b13
  clear od1_12
  have od3_13 := od3_12.below b13
  clear od3_12
  go_wp2_with fail
  refine (HG1.out _).mono ?_
  rintro e w14 ⟨rfl, b14⟩
  have B14 : Below w.heap.size w w14 := Below.next B13 b14
  have od1_14 := od1_13.below b14
  clear od1_13
  have od3_14 := od3_13.below b14
  clear od3_13
  go_wp2_with fail
  refine (HG2.out _).mono ?_
  rintro e w15 ⟨rfl, b15⟩
  have B15 : Below w.heap.size w w15 := Below.next B14 b15
  have od1_15 := od1_14.below b15
  clear od1_14
  have od3_15 := od3_14.below b15
  clear od3_14
  go_upto_if 227 with fail
  go_cut [] from 228 to 241 (fun wx => Below w15.heap.size w15 wx)
  case first =>
    cases gb
    · go_wp2_with fail
      go_meet
      case rel => exact Below.refl _ _
    · skip
      obtain ⟨hr1, hr2, HV⟩ := HTW.out rfl
      go_wp2_with fail
      refine (HV.out _).mono ?_
      rintro e v1 ⟨rfl, d1⟩
      go_wp2_with fail
      go_meet
      case rel => exact d1
  case rest =>
  obtain ⟨w16, hwc⟩ : ∃ x : World, x = wc := ⟨_, rfl⟩
  rw [← hwc] at hcut ⊢
  clear hwc
  have b16 := hcut
  clear hcut
  have B16 : Below w.heap.size w w16 := Below.next B15 b16
  have od1_16 := od1_15.below b16
  clear od1_15
  have od3_16 := od3_15.below b16
  clear od3_15
  go_wp2_with fail
  refine (HP1.out _).mono ?_
  rintro e w17 ⟨rfl, b17⟩
  have B17 : Below w.heap.size w w17 := Below.next B16 b17
  have od1_17 := od1_16.below b17
  clear od1_16
  have od3_17 := od3_16.below b17
  clear od3_16
  go_wp2_with fail
  refine (HX1.out _ _ _ od1_17.cells).mono ?_
  rintro e w' ⟨rfl, rfl⟩
  go_wp2_with fail
  refine (HY1.out _ _ _ od3_17.cells).mono ?_
  rintro e w' ⟨rfl, rfl⟩
  have HDX := hid od1_17.cells
  have HDY := hid od3_17.cells
  obtain ⟨wl, hwl⟩ : ∃ x, x = w17 := ⟨_, rfl⟩
  rw [← hwl] at B17 HDX HDY ⊢
  have HBL := hid B17
  clear od1_17 od3_17 hwl B17
  go_upto_region 36 with fail
  go_cut [45] from 263 to 278 (fun e wx => ∃ E : Bool, e = .bool E ∧ Hid (E = true → (m = 5 ∧ Int.tmod n 5 = 4) ∨ (m = 7 ∧ Int.tmod n 7 = 5)) ∧ wx = wl)
  case first =>
    rcases HCASE.out with ⟨c1, c2⟩ | ⟨c1, c2⟩ | ⟨c1, c2⟩ | ⟨c1, c2⟩ | ⟨c1, c3⟩
    · skip
      have HEQ := hid c1
      have HC2 := hid c2
      have c6 : (m == 5) = true := by simp [c1]
      go_wp2_with fail
      go_meet
      case rel => exact ⟨true, rfl, hid fun _ => .inl ⟨HEQ.out, HC2.out⟩, rfl⟩
    · skip
      have HEQ := hid c1
      obtain ⟨r, hr⟩ : ∃ r : Int, r = Int.tmod n 5 := ⟨_, rfl⟩
      rw [← hr] at c2
      have c4 := hr.symm
      have c5 : (r == 4) = false := by simpa using c2
      clear hr
      have c6 : (m == 5) = true := by simp [c1]
      go_wp2_with fail
      go_meet
      case rel => exact ⟨false, rfl, (hid fun h => by cases h), rfl⟩
    · skip
      have HEQ := hid c1
      have HC2 := hid c2
      have c6 : (m == 5) = false := by simp [c1]
      have c7 : (m == 7) = true := by simp [c1]
      have c8 : ¬ m = 5 := by omega
      go_wp2_with fail
      go_meet
      case rel => exact ⟨true, rfl, hid fun _ => .inr ⟨HEQ.out, HC2.out⟩, rfl⟩
    · skip
      have HEQ := hid c1
      obtain ⟨r, hr⟩ : ∃ r : Int, r = Int.tmod n 7 := ⟨_, rfl⟩
      rw [← hr] at c2
      have c4 := hr.symm
      have c5 : (r == 5) = false := by simpa using c2
      clear hr
      have c6 : (m == 5) = false := by simp [c1]
      have c7 : (m == 7) = true := by simp [c1]
      have c8 : ¬ m = 5 := by omega
      go_wp2_with fail
      go_meet
      case rel => exact ⟨false, rfl, (hid fun h => by cases h), rfl⟩
    · skip
      have c4 : (m == 5) = false := by simpa using c1
      have c5 : (m == 7) = false := by simpa using c3
      go_wp2_with fail
      go_meet
      case rel => exact ⟨false, rfl, (hid fun h => by cases h), rfl⟩
  case rest =>
  obtain ⟨E, rfl, HEV, hwx⟩ := hcut
  rw [hwx]
  clear hwx
  cases E
  case true =>
    have HXV := hid (HEVR.out (HEV.out rfl))
    have HYV := hid (HEVC.out ((HEV.out rfl).elim .inl (fun h => .inr (.inl h))))
    go_wp2_with fail
    go_loopw [281] (fun i wr => ∃ k : Nat, k ≤ X.length ∧ i = .int .i64 k ∧ ∃ q, wr = wl.drewN q) (fun i _ => X.length - (intOf i).toNat)
    case atStart => exact ⟨0, Nat.zero_le _, rfl, 0, rfl⟩
    case round =>
      obtain ⟨k, hk, rfl, nq, rfl⟩ := hrel
      by_cases hlt : k < X.length
      · obtain ⟨f1, f2, f3, f4⟩ := HXV0.out k hlt
        obtain ⟨b, o, hbo, hcc⟩ := HDX.out (by omega)
        obtain ⟨b2, o2, hbo2, hcc2⟩ := HDY.out (by rw [HYX.out]; omega)
        subst hbo
        subst hbo2
        have g1 := HXV.out k hlt
        have g2 := HYV.out k hlt
        obtain ⟨hkm, htm⟩ := HTM.out k hlt
        obtain ⟨j, hj⟩ : ∃ j : Nat, j = (X.length - k) % X.length := ⟨_, rfl⟩
        rw [← hj] at htm f2
        have hjl : j < X.length := by rw [hj]; exact Nat.mod_lt _ (by omega)
        have k0 := hcc k hlt
        have k1 := hcc j hjl
        have k2 := hcc2 k (by rw [HYX.out]; exact hlt)
        rw [f2] at k1
        obtain ⟨x, hx⟩ : ∃ x, x = X.getD k 0 := ⟨_, rfl⟩
        obtain ⟨y, hy⟩ : ∃ y, y = Y.getD k 0 := ⟨_, rfl⟩
        rw [← hx] at k0 k1 f3 g1
        rw [← hy] at k2 f4 g2
        have hli : (k : Int) < (X.length : Int) := by omega
        have hlj : (j : Int) < (X.length : Int) := by omega
        have hly : (k : Int) < (Y.length : Int) := by rw [HYX.out]; omega
        rw [Int.tmod_eq_emod_of_nonneg (by omega)] at htm
        have ht0 : 0 ≤ (m - (k : Int)) % m := by omega
        have ht1 : (m - (k : Int)) % m < (X.length : Int) := by omega
        have k1b : wl.cell? ⟨b, o + ((m - (k : Int)) % m).toNat, none⟩ = some (.int .i64 x) := by rw [htm, Int.toNat_natCast]; exact k1
        have ht2 : ((m - (k : Int)) % m).toNat = j := by omega
        have g3 : 0 ≤ m * x ∧ m * x ≤ 5604 := by omega
        have g4 : 0 ≤ m * y ∧ m * y ≤ 5604 := by omega
        have HJ := hid hlt
        clear hcc hcc2 hx hy hj f1 f2
        go_wp2_with fail
        refine wp_region_quiet_lit (by kernel_rfl) (by kernel_rfl) ?_
        iterate 48 (go_big_quiet_step (fail))
        refine wpQuiet_nil ?_
        intro _ hw'
        obtain ⟨nz, hw''⟩ := hw'
        subst hw''
        go_wp2_with fail
        go_roundw
        case rel => exact ⟨k + 1, HJ.out, congrArg (Value.int .i64) (Int.natCast_succ k).symm, nq + nz, (by first | rfl | exact World.drewN_drewN ..)⟩
        case measure => have := HJ.out; simp [intOf]; omega
      · have hge : ¬ (k : Int) < (X.length : Int) := by omega
        go_wp2_with fail
        go_ret
        exact ⟨rfl, Below.next HBL.out (below_drew' _ _)⟩
  clear HEV
  by_cases c1 : m = 11
  case neg =>
    have c6 : (m == 11) = false := by simpa using c1
    go_wp2_with fail
    go_loopw [281] (fun i wr => ∃ k : Nat, k ≤ X.length ∧ i = .int .i64 k ∧ ∃ q, wr = wl.drewN q) (fun i _ => X.length - (intOf i).toNat)
    case atStart => exact ⟨0, Nat.zero_le _, rfl, 0, rfl⟩
    case round =>
      obtain ⟨k, hk, rfl, nq, rfl⟩ := hrel
      by_cases hlt : k < X.length
      · obtain ⟨f1, f2, f3, f4⟩ := HXV0.out k hlt
        obtain ⟨b, o, hbo, hcc⟩ := HDX.out (by omega)
        obtain ⟨b2, o2, hbo2, hcc2⟩ := HDY.out (by rw [HYX.out]; omega)
        subst hbo
        subst hbo2
        obtain ⟨hkm, htm⟩ := HTM.out k hlt
        obtain ⟨j, hj⟩ : ∃ j : Nat, j = (X.length - k) % X.length := ⟨_, rfl⟩
        rw [← hj] at htm f2
        have hjl : j < X.length := by rw [hj]; exact Nat.mod_lt _ (by omega)
        have k0 := hcc k hlt
        have k1 := hcc j hjl
        have k2 := hcc2 k (by rw [HYX.out]; exact hlt)
        rw [f2] at k1
        obtain ⟨x, hx⟩ : ∃ x, x = X.getD k 0 := ⟨_, rfl⟩
        obtain ⟨y, hy⟩ : ∃ y, y = Y.getD k 0 := ⟨_, rfl⟩
        rw [← hx] at k0 k1 f3
        rw [← hy] at k2 f4
        have hli : (k : Int) < (X.length : Int) := by omega
        have hlj : (j : Int) < (X.length : Int) := by omega
        have hly : (k : Int) < (Y.length : Int) := by rw [HYX.out]; omega
        rw [Int.tmod_eq_emod_of_nonneg (by omega)] at htm
        have ht0 : 0 ≤ (m - (k : Int)) % m := by omega
        have ht1 : (m - (k : Int)) % m < (X.length : Int) := by omega
        have k1b : wl.cell? ⟨b, o + ((m - (k : Int)) % m).toNat, none⟩ = some (.int .i64 x) := by rw [htm, Int.toNat_natCast]; exact k1
        have ht2 : ((m - (k : Int)) % m).toNat = j := by omega
        have HJ := hid hlt
        clear hcc hcc2 hx hy hj f1 f2
        go_wp2_with fail
        refine wp_region_quiet_lit (by kernel_rfl) (by kernel_rfl) ?_
        iterate 48 (go_big_quiet_step (fail))
        refine wpQuiet_nil ?_
        intro _ hw'
        obtain ⟨nz, hw''⟩ := hw'
        subst hw''
        go_wp2_with fail
        go_roundw
        case rel => exact ⟨k + 1, HJ.out, congrArg (Value.int .i64) (Int.natCast_succ k).symm, nq + nz, (by first | rfl | exact World.drewN_drewN ..)⟩
        case measure => have := HJ.out; simp [intOf]; omega
      · have hge : ¬ (k : Int) < (X.length : Int) := by omega
        go_wp2_with fail
        go_ret
        exact ⟨rfl, Below.next HBL.out (below_drew' _ _)⟩
  by_cases c2 : Int.tmod n 11 = 6
  case pos =>
    have HYV := hid (HEVC.out (.inr (.inr ⟨c1, c2⟩)))
    have c6 : (m == 11) = true := by simp [c1]
    have HC1 := hid c1
    clear c1
    go_wp2_with fail
    go_loopw [281] (fun i wr => ∃ k : Nat, k ≤ X.length ∧ i = .int .i64 k ∧ ∃ q, wr = wl.drewN q) (fun i _ => X.length - (intOf i).toNat)
    case atStart => exact ⟨0, Nat.zero_le _, rfl, 0, rfl⟩
    case round =>
      obtain ⟨k, hk, rfl, nq, rfl⟩ := hrel
      by_cases hlt : k < X.length
      · obtain ⟨f1, f2, f3, f4⟩ := HXV0.out k hlt
        obtain ⟨b, o, hbo, hcc⟩ := HDX.out (by omega)
        obtain ⟨b2, o2, hbo2, hcc2⟩ := HDY.out (by rw [HYX.out]; omega)
        subst hbo
        subst hbo2
        have g2 := HYV.out k hlt
        obtain ⟨hkm, htm⟩ := HTM.out k hlt
        obtain ⟨j, hj⟩ : ∃ j : Nat, j = (X.length - k) % X.length := ⟨_, rfl⟩
        rw [← hj] at htm f2
        have hjl : j < X.length := by rw [hj]; exact Nat.mod_lt _ (by omega)
        have k0 := hcc k hlt
        have k1 := hcc j hjl
        have k2 := hcc2 k (by rw [HYX.out]; exact hlt)
        rw [f2] at k1
        obtain ⟨x, hx⟩ : ∃ x, x = X.getD k 0 := ⟨_, rfl⟩
        obtain ⟨y, hy⟩ : ∃ y, y = Y.getD k 0 := ⟨_, rfl⟩
        rw [← hx] at k0 k1 f3
        rw [← hy] at k2 f4 g2
        have hli : (k : Int) < (X.length : Int) := by omega
        have hlj : (j : Int) < (X.length : Int) := by omega
        have hly : (k : Int) < (Y.length : Int) := by rw [HYX.out]; omega
        rw [Int.tmod_eq_emod_of_nonneg (by omega)] at htm
        have ht0 : 0 ≤ (m - (k : Int)) % m := by omega
        have ht1 : (m - (k : Int)) % m < (X.length : Int) := by omega
        have k1b : wl.cell? ⟨b, o + ((m - (k : Int)) % m).toNat, none⟩ = some (.int .i64 x) := by rw [htm, Int.toNat_natCast]; exact k1
        have ht2 : ((m - (k : Int)) % m).toNat = j := by omega
        have g4 : 0 ≤ m * y ∧ m * y ≤ 5604 := by omega
        have HJ := hid hlt
        clear hcc hcc2 hx hy hj f1 f2
        go_wp2_with fail
        refine wp_region_quiet_lit (by kernel_rfl) (by kernel_rfl) ?_
        iterate 48 (go_big_quiet_step (fail))
        refine wpQuiet_nil ?_
        intro _ hw'
        obtain ⟨nz, hw''⟩ := hw'
        subst hw''
        go_wp2_with fail
        go_roundw
        case rel => exact ⟨k + 1, HJ.out, congrArg (Value.int .i64) (Int.natCast_succ k).symm, nq + nz, (by first | rfl | exact World.drewN_drewN ..)⟩
        case measure => have := HJ.out; simp [intOf]; omega
      · have hge : ¬ (k : Int) < (X.length : Int) := by omega
        go_wp2_with fail
        go_ret
        exact ⟨rfl, Below.next HBL.out (below_drew' _ _)⟩
  obtain ⟨r, hr⟩ : ∃ r : Int, r = Int.tmod n 11 := ⟨_, rfl⟩
  rw [← hr] at c2
  have c4 := hr.symm
  have c5 : (r == 6) = false := by simpa using c2
  clear hr
  have c6 : (m == 11) = true := by simp [c1]
  have HC1 := hid c1
  clear c1
  go_wp2_with fail
  go_loopw [281] (fun i wr => ∃ k : Nat, k ≤ X.length ∧ i = .int .i64 k ∧ ∃ q, wr = wl.drewN q) (fun i _ => X.length - (intOf i).toNat)
  case atStart => exact ⟨0, Nat.zero_le _, rfl, 0, rfl⟩
  case round =>
    obtain ⟨k, hk, rfl, nq, rfl⟩ := hrel
    by_cases hlt : k < X.length
    · obtain ⟨f1, f2, f3, f4⟩ := HXV0.out k hlt
      obtain ⟨b, o, hbo, hcc⟩ := HDX.out (by omega)
      obtain ⟨b2, o2, hbo2, hcc2⟩ := HDY.out (by rw [HYX.out]; omega)
      subst hbo
      subst hbo2
      obtain ⟨hkm, htm⟩ := HTM.out k hlt
      obtain ⟨j, hj⟩ : ∃ j : Nat, j = (X.length - k) % X.length := ⟨_, rfl⟩
      rw [← hj] at htm f2
      have hjl : j < X.length := by rw [hj]; exact Nat.mod_lt _ (by omega)
      have k0 := hcc k hlt
      have k1 := hcc j hjl
      have k2 := hcc2 k (by rw [HYX.out]; exact hlt)
      rw [f2] at k1
      obtain ⟨x, hx⟩ : ∃ x, x = X.getD k 0 := ⟨_, rfl⟩
      obtain ⟨y, hy⟩ : ∃ y, y = Y.getD k 0 := ⟨_, rfl⟩
      rw [← hx] at k0 k1 f3
      rw [← hy] at k2 f4
      have hli : (k : Int) < (X.length : Int) := by omega
      have hlj : (j : Int) < (X.length : Int) := by omega
      have hly : (k : Int) < (Y.length : Int) := by rw [HYX.out]; omega
      rw [Int.tmod_eq_emod_of_nonneg (by omega)] at htm
      have ht0 : 0 ≤ (m - (k : Int)) % m := by omega
      have ht1 : (m - (k : Int)) % m < (X.length : Int) := by omega
      have k1b : wl.cell? ⟨b, o + ((m - (k : Int)) % m).toNat, none⟩ = some (.int .i64 x) := by rw [htm, Int.toNat_natCast]; exact k1
      have ht2 : ((m - (k : Int)) % m).toNat = j := by omega
      have HJ := hid hlt
      clear hcc hcc2 hx hy hj f1 f2
      go_wp2_with fail
      refine wp_region_quiet_lit (by kernel_rfl) (by kernel_rfl) ?_
      iterate 48 (go_big_quiet_step (fail))
      refine wpQuiet_nil ?_
      intro _ hw'
      obtain ⟨nz, hw''⟩ := hw'
      subst hw''
      go_wp2_with fail
      go_roundw
      case rel => exact ⟨k + 1, HJ.out, congrArg (Value.int .i64) (Int.natCast_succ k).symm, nq + nz, (by first | rfl | exact World.drewN_drewN ..)⟩
      case measure => have := HJ.out; simp [intOf]; omega
    · have hge : ¬ (k : Int) < (X.length : Int) := by omega
      go_wp2_with fail
      go_ret
      exact ⟨rfl, Below.next HBL.out (below_drew' _ _)⟩
end Go.Proofs.Ytmiifdedmjfgkaa
