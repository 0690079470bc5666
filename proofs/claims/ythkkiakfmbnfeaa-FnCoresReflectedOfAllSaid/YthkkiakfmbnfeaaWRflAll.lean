/-
  The walk of FnCoresReflectedOfAll (made by genrfl.py).
-/
import Derived.Test.YthkkiakfmbnfeaaR39
import Derived.Test.YthkkiakfmbnfeaaR40
import Derived.Test.YthkkiakfmbnfeaaR02
import Derived.Test.YthkkiakfmbnfeaaCC
import Derived.Test.YthkkiakfmbnfeaaQcr
import Derived.Deep.CutRange
namespace Go.Proofs.Ythkkiakfmbnfeaa
open Go.RowKit

set_option maxRecDepth 100000 in
set_option maxHeartbeats 16000000 in
theorem walkCoresReflectedOfAll (A0 : Option Addr) (c0 : Nat) (xs : List Int) (i : Int) (A2 : Option Addr) (c2 : Nat) (p : List Int) (t k : Int) (A5 : Option Addr) (c5 : Nat) (ys : List Int) (w : World)
    (h0c : Cells w A0 xs) (_hu0 : xs.length ≤ c0) (hn0 : A0 = none → c0 = 0) (hi64 : I64 i) (h2c : Cells w A2 p) (_hu2 : p.length ≤ c2) (hn2 : A2 = none → c2 = 0) (ht64 : I64 t) (hk64 : I64 k) (h5 : Cells w A5 ys) :
    Calls Try.prog 3 #[.slice A0 xs.length c0, .int .i64 i, .slice A2 p.length c2, .int .i64 t, .int .i64 k, .slice A5 ys.length c5] w fun e w' => e = .returned (.bool true) ∧ Below w.heap.size w w' := by
  have h0 := cells_rd h0c hn0
  have h2 := cells_rd h2c hn2
  clear h0c _hu0 hn0 h2c _hu2 hn2
  by_cases hbig0 : 10000 < xs.length
  · have hb : (10000 : Int) < (xs.length : Int) := by omega
    go_enter Try.func3, Try.ntmps3
    go_wp2_with fail
    go_ret
    exact ⟨rfl, Below.refl _ _⟩
  have hz0 : (xs.length : Int) ≤ 10000 := by omega
  by_cases hbig1 : 10000 < p.length
  · have hb : (10000 : Int) < (p.length : Int) := by omega
    go_enter Try.func3, Try.ntmps3
    go_wp2_with fail
    go_ret
    exact ⟨rfl, Below.refl _ _⟩
  have hz1 : (p.length : Int) ≤ 10000 := by omega
  by_cases hbig2 : 10000 < ys.length
  · have hb : (10000 : Int) < (ys.length : Int) := by omega
    go_enter Try.func3, Try.ntmps3
    go_wp2_with fail
    go_ret
    exact ⟨rfl, Below.refl _ _⟩
  have hz2 : (ys.length : Int) ≤ 10000 := by omega
  clear hbig0 hbig1 hbig2
  have HE := hid fun A B c d (xs : List Int) W (hl : xs.length ≤ 1048576) (hA : Cells W A xs) (hB : Cells W B xs) => qSame_lac A B c d xs W hl hA hB
  have HA1 := hid fun W (h : Rd W A0 c0 xs) => impl_ReflectLevelsR A0 c0 xs i W (by omega) h hi64
  have HA2 := hid fun W (h : Rd W A0 c0 xs) => spec_ReflectLevelsR A0 c0 xs i W (by omega) h hi64
  have HAA := hid fun A B c d W (hA : Cells W A (reflF xs i)) (hB : Cells W B (reflF xs i)) => qSame_lac A B c d (reflF xs i) W (bound_ReflectLevels xs i) hA hB
  have HC1 := hid fun W (h : Rd W A2 c2 p) => impl_ReflectCore'R A2 c2 p t k W (by omega) h ht64
  have HC2 := hid fun W (h : Rd W A2 c2 p) => spec_ReflectCoreR A2 c2 p t k W (by omega) h ht64 hk64
  have HQQ := hid fun A B c d W (hA : Cells W A (rfF p t k)) (hB : Cells W B (rfF p t k)) => qSame_lac A B c d (rfF p t k) W (bound_ReflectCore p t k) hA hB
  have HT1 := hid fun W (h : Cells W A5 ys) => impl_TurnLevels A5 c5 ys W (by omega) h
  have HT2 := hid fun W (h : Cells W A5 ys) => spec_TurnLevels A5 c5 ys W (by omega) h
  have HTT := hid fun A B c d W (hA : Cells W A (turnF ys)) (hB : Cells W B (turnF ys)) => qSame_lac A B c d (turnF ys) W (bound_TurnLevels ys) hA hB
  have HL1 := hid fun W (h : Cells W A5 ys) => impl_CoreOfLevels A5 c5 ys W (by omega) h
  obtain ⟨rb, hrb⟩ : ∃ b, b = reflB xs i := ⟨_, rfl⟩
  rw [← hrb] at HA1 HA2
  obtain ⟨RX, hRX⟩ : ∃ b, b = reflF xs i := ⟨_, rfl⟩
  rw [← hRX] at HA1 HA2 HAA
  obtain ⟨tb, htb⟩ : ∃ b, b = rfOk p t k := ⟨_, rfl⟩
  rw [← htb] at HC1 HC2
  obtain ⟨Q, hQ⟩ : ∃ b, b = rfF p t k := ⟨_, rfl⟩
  rw [← hQ] at HC1 HC2 HQQ
  obtain ⟨lb, hlb⟩ : ∃ b, b = levB ys := ⟨_, rfl⟩
  rw [← hlb] at HT1 HT2
  obtain ⟨TY, hTY⟩ : ∃ b, b = turnF ys := ⟨_, rfl⟩
  rw [← hTY] at HT1 HT2 HTT
  obtain ⟨cb, hcb⟩ : ∃ b, b = clOk ys := ⟨_, rfl⟩
  rw [← hcb] at HL1
  obtain ⟨K, hK⟩ : ∃ b, b = clF ys := ⟨_, rfl⟩
  rw [← hK] at HL1
  have Hrb := hid hrb
  have HRX := hid hRX
  have Htb := hid htb
  have HQ := hid hQ
  have Hlb := hid hlb
  have HTY := hid hTY
  have Hcb := hid hcb
  have HK := hid hK
  have e1 : (rb != rb) = false := by simp
  have e2 : (tb != tb) = false := by simp
  have e3 : (lb != lb) = false := by simp
  clear hrb hRX htb hQ hlb hTY hcb hK
  have B0 : Below w.heap.size w w := Below.refl _ _
  go_enter Try.func3, Try.ntmps3
  go_wp2_with fail
  refine (HA1.out _ (h0.below B0)).mono ?_
  rintro e w1 ⟨Aa1, ca1, rfl, oa1, b1⟩
  have B1 : Below w.heap.size w w1 := Below.next B0 b1
  go_wp2_with fail
  refine (HA2.out _ (h0.below B1)).mono ?_
  rintro e w2 ⟨Aa2, ca2, rfl, oa2, b2⟩
  have B2 : Below w.heap.size w w2 := Below.next B1 b2
  have oa1_2 := oa1.below b2
  clear oa1
  go_wp2_with fail
  refine (HAA.out _ _ _ _ _ oa1_2.cells oa2.cells).mono ?_
  rintro e w3 ⟨rfl, b3⟩
  have B3 : Below w.heap.size w w3 := Below.next B2 b3
  have oa1_3 := oa1_2.below b3
  clear oa1_2
  have oa2_3 := oa2.below b3
  clear oa2
  go_upto_if 77 with fail
  go_cut [] from 78 to 96 (fun wx => Below w3.heap.size w3 wx)
  case first =>
    cases rb
    · go_wp2_with fail
      go_meet
      case rel => exact Below.refl _ _
    · skip
      have hrb : reflB xs i = true := Hrb.out.symm
      obtain ⟨f1, f2, f3, f4, f5⟩ := refl_told hrb
      have HB1 := hid fun A c W (h : Rd W A c (reflF xs i)) => impl_ReflectLevelsR A c (reflF xs i) i W (by omega) h hi64
      rw [f2, f1] at HB1
      have HB2 := hid fun A c W (h : Cells W A (reflF xs i)) => impl_IsLevels A c (reflF xs i) W (by omega) h
      rw [f3] at HB2
      rw [← HRX.out] at HB1 HB2
      have HXE := hid (show xs.length ≤ 1048576 by omega)
      clear hrb f1 f2 f3 f4 f5
      go_wp2_with fail
      refine (HB1.out _ _ _ (own_rd oa1_3)).mono ?_
      rintro e w4 ⟨Ay1, cy1, rfl, oy1, b4⟩
      have B4 : Below w.heap.size w w4 := Below.next B3 b4
      have oa1_4 := oa1_3.below b4
      clear oa1_3
      go_wp2_with fail
      refine (HE.out _ _ _ _ _ _ HXE.out oy1.cells (h0.below B4).cells).mono ?_
      rintro e w5 ⟨rfl, b5⟩
      have B5 : Below w.heap.size w w5 := Below.next B4 b5
      have oa1_5 := oa1_4.below b5
      clear oa1_4
      have oy1_5 := oy1.below b5
      clear oy1
      go_wp2_with fail
      refine (HB2.out _ _ _ oa1_5.cells).mono ?_
      rintro e w6 ⟨rfl, b6⟩
      have B6 : Below w.heap.size w w6 := Below.next B5 b6
      have oa1_6 := oa1_5.below b6
      clear oa1_5
      go_wp2_with fail
      go_meet
      case rel => exact Below.next (Below.next (b4) b5) b6
  case rest =>
  obtain ⟨w4, hwc⟩ : ∃ x : World, x = wc := ⟨_, rfl⟩
  rw [← hwc] at hcut ⊢
  clear hwc
  have b4 := hcut
  clear hcut
  have B4 : Below w.heap.size w w4 := Below.next B3 b4
  have oa1_4 := oa1_3.below b4
  clear oa1_3
  go_wp2_with fail
  refine (HC1.out _ (h2.below B4)).mono ?_
  rintro e w5 ⟨Aq1, cq1, rfl, oq1, b5⟩
  have B5 : Below w.heap.size w w5 := Below.next B4 b5
  go_wp2_with fail
  refine (HC2.out _ (h2.below B5)).mono ?_
  rintro e w6 ⟨Aq2, cq2, rfl, oq2, b6⟩
  have B6 : Below w.heap.size w w6 := Below.next B5 b6
  have oq1_6 := oq1.below b6
  clear oq1
  go_wp2_with fail
  refine (HQQ.out _ _ _ _ _ oq1_6.cells oq2.cells).mono ?_
  rintro e w7 ⟨rfl, b7⟩
  have B7 : Below w.heap.size w w7 := Below.next B6 b7
  have oq1_7 := oq1_6.below b7
  clear oq1_6
  have oq2_7 := oq2.below b7
  clear oq2
  go_upto_if 120 with fail
  go_cut [] from 121 to 177 (fun wx => Below w7.heap.size w7 wx)
  case first =>
    cases tb
    · go_wp2_with fail
      go_meet
      case rel => exact Below.refl _ _
    · skip
      have htb : rfOk p t k = true := Htb.out.symm
      obtain ⟨G, Gq, _, _, g1, g2, g3, g4, g5, g6, g7, g8, g9⟩ := rfl_told htb
      have hpl := G.len
      have hql := Gq.len
      have HV1 := hid fun W (h : Cells W A2 p) => impl_LevelsOf A2 c2 p t W (by omega) h ht64
      rw [g1] at HV1
      have HV2 := hid fun A c W (h : Cells W A (rfF p t k)) => impl_LevelsOf A c (rfF p t k) t W (by omega) h ht64
      rw [g2] at HV2
      have HV3 := hid fun A c W (h : Rd W A c (lvF p t)) => impl_ReflectLevelsR A c (lvF p t) k W (by omega) h hk64
      rw [g4, g3] at HV3
      have HV4 := hid fun A c W (h : Rd W A c (rfF p t k)) => impl_ReflectCore'R A c (rfF p t k) t k W (by omega) h ht64
      rw [g6, g5] at HV4
      have HV5 := hid fun A c W (h : Cells W A (rfF p t k)) => qCore_t A c (rfF p t k) t W (by omega) h ht64 g7
      have HPE := hid (show p.length ≤ 1048576 by omega)
      have HLE := hid (show (lvF (rfF p t k) t).length ≤ 1048576 by omega)
      rw [← HQ.out] at HV2 HV3 HV4 HV5 HLE
      obtain ⟨LP, hLP⟩ : ∃ b, b = lvF p t := ⟨_, rfl⟩
      rw [← hLP] at HV1 HV3
      obtain ⟨LQ, hLQ⟩ : ∃ b, b = lvF Q t := ⟨_, rfl⟩
      rw [← hLQ] at HV2 HV3 HLE
      clear htb G Gq g1 g2 g3 g4 g5 g6 g7 g8 g9 hpl hql hLP hLQ
      go_wp2_with fail
      refine (HV1.out _ (h2.below B7).cells).mono ?_
      rintro e w8 ⟨Al1, cl1, rfl, ol1, b8⟩
      have B8 : Below w.heap.size w w8 := Below.next B7 b8
      have oq1_8 := oq1_7.below b8
      clear oq1_7
      go_wp2_with fail
      refine (HV2.out _ _ _ oq1_8.cells).mono ?_
      rintro e w9 ⟨Al2, cl2, rfl, ol2, b9⟩
      have B9 : Below w.heap.size w w9 := Below.next B8 b9
      have oq1_9 := oq1_8.below b9
      clear oq1_8
      have ol1_9 := ol1.below b9
      clear ol1
      go_wp2_with fail
      refine (HV3.out _ _ _ (own_rd ol1_9)).mono ?_
      rintro e w10 ⟨Al3, cl3, rfl, ol3, b10⟩
      have B10 : Below w.heap.size w w10 := Below.next B9 b10
      have oq1_10 := oq1_9.below b10
      clear oq1_9
      have ol1_10 := ol1_9.below b10
      clear ol1_9
      have ol2_10 := ol2.below b10
      clear ol2
      go_wp2_with fail
      refine (HV4.out _ _ _ (own_rd oq1_10)).mono ?_
      rintro e w11 ⟨Ay1, cy1, rfl, oy1, b11⟩
      have B11 : Below w.heap.size w w11 := Below.next B10 b11
      have oq1_11 := oq1_10.below b11
      clear oq1_10
      have ol2_11 := ol2_10.below b11
      clear ol2_10
      have ol3_11 := ol3.below b11
      clear ol3
      go_wp2_with fail
      refine (HE.out _ _ _ _ _ _ HLE.out ol3_11.cells ol2_11.cells).mono ?_
      rintro e w12 ⟨rfl, b12⟩
      have B12 : Below w.heap.size w w12 := Below.next B11 b12
      have oq1_12 := oq1_11.below b12
      clear oq1_11
      have ol2_12 := ol2_11.below b12
      clear ol2_11
      have ol3_12 := ol3_11.below b12
      clear ol3_11
      have oy1_12 := oy1.below b12
      clear oy1
      go_wp2_with fail
      refine (HE.out _ _ _ _ _ _ HPE.out oy1_12.cells (h2.below B12).cells).mono ?_
      rintro e w13 ⟨rfl, b13⟩
      have B13 : Below w.heap.size w w13 := Below.next B12 b13
      have oq1_13 := oq1_12.below b13
      clear oq1_12
      have oy1_13 := oy1_12.below b13
      clear oy1_12
      go_wp2_with fail
      refine (HV5.out _ _ _ oq1_13.cells).mono ?_
      rintro e w14 ⟨rfl, b14⟩
      have B14 : Below w.heap.size w w14 := Below.next B13 b14
      have oq1_14 := oq1_13.below b14
      clear oq1_13
      go_wp2_with fail
      go_meet
      case rel => exact Below.next (Below.next (Below.next (Below.next (Below.next (Below.next (b8) b9) b10) b11) b12) b13) b14
  case rest =>
  obtain ⟨w8, hwc⟩ : ∃ x : World, x = wc := ⟨_, rfl⟩
  rw [← hwc] at hcut ⊢
  clear hwc
  have b8 := hcut
  clear hcut
  have B8 : Below w.heap.size w w8 := Below.next B7 b8
  have oq1_8 := oq1_7.below b8
  clear oq1_7
  go_wp2_with fail
  refine (HT1.out _ (h5.later B8)).mono ?_
  rintro e w9 ⟨At1, ct1, rfl, ot1, b9⟩
  have B9 : Below w.heap.size w w9 := Below.next B8 b9
  go_wp2_with fail
  refine (HT2.out _ (h5.later B9)).mono ?_
  rintro e w10 ⟨At2, ct2, rfl, ot2, b10⟩
  have B10 : Below w.heap.size w w10 := Below.next B9 b10
  have ot1_10 := ot1.below b10
  clear ot1
  go_wp2_with fail
  refine (HTT.out _ _ _ _ _ ot1_10.cells ot2.cells).mono ?_
  rintro e w11 ⟨rfl, b11⟩
  have B11 : Below w.heap.size w w11 := Below.next B10 b11
  have ot1_11 := ot1_10.below b11
  clear ot1_10
  have ot2_11 := ot2.below b11
  clear ot2
  cases lb
  · go_wp2_with fail
    go_ret
    exact ⟨rfl, B11⟩
  · skip
    have hlb : levB ys = true := Hlb.out.symm
    obtain ⟨f1, f2, f3, f4⟩ := trn_told hlb
    have HT3 := hid fun A c W (h : Cells W A (turnL ys)) => impl_TurnLevels A c (turnL ys) W (by rw [turnL_len]; omega) h
    rw [f3, f2, ← f1, ← HTY.out] at HT3
    have HYE := hid (show ys.length ≤ 1048576 by omega)
    have HTE := hid (show (turnL ys).length ≤ 1048576 by rw [turnL_len]; omega)
    rw [← f1, ← HTY.out] at HTE
    have HTL := hid (f1.symm)
    rw [← HTY.out] at HTL
    clear hlb f1 f2 f3 f4
    go_wp2_with fail
    refine (HT3.out _ _ _ ot1_11.cells).mono ?_
    rintro e w12 ⟨Au1, cu1, rfl, ou1, b12⟩
    have B12 : Below w.heap.size w w12 := Below.next B11 b12
    have ot1_12 := ot1_11.below b12
    clear ot1_11
    go_wp2_with fail
    refine (HL1.out _ (h5.later B12)).mono ?_
    rintro e w13 ⟨Ak1, ck1, rfl, ok1, b13⟩
    have B13 : Below w.heap.size w w13 := Below.next B12 b13
    have ot1_13 := ot1_12.below b13
    clear ot1_12
    have ou1_13 := ou1.below b13
    clear ou1
    go_wp2_with fail
    refine (HE.out _ _ _ _ _ _ HYE.out ou1_13.cells (h5.later B13)).mono ?_
    rintro e w14 ⟨rfl, b14⟩
    have B14 : Below w.heap.size w w14 := Below.next B13 b14
    have ot1_14 := ot1_13.below b14
    clear ot1_13
    have ou1_14 := ou1_13.below b14
    clear ou1_13
    have ok1_14 := ok1.below b14
    clear ok1
    cases cb
    · go_wp2_with fail
      go_ret
      exact ⟨rfl, B14⟩
    · skip
      have hcb : clOk ys = true := Hcb.out.symm
      obtain ⟨G, g1, g2, Gc, g3, g4⟩ := trn_core hcb
      have hkl := G.len
      have hcl := Gc.len
      have HV1 := hid fun A c W (h : Cells W A (clF ys)) => impl_ConjugateOf A c (clF ys) W (by omega) h
      rw [g2, g1] at HV1
      have HV2 := hid fun A c W (h : Cells W A (cols (clF ys))) => impl_LevelsOf A c (cols (clF ys)) (ys.length : Int) W (by omega) h (by unfold I64; omega)
      rw [g4, g3, HTL.out] at HV2
      obtain ⟨CC, hCC⟩ : ∃ b, b = cols (clF ys) := ⟨_, rfl⟩
      rw [← hCC] at HV1 HV2
      rw [← HK.out] at HV1
      clear hcb G g1 g2 Gc g3 g4 hkl hcl hCC
      go_wp2_with fail
      refine (HV1.out _ _ _ ok1_14.cells).mono ?_
      rintro e w15 ⟨Ag1, cg1, rfl, og1, b15⟩
      have B15 : Below w.heap.size w w15 := Below.next B14 b15
      have ot1_15 := ot1_14.below b15
      clear ot1_14
      have ok1_15 := ok1_14.below b15
      clear ok1_14
      go_wp2_with fail
      refine (HV2.out _ _ _ og1.cells).mono ?_
      rintro e w16 ⟨Am1, cm1, rfl, om1, b16⟩
      have B16 : Below w.heap.size w w16 := Below.next B15 b16
      have ot1_16 := ot1_15.below b16
      clear ot1_15
      have og1_16 := og1.below b16
      clear og1
      go_wp2_with fail
      refine (HE.out _ _ _ _ _ _ HTE.out om1.cells ot1_16.cells).mono ?_
      rintro e w17 ⟨rfl, b17⟩
      have B17 : Below w.heap.size w w17 := Below.next B16 b17
      have ot1_17 := ot1_16.below b17
      clear ot1_16
      have om1_17 := om1.below b17
      clear om1
      go_wp2_with fail
      go_ret
      exact ⟨by first | rfl | exact ret_bool (by simp), B17⟩
end Go.Proofs.Ythkkiakfmbnfeaa
