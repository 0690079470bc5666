/-
  The walk of FnLevelsAreCoresOfAll (made by genlac.py).
-/
import Derived.Test.YtndcegnlgdanmaaR32
import Derived.Test.YtndcegnlgdanmaaR33
import Derived.Test.YtndcegnlgdanmaaR31
import Derived.Test.YtndcegnlgdanmaaR03
import Derived.Test.YtndcegnlgdanmaaCC
import Derived.Test.YtndcegnlgdanmaaR34
import Derived.Deep.CutRange
namespace Go.Proofs.Ytndcegnlgdanmaa
open Go.RowKit

theorem qSame_lac (A B : Option Addr) (c d : Nat) (xs : List Int) (w : World) (hl : xs.length ≤ 1048576) (hA : Cells w A xs) (hB : Cells w B xs) :
    Calls Try.prog 8 #[.slice A xs.length c, .slice B xs.length d] w fun e w' => e = .returned (.bool true) ∧ Below w.heap.size w w' :=
  (qSame_d A B c d xs xs w hl hl hA hB).mono (by rintro e w' ⟨rfl, n, rfl⟩; exact ⟨by rw [decide_eq_true rfl], below_drew' _ _⟩)
set_option maxRecDepth 100000 in
theorem qCore_t (A : Option Addr) (c : Nat) (xs : List Int) (t : Int) (w : World) (hl : xs.length ≤ 1048576) (hc : Cells w A xs) (h64 : I64 t) (h : isCoreF xs t = true) :
    Calls Try.prog 12 #[.slice A xs.length c, .int .i64 t] w fun e w' => e = .returned (.bool true) ∧ Below w.heap.size w w' := by
  have HH := hid (impl_IsCore A c xs t w hl hc h64)
  have hcr : crB xs t = true := by unfold isCoreF at h; rw [Bool.and_eq_true] at h; exact h.1
  rw [h, hcr] at HH
  clear h hcr
  go_enter Try.func12, Try.ntmps12
  go_wp2_with fail
  refine (HH.out).mono ?_
  rintro e w1 ⟨rfl, b1⟩
  go_wp2_with fail
  go_ret
  exact ⟨rfl, b1⟩
set_option maxRecDepth 100000 in
set_option maxHeartbeats 16000000 in
theorem walkLevelsAreCoresOfAll (A0 : Option Addr) (c0 : Nat) (xs : List Int) (A1 : Option Addr) (c1 : Nat) (p : List Int) (t : Int) (A3 : Option Addr) (c3 : Nat) (ys : List Int) (w : World)
    (h0 : Cells w A0 xs) (h1 : Cells w A1 p) (ht64 : I64 t) (h3 : Cells w A3 ys) :
    Calls Try.prog 3 #[.slice A0 xs.length c0, .slice A1 p.length c1, .int .i64 t, .slice A3 ys.length c3] w fun e w' => e = .returned (.bool true) ∧ Below w.heap.size w w' := by
  by_cases hbig0 : 10000 < xs.length
  · have hb : (10000 : Int) < (xs.length : Int) := by omega
    go_enter Try.func3, Try.ntmps3
    go_wp2_with fail
    go_ret
    exact ⟨rfl, Below.refl _ _⟩
  have hz0 : (xs.length : Int) ≤ 10000 := by omega
  by_cases hbig1 : 10000 < p.length
  · have hb : (10000 : Int) < (p.length : Int) := by omega
    go_enter Try.func3, Try.ntmps3
    go_wp2_with fail
    go_ret
    exact ⟨rfl, Below.refl _ _⟩
  have hz1 : (p.length : Int) ≤ 10000 := by omega
  by_cases hbig2 : 10000 < ys.length
  · have hb : (10000 : Int) < (ys.length : Int) := by omega
    go_enter Try.func3, Try.ntmps3
    go_wp2_with fail
    go_ret
    exact ⟨rfl, Below.refl _ _⟩
  have hz2 : (ys.length : Int) ≤ 10000 := by omega
  clear hbig0 hbig1 hbig2
  have HE := hid fun A B c d (xs : List Int) W (hl : xs.length ≤ 1048576) (hA : Cells W A xs) (hB : Cells W B xs) => qSame_lac A B c d xs W hl hA hB
  have HL1 := hid fun W (h : Cells W A0 xs) => impl_CoreOfLevels A0 c0 xs W (by omega) h
  have HL2 := hid fun W (h : Cells W A0 xs) => spec_CoreOfLevels A0 c0 xs W (by omega) h
  have HZ1 := hid fun W (h : Cells W A0 xs) => impl_SizeOfLevels A0 c0 xs W (by omega) h
  have HZ2 := hid fun W (h : Cells W A0 xs) => spec_SizeOfLevels A0 c0 xs W (by omega) h
  have HI1 := hid fun W (h : Cells W A0 xs) => impl_IsLevels A0 c0 xs W (by omega) h
  have HPE := hid fun A B c d W (hA : Cells W A (clF xs)) (hB : Cells W B (clF xs)) => qSame_lac A B c d (clF xs) W (bound_CoreOfLevels xs) hA hB
  have HV1 := hid fun W (h : Cells W A1 p) => impl_LevelsOf A1 c1 p t W (by omega) h ht64
  have HV2 := hid fun W (h : Cells W A1 p) => spec_LevelsOf A1 c1 p t W (by omega) h ht64
  have HR1 := hid fun W (h : Cells W A1 p) => impl_ResidueCounts A1 c1 p t W (by omega) h ht64
  have HR2 := hid fun W (h : Cells W A1 p) => spec_ResidueCounts A1 c1 p t W (by omega) h ht64
  have HOO := hid fun A B c d W (hA : Cells W A (lvF p t)) (hB : Cells W B (lvF p t)) => qSame_lac A B c d (lvF p t) W (bound_LevelsOf p t) hA hB
  have HRR := hid fun A B c d W (hA : Cells W A (resF p t)) (hB : Cells W B (resF p t)) => qSame_lac A B c d (resF p t) W (bound_ResidueCounts p t) hA hB
  have HF1 := hid fun W (h : Cells W A3 ys) => impl_LevelsFromCounts A3 c3 ys W (by omega) h
  have HF2 := hid fun W (h : Cells W A3 ys) => spec_LevelsFromCounts A3 c3 ys W (by omega) h
  have HFF := hid fun A B c d W (hA : Cells W A (fromCF ys)) (hB : Cells W B (fromCF ys)) => qSame_lac A B c d (fromCF ys) W (bound_LevelsFromCounts ys) hA hB
  have HCASE := hid (show (levB xs = false ∧ clOk xs = false) ∨ (levB xs = true ∧ clOk xs = true ∧ sizeF xs ≤ 30) ∨ (levB xs = true ∧ clOk xs = false ∧ 30 < sizeF xs) by
    cases hl : levB xs
    · exact .inl ⟨rfl, by unfold clOk; rw [hl]; rfl⟩
    · rw [sizeF_t hl]
      unfold clOk
      rw [hl, Bool.true_and]
      by_cases h30 : sizeL xs ≤ 30
      · exact .inr (.inl ⟨rfl, decide_eq_true h30, h30⟩)
      · exact .inr (.inr ⟨rfl, decide_eq_false h30, by omega⟩))
  obtain ⟨lb, hlb⟩ : ∃ b, b = levB xs := ⟨_, rfl⟩
  rw [← hlb] at HZ1 HZ2 HI1 HCASE
  obtain ⟨ob, hob⟩ : ∃ b, b = clOk xs := ⟨_, rfl⟩
  rw [← hob] at HL1 HL2 HCASE
  obtain ⟨sz, hsz⟩ : ∃ b, b = sizeF xs := ⟨_, rfl⟩
  rw [← hsz] at HZ1 HZ2 HCASE
  obtain ⟨P, hP⟩ : ∃ b, b = clF xs := ⟨_, rfl⟩
  rw [← hP] at HL1 HL2 HPE
  obtain ⟨tb, htb⟩ : ∃ b, b = lvOk p t := ⟨_, rfl⟩
  rw [← htb] at HV1 HV2
  obtain ⟨rb, hrb⟩ : ∃ b, b = resB p t := ⟨_, rfl⟩
  rw [← hrb] at HR1 HR2
  obtain ⟨O, hO⟩ : ∃ b, b = lvF p t := ⟨_, rfl⟩
  rw [← hO] at HV1 HV2 HOO
  obtain ⟨R, hR⟩ : ∃ b, b = resF p t := ⟨_, rfl⟩
  rw [← hR] at HR1 HR2 HRR
  obtain ⟨fb, hfb⟩ : ∃ b, b = fromB ys := ⟨_, rfl⟩
  rw [← hfb] at HF1 HF2
  obtain ⟨FY, hFY⟩ : ∃ b, b = fromCF ys := ⟨_, rfl⟩
  rw [← hFY] at HF1 HF2 HFF
  have Hob := hid hob
  have Hsz := hid hsz
  have HP := hid hP
  have Htb := hid htb
  have Hrb := hid hrb
  have HO := hid hO
  have HR := hid hR
  have e1 : (fb != fb) = false := by simp
  have e2 : (lb != lb) = false := by simp
  have e3 : (ob != ob) = false := by simp
  have e4 : (rb != rb) = false := by simp
  have e5 : (tb != tb) = false := by simp
  clear hlb hob hsz hP htb hrb hO hR hfb hFY
  have B0 : Below w.heap.size w w := Below.refl _ _
  go_enter Try.func3, Try.ntmps3
  go_wp2_with fail
  refine (HL1.out _ (h0.later B0)).mono ?_
  rintro e w1 ⟨Ap1, cp1, rfl, op1, b1⟩
  have B1 : Below w.heap.size w w1 := Below.next B0 b1
  go_wp2_with fail
  refine (HL2.out _ (h0.later B1)).mono ?_
  rintro e w2 ⟨Ap2, cp2, rfl, op2, b2⟩
  have B2 : Below w.heap.size w w2 := Below.next B1 b2
  have op1_2 := op1.below b2
  clear op1
  go_wp2_with fail
  refine (HZ1.out _ (h0.later B2)).mono ?_
  rintro e w3 ⟨rfl, b3⟩
  have B3 : Below w.heap.size w w3 := Below.next B2 b3
  have op1_3 := op1_2.below b3
  clear op1_2
  have op2_3 := op2.below b3
  clear op2
  go_wp2_with fail
  refine (HZ2.out _ (h0.later B3)).mono ?_
  rintro e w4 ⟨rfl, b4⟩
  have B4 : Below w.heap.size w w4 := Below.next B3 b4
  have op1_4 := op1_3.below b4
  clear op1_3
  have op2_4 := op2_3.below b4
  clear op2_3
  go_upto_region 7 with fail
  go_cut [105] from 72 to 105 (fun e wx => e = .bool false ∧ Below w4.heap.size w4 wx)
  case first =>
    rcases HCASE.out with ⟨c1, c2⟩ | ⟨c1, c2, c3⟩ | ⟨c1, c2, c3⟩
    · skip
      subst c1
      subst c2
      go_wp2_with fail
      refine (HPE.out _ _ _ _ _ op1_4.cells op2_4.cells).mono ?_
      rintro e w5 ⟨rfl, b5⟩
      have B5 : Below w.heap.size w w5 := Below.next B4 b5
      have op1_5 := op1_4.below b5
      clear op1_4
      have op2_5 := op2_4.below b5
      clear op2_4
      go_wp2_with fail
      refine (HI1.out _ (h0.later B5)).mono ?_
      rintro e w6 ⟨rfl, b6⟩
      have B6 : Below w.heap.size w w6 := Below.next B5 b6
      have op1_6 := op1_5.below b6
      clear op1_5
      have op2_6 := op2_5.below b6
      clear op2_5
      go_wp2_with fail
      go_meet
      case rel => exact ⟨rfl, Below.next (b5) b6⟩
    · skip
      subst c1
      subst c2
      go_wp2_with fail
      refine (HPE.out _ _ _ _ _ op1_4.cells op2_4.cells).mono ?_
      rintro e w5 ⟨rfl, b5⟩
      have B5 : Below w.heap.size w w5 := Below.next B4 b5
      have op1_5 := op1_4.below b5
      clear op1_4
      have op2_5 := op2_4.below b5
      clear op2_4
      go_wp2_with fail
      refine (HI1.out _ (h0.later B5)).mono ?_
      rintro e w6 ⟨rfl, b6⟩
      have B6 : Below w.heap.size w w6 := Below.next B5 b6
      have op1_6 := op1_5.below b6
      clear op1_5
      have op2_6 := op2_5.below b6
      clear op2_5
      go_wp2_with fail
      go_meet
      case rel => exact ⟨rfl, Below.next (b5) b6⟩
    · skip
      subst c1
      subst c2
      have c4 : ¬ sz ≤ 30 := by omega
      go_wp2_with fail
      refine (HPE.out _ _ _ _ _ op1_4.cells op2_4.cells).mono ?_
      rintro e w5 ⟨rfl, b5⟩
      have B5 : Below w.heap.size w w5 := Below.next B4 b5
      have op1_5 := op1_4.below b5
      clear op1_4
      have op2_5 := op2_4.below b5
      clear op2_4
      go_wp2_with fail
      refine (HI1.out _ (h0.later B5)).mono ?_
      rintro e w6 ⟨rfl, b6⟩
      have B6 : Below w.heap.size w w6 := Below.next B5 b6
      have op1_6 := op1_5.below b6
      clear op1_5
      have op2_6 := op2_5.below b6
      clear op2_5
      go_wp2_with fail
      go_meet
      case rel => exact ⟨congrArg Value.bool (decide_eq_false (by omega)), Below.next (b5) b6⟩
  case rest =>
  obtain ⟨rfl, hcut⟩ := hcut
  obtain ⟨w5, hwc⟩ : ∃ x : World, x = wc := ⟨_, rfl⟩
  rw [← hwc] at hcut ⊢
  clear hwc
  have b5 := hcut
  clear hcut
  have B5 : Below w.heap.size w w5 := Below.next B4 b5
  have op1_5 := op1_4.below b5
  clear op1_4
  go_upto_if 106 with fail
  go_cut [] from 107 to 134 (fun wx => Below w5.heap.size w5 wx)
  case first =>
    cases ob
    · go_wp2_with fail
      go_meet
      case rel => exact Below.refl _ _
    · skip
      have hok : clOk xs = true := Hob.out.symm
      obtain ⟨G, f1, f2, f3, f4, f5, f6⟩ := lv_cl hok
      have hlb : levB xs = true := by unfold clOk at hok; rw [Bool.and_eq_true] at hok; exact hok.1
      have hLv := levB_iff.1 hlb
      have hxl : xs.length ≤ 6 := hLv.hi
      have hPl := G.len
      have hsz : sz = (clF xs).sum := by rw [Hsz.out, sizeF_t hlb, f2]
      have HV1 := hid fun A c W (h : Cells W A (clF xs)) => impl_LevelsOf A c (clF xs) (xs.length : Int) W (by omega) h (by unfold I64; omega)
      rw [lvF_t f5, f1, f5] at HV1
      have HS1 := hid fun A c W (h : Cells W A (clF xs)) => qSum_e A (clF xs) c W hPl (fun j hj => by have := G.pos j hj; have := G.le j hj; omega) h
      rw [← hsz] at HS1
      have HC1 := hid fun A c W (h : Cells W A (clF xs)) => qCore_t A c (clF xs) (xs.length : Int) W (by omega) h (by unfold I64; omega) f4
      rw [← HP.out] at HV1 HS1 HC1
      have HXE := hid (show xs.length ≤ 1048576 by omega)
      clear hok G f1 f2 f3 f4 f5 f6 hlb hLv hPl hsz hxl
      go_wp2_with fail
      refine (HV1.out _ _ _ op1_5.cells).mono ?_
      rintro e w6 ⟨Ay1, cy1, rfl, oy1, b6⟩
      have B6 : Below w.heap.size w w6 := Below.next B5 b6
      have op1_6 := op1_5.below b6
      clear op1_5
      go_wp2_with fail
      refine (HE.out _ _ _ _ _ _ HXE.out oy1.cells (h0.later B6)).mono ?_
      rintro e w7 ⟨rfl, b7⟩
      have B7 : Below w.heap.size w w7 := Below.next B6 b7
      have op1_7 := op1_6.below b7
      clear op1_6
      have oy1_7 := oy1.below b7
      clear oy1
      go_wp2_with fail
      refine (HS1.out _ _ _ op1_7.cells).mono ?_
      rintro e w' ⟨rfl, rfl⟩
      go_wp2_with fail
      refine (HC1.out _ _ _ op1_7.cells).mono ?_
      rintro e w8 ⟨rfl, b8⟩
      have B8 : Below w.heap.size w w8 := Below.next B7 b8
      have op1_8 := op1_7.below b8
      clear op1_7
      go_wp2_with fail
      go_meet
      case rel => exact Below.next (Below.next (b6) b7) b8
  case rest =>
  obtain ⟨w6, hwc⟩ : ∃ x : World, x = wc := ⟨_, rfl⟩
  rw [← hwc] at hcut ⊢
  clear hwc
  have b6 := hcut
  clear hcut
  have B6 : Below w.heap.size w w6 := Below.next B5 b6
  have op1_6 := op1_5.below b6
  clear op1_5
  go_wp2_with fail
  refine (HV1.out _ (h1.later B6)).mono ?_
  rintro e w7 ⟨Av1, cv1, rfl, ov1, b7⟩
  have B7 : Below w.heap.size w w7 := Below.next B6 b7
  go_wp2_with fail
  refine (HV2.out _ (h1.later B7)).mono ?_
  rintro e w8 ⟨Av2, cv2, rfl, ov2, b8⟩
  have B8 : Below w.heap.size w w8 := Below.next B7 b8
  have ov1_8 := ov1.below b8
  clear ov1
  go_wp2_with fail
  refine (HR1.out _ (h1.later B8)).mono ?_
  rintro e w9 ⟨Ar1, cr1, rfl, or1, b9⟩
  have B9 : Below w.heap.size w w9 := Below.next B8 b9
  have ov1_9 := ov1_8.below b9
  clear ov1_8
  have ov2_9 := ov2.below b9
  clear ov2
  go_wp2_with fail
  refine (HR2.out _ (h1.later B9)).mono ?_
  rintro e w10 ⟨Ar2, cr2, rfl, or2, b10⟩
  have B10 : Below w.heap.size w w10 := Below.next B9 b10
  have ov1_10 := ov1_9.below b10
  clear ov1_9
  have ov2_10 := ov2_9.below b10
  clear ov2_9
  have or1_10 := or1.below b10
  clear or1
  cases tb
  · skip
    have e8 : (rb == rb) = true := by simp
    go_wp2_with fail
    refine (HOO.out _ _ _ _ _ ov1_10.cells ov2_10.cells).mono ?_
    rintro e w11 ⟨rfl, b11⟩
    have B11 : Below w.heap.size w w11 := Below.next B10 b11
    have ov1_11 := ov1_10.below b11
    clear ov1_10
    have ov2_11 := ov2_10.below b11
    clear ov2_10
    have or1_11 := or1_10.below b11
    clear or1_10
    have or2_11 := or2.below b11
    clear or2
    go_wp2_with fail
    refine (HRR.out _ _ _ _ _ or1_11.cells or2_11.cells).mono ?_
    rintro e w12 ⟨rfl, b12⟩
    have B12 : Below w.heap.size w w12 := Below.next B11 b12
    have ov1_12 := ov1_11.below b12
    clear ov1_11
    have or1_12 := or1_11.below b12
    clear or1_11
    have or2_12 := or2_11.below b12
    clear or2_11
    go_wp2_with fail
    refine (HF1.out _ (h3.later B12)).mono ?_
    rintro e w13 ⟨Af1, cf1, rfl, of1, b13⟩
    have B13 : Below w.heap.size w w13 := Below.next B12 b13
    have ov1_13 := ov1_12.below b13
    clear ov1_12
    have or1_13 := or1_12.below b13
    clear or1_12
    go_wp2_with fail
    refine (HF2.out _ (h3.later B13)).mono ?_
    rintro e w14 ⟨Af2, cf2, rfl, of2, b14⟩
    have B14 : Below w.heap.size w w14 := Below.next B13 b14
    have ov1_14 := ov1_13.below b14
    clear ov1_13
    have or1_14 := or1_13.below b14
    clear or1_13
    have of1_14 := of1.below b14
    clear of1
    go_wp2_with fail
    refine (HFF.out _ _ _ _ _ of1_14.cells of2.cells).mono ?_
    rintro e w15 ⟨rfl, b15⟩
    have B15 : Below w.heap.size w w15 := Below.next B14 b15
    have ov1_15 := ov1_14.below b15
    clear ov1_14
    have or1_15 := or1_14.below b15
    clear or1_14
    have of1_15 := of1_14.below b15
    clear of1_14
    have of2_15 := of2.below b15
    clear of2
    go_wp2_with fail
    go_ret
    exact ⟨rfl, B15⟩
  · skip
    have htb : lvOk p t = true := Htb.out.symm
    obtain ⟨T, hT, hT2, G, GK, g1, g2, g3, g4, g5⟩ := lac_told htb
    have hrf : resB p t = true ∧ fromB (resF p t) = true ∧ fromCF (resF p t) = lvF p t ∧ (resF p t).sum = p.sum ∧ (resF p t).length = T ∧ ∀ j, j < T → 0 ≤ (resF p t).getD j 0 ∧ (resF p t).getD j 0 ≤ 30 := by
      rw [hT] at htb ⊢; exact res_facts htb
    obtain ⟨k1, k2, k3, k4, k5, k6⟩ := hrf
    have erb : rb = true := by rw [Hrb.out]; exact k1
    subst rb
    have hpl := G.len
    have hKl := GK.len
    have hOl : (lvF p t).length ≤ 1048576 := bound_LevelsOf p t
    have HQ1 := hid fun A c W (h : Cells W A (resF p t)) => impl_LevelsFromCounts A c (resF p t) W (by omega) h
    rw [k3, k2] at HQ1
    have HQ2 := hid fun W (h : Cells W A1 p) => impl_CoreOf A1 c1 p t W (by omega) h ht64
    rw [g5] at HQ2
    have HQ3 := hid fun A c W (h : Cells W A (coF p t)) => impl_LevelsOf A c (coF p t) t W (by omega) h ht64
    rw [g2, g1] at HQ3
    have HQ4 := hid fun A c W (h : Cells W A (lvF p t)) => impl_CoreOfLevels A c (lvF p t) W hOl h
    rw [g4, g3] at HQ4
    have HQ5 := hid fun A c W (h : Cells W A (resF p t)) => qSum_e A (resF p t) c W (by omega) (fun j hj => by have := k6 j (by omega); omega) h
    rw [k4] at HQ5
    have HQ6 := hid fun W (h : Cells W A1 p) => qSum_e A1 p c1 W hpl (fun j hj => by have := G.pos j hj; have := G.le j hj; omega) h
    rw [← HR.out] at HQ1 HQ5
    rw [← HO.out] at HQ1 HQ3 HQ4
    have HOE := hid hOl
    have HKE := hid (show (coF p t).length ≤ 1048576 by omega)
    rw [← HO.out] at HOE
    obtain ⟨K, hK⟩ : ∃ K, K = coF p t := ⟨_, rfl⟩
    rw [← hK] at HQ2 HQ3 HQ4 HKE
    obtain ⟨S, hS⟩ : ∃ S, S = p.sum := ⟨_, rfl⟩
    rw [← hS] at HQ5 HQ6
    clear htb hT hT2 G GK g1 g2 g3 g4 g5 k1 k2 k3 k4 k5 k6 hpl hKl hOl hK hS
    go_wp2_with fail
    refine (HOO.out _ _ _ _ _ ov1_10.cells ov2_10.cells).mono ?_
    rintro e w11 ⟨rfl, b11⟩
    have B11 : Below w.heap.size w w11 := Below.next B10 b11
    have ov1_11 := ov1_10.below b11
    clear ov1_10
    have ov2_11 := ov2_10.below b11
    clear ov2_10
    have or1_11 := or1_10.below b11
    clear or1_10
    have or2_11 := or2.below b11
    clear or2
    go_wp2_with fail
    refine (HRR.out _ _ _ _ _ or1_11.cells or2_11.cells).mono ?_
    rintro e w12 ⟨rfl, b12⟩
    have B12 : Below w.heap.size w w12 := Below.next B11 b12
    have ov1_12 := ov1_11.below b12
    clear ov1_11
    have or1_12 := or1_11.below b12
    clear or1_11
    have or2_12 := or2_11.below b12
    clear or2_11
    go_wp2_with fail
    refine (HF1.out _ (h3.later B12)).mono ?_
    rintro e w13 ⟨Af1, cf1, rfl, of1, b13⟩
    have B13 : Below w.heap.size w w13 := Below.next B12 b13
    have ov1_13 := ov1_12.below b13
    clear ov1_12
    have or1_13 := or1_12.below b13
    clear or1_12
    go_wp2_with fail
    refine (HF2.out _ (h3.later B13)).mono ?_
    rintro e w14 ⟨Af2, cf2, rfl, of2, b14⟩
    have B14 : Below w.heap.size w w14 := Below.next B13 b14
    have ov1_14 := ov1_13.below b14
    clear ov1_13
    have or1_14 := or1_13.below b14
    clear or1_13
    have of1_14 := of1.below b14
    clear of1
    go_wp2_with fail
    refine (HFF.out _ _ _ _ _ of1_14.cells of2.cells).mono ?_
    rintro e w15 ⟨rfl, b15⟩
    have B15 : Below w.heap.size w w15 := Below.next B14 b15
    have ov1_15 := ov1_14.below b15
    clear ov1_14
    have or1_15 := or1_14.below b15
    clear or1_14
    have of1_15 := of1_14.below b15
    clear of1_14
    have of2_15 := of2.below b15
    clear of2
    go_wp2_with fail
    refine (HQ1.out _ _ _ or1_15.cells).mono ?_
    rintro e w16 ⟨Aq1, cq1, rfl, oq1, b16⟩
    have B16 : Below w.heap.size w w16 := Below.next B15 b16
    have ov1_16 := ov1_15.below b16
    clear ov1_15
    have or1_16 := or1_15.below b16
    clear or1_15
    go_wp2_with fail
    refine (HQ2.out _ (h1.later B16)).mono ?_
    rintro e w17 ⟨Aq2, cq2, rfl, oq2, b17⟩
    have B17 : Below w.heap.size w w17 := Below.next B16 b17
    have ov1_17 := ov1_16.below b17
    clear ov1_16
    have or1_17 := or1_16.below b17
    clear or1_16
    have oq1_17 := oq1.below b17
    clear oq1
    go_wp2_with fail
    refine (HQ3.out _ _ _ oq2.cells).mono ?_
    rintro e w18 ⟨Aq3, cq3, rfl, oq3, b18⟩
    have B18 : Below w.heap.size w w18 := Below.next B17 b18
    have ov1_18 := ov1_17.below b18
    clear ov1_17
    have or1_18 := or1_17.below b18
    clear or1_17
    have oq1_18 := oq1_17.below b18
    clear oq1_17
    have oq2_18 := oq2.below b18
    clear oq2
    go_wp2_with fail
    refine (HQ4.out _ _ _ ov1_18.cells).mono ?_
    rintro e w19 ⟨Aq4, cq4, rfl, oq4, b19⟩
    have B19 : Below w.heap.size w w19 := Below.next B18 b19
    have ov1_19 := ov1_18.below b19
    clear ov1_18
    have or1_19 := or1_18.below b19
    clear or1_18
    have oq1_19 := oq1_18.below b19
    clear oq1_18
    have oq2_19 := oq2_18.below b19
    clear oq2_18
    have oq3_19 := oq3.below b19
    clear oq3
    go_wp2_with fail
    refine (HE.out _ _ _ _ _ _ HOE.out oq1_19.cells ov1_19.cells).mono ?_
    rintro e w20 ⟨rfl, b20⟩
    have B20 : Below w.heap.size w w20 := Below.next B19 b20
    have ov1_20 := ov1_19.below b20
    clear ov1_19
    have or1_20 := or1_19.below b20
    clear or1_19
    have oq1_20 := oq1_19.below b20
    clear oq1_19
    have oq2_20 := oq2_19.below b20
    clear oq2_19
    have oq3_20 := oq3_19.below b20
    clear oq3_19
    have oq4_20 := oq4.below b20
    clear oq4
    go_wp2_with fail
    refine (HE.out _ _ _ _ _ _ HOE.out oq3_20.cells ov1_20.cells).mono ?_
    rintro e w21 ⟨rfl, b21⟩
    have B21 : Below w.heap.size w w21 := Below.next B20 b21
    have ov1_21 := ov1_20.below b21
    clear ov1_20
    have or1_21 := or1_20.below b21
    clear or1_20
    have oq2_21 := oq2_20.below b21
    clear oq2_20
    have oq3_21 := oq3_20.below b21
    clear oq3_20
    have oq4_21 := oq4_20.below b21
    clear oq4_20
    go_wp2_with fail
    refine (HE.out _ _ _ _ _ _ HKE.out oq4_21.cells oq2_21.cells).mono ?_
    rintro e w22 ⟨rfl, b22⟩
    have B22 : Below w.heap.size w w22 := Below.next B21 b22
    have or1_22 := or1_21.below b22
    clear or1_21
    have oq2_22 := oq2_21.below b22
    clear oq2_21
    have oq4_22 := oq4_21.below b22
    clear oq4_21
    go_wp2_with fail
    refine (HQ5.out _ _ _ or1_22.cells).mono ?_
    rintro e w' ⟨rfl, rfl⟩
    go_wp2_with fail
    refine (HQ6.out _ (h1.later B22)).mono ?_
    rintro e w' ⟨rfl, rfl⟩
    go_wp2_with fail
    go_ret
    exact ⟨by first | rfl | exact ret_bool (by simp), B22⟩
end Go.Proofs.Ytndcegnlgdanmaa
