/-
  The walk of FnWordsOfCoresOfAll (made by genwrd.py).
-/
import Derived.Test.YthkkiakfmbnfeaaRX1
import Derived.Test.YthkkiakfmbnfeaaR35
import Derived.Test.YthkkiakfmbnfeaaQcr
import Derived.Deep.CutRange
import Derived.Deep.QuietTactic
import Derived.BigQuiet
namespace Go.Proofs.Ythkkiakfmbnfeaa
open Go.RowKit

set_option maxRecDepth 100000 in
theorem qCore_any (A : Option Addr) (c : Nat) (xs : List Int) (t : Int) (w : World) (hl : xs.length ≤ 1048576) (hc : Cells w A xs) (h64 : I64 t) :
    Calls Try.prog 12 #[.slice A xs.length c, .int .i64 t] w fun e w' => e = .returned (.bool (isCoreF xs t)) ∧ Below w.heap.size w w' := by
  have HH := hid (impl_IsCore A c xs t w hl hc h64)
  have hcr : isCoreF xs t = true → crB xs t = true := fun h => by unfold isCoreF at h; rw [Bool.and_eq_true] at h; exact h.1
  have HCR := hid hcr
  obtain ⟨b, hb⟩ : ∃ b, b = isCoreF xs t := ⟨_, rfl⟩
  obtain ⟨d, hd⟩ : ∃ d, d = crB xs t := ⟨_, rfl⟩
  rw [← hb, ← hd] at HH HCR
  rw [← hb]
  clear hcr hb hd
  cases b <;> cases d
  · go_enter Try.func12, Try.ntmps12
    go_wp2_with fail
    refine (HH.out).mono ?_
    rintro e w1 ⟨rfl, b1⟩
    go_wp2_with fail
    go_ret
    exact ⟨rfl, b1⟩
  · go_enter Try.func12, Try.ntmps12
    go_wp2_with fail
    refine (HH.out).mono ?_
    rintro e w1 ⟨rfl, b1⟩
    go_wp2_with fail
    go_ret
    exact ⟨rfl, b1⟩
  · exact absurd (HCR.out rfl) (by decide)
  · go_enter Try.func12, Try.ntmps12
    go_wp2_with fail
    refine (HH.out).mono ?_
    rintro e w1 ⟨rfl, b1⟩
    go_wp2_with fail
    go_ret
    exact ⟨rfl, b1⟩
set_option maxRecDepth 100000 in
set_option maxHeartbeats 16000000 in
theorem walkWordsOfCoresOfAll (A0 : Option Addr) (c0 : Nat) (p : List Int) (t mm0 : Int) (A3 : Option Addr) (c3 : Nat) (ls : List Int) (w : World)
    (h0c : Cells w A0 p) (_hu0 : p.length ≤ c0) (hn0 : A0 = none → c0 = 0) (ht64 : I64 t) (hm64 : I64 mm0) (h3 : Cells w A3 ls) :
    Calls Try.prog 4 #[.slice A0 p.length c0, .int .i64 t, .int .i64 mm0, .slice A3 ls.length c3] w fun e w' => e = .returned (.bool true) ∧ Below w.heap.size w w' := by
  have h0 := cells_rd h0c hn0
  clear h0c _hu0 hn0
  by_cases hbig0 : 10000 < p.length
  · have hb : (10000 : Int) < (p.length : Int) := by omega
    go_enter Try.func4, Try.ntmps4
    go_wp2_with fail
    go_ret
    exact ⟨rfl, Below.refl _ _⟩
  have hz09 : (p.length : Int) ≤ 10000 := by omega
  by_cases hbig1 : 10000 < ls.length
  · have hb : (10000 : Int) < (ls.length : Int) := by omega
    go_enter Try.func4, Try.ntmps4
    go_wp2_with fail
    go_ret
    exact ⟨rfl, Below.refl _ _⟩
  have hz19 : (ls.length : Int) ≤ 10000 := by omega
  clear hbig0 hbig1
  have HE := hid fun A B c d (xs : List Int) W (hl : xs.length ≤ 1048576) (hA : Cells W A xs) (hB : Cells W B xs) => qSame_lac A B c d xs W hl hA hB
  have HPL1 := hid (show p.length ≤ 1048576 by omega)
  have HW1 := hid fun W (h : Rd W A0 c0 p) => impl_CoreWordR A0 c0 p t W (by omega) h ht64
  have HW2 := hid fun W (h : Rd W A0 c0 p) => spec_CoreWordR A0 c0 p t W (by omega) h ht64
  have HWW := hid fun A B c d W (hA : Cells W A (cwoF p t)) (hB : Cells W B (cwoF p t)) => qSame_lac A B c d (cwoF p t) W (bound_CoreWord p t) hA hB
  have HQ0 := hid fun W (h : Cells W A0 p) => qCore_any A0 c0 p t W (by omega) h ht64
  have HM1 := hid fun W (h : Cells W A3 ls) => impl_CoreByWord mm0 A3 c3 ls W hm64 (by omega) h
  have HM2 := hid fun W (h : Cells W A3 ls) => spec_CoreByWord mm0 A3 c3 ls W hm64 (by omega) h
  have HMM := hid fun A B c d W (hA : Cells W A (cbwL mm0 ls)) (hB : Cells W B (cbwL mm0 ls)) => qSame_lac A B c d (cbwL mm0 ls) W (bound_CoreByWord mm0 ls) hA hB
  have HMC := hid fun (hb : cbwB mm0 ls = true) => hid fun A c W (h : Cells W A (cbwL mm0 ls)) => qCore_t A c (cbwL mm0 ls) mm0 W (bound_CoreByWord mm0 ls) h hm64 (made_core hb)
  obtain ⟨ob, hob⟩ : ∃ b, b = isCoreF p t := ⟨_, rfl⟩
  rw [← hob] at HW1 HW2 HQ0
  obtain ⟨Wd, hWd⟩ : ∃ b, b = cwoF p t := ⟨_, rfl⟩
  rw [← hWd] at HW1 HW2 HWW
  obtain ⟨mb, hmb⟩ : ∃ b, b = cbwB mm0 ls := ⟨_, rfl⟩
  rw [← hmb] at HM1 HM2 HMC
  obtain ⟨MD, hMD⟩ : ∃ b, b = cbwL mm0 ls := ⟨_, rfl⟩
  rw [← hMD] at HM1 HM2 HMM HMC
  have Hob := hid hob
  have HWD := hid hWd
  have e1 : (ob != ob) = false := by simp
  have e2 : (mb != mb) = false := by simp
  clear hob hWd hmb hMD
  obtain ⟨i0, hi, hz0, hz1, hz2⟩ := info_parts Try.infoInt
  have B0 : Below w.heap.size w w := Below.refl _ _
  go_enter Try.func4, Try.ntmps4
  go_wp2_with fail
  refine (HW1.out _ (h0.below B0)).mono ?_
  rintro e w1 ⟨Ad1, cd1, rfl, od1, b1⟩
  have B1 : Below w.heap.size w w1 := Below.next B0 b1
  go_wp2_with fail
  refine (HW2.out _ (h0.below B1)).mono ?_
  rintro e w2 ⟨Ad2, cd2, rfl, od2, b2⟩
  have B2 : Below w.heap.size w w2 := Below.next B1 b2
  have od1_2 := od1.below b2
  clear od1
  go_wp2_with fail
  refine (HWW.out _ _ _ _ _ od1_2.cells od2.cells).mono ?_
  rintro e w3 ⟨rfl, b3⟩
  have B3 : Below w.heap.size w w3 := Below.next B2 b3
  have od1_3 := od1_2.below b3
  clear od1_2
  have od2_3 := od2.below b3
  clear od2
  go_wp2_with fail
  refine (HQ0.out _ (h0.below B3).cells).mono ?_
  rintro e w4 ⟨rfl, b4⟩
  have B4 : Below w.heap.size w w4 := Below.next B3 b4
  have od1_4 := od1_3.below b4
  clear od1_3
  go_wp2_with fail
  refine (HM1.out _ (h3.later B4)).mono ?_
  rintro e w5 ⟨Am1, cm1, rfl, om1, b5⟩
  have B5 : Below w.heap.size w w5 := Below.next B4 b5
  have od1_5 := od1_4.below b5
  clear od1_4
  go_wp2_with fail
  refine (HM2.out _ (h3.later B5)).mono ?_
  rintro e w6 ⟨Am2, cm2, rfl, om2, b6⟩
  have B6 : Below w.heap.size w w6 := Below.next B5 b6
  have od1_6 := od1_5.below b6
  clear od1_5
  have om1_6 := om1.below b6
  clear om1
  go_upto_region 9 with fail
  go_cut [96] from 79 to 96 (fun e wx => e = .bool false ∧ Below w6.heap.size w6 wx)
  case first =>
    cases mb
    · skip
      go_wp2_with fail
      refine (HMM.out _ _ _ _ _ om1_6.cells om2.cells).mono ?_
      rintro e w7 ⟨rfl, b7⟩
      have B7 : Below w.heap.size w w7 := Below.next B6 b7
      have od1_7 := od1_6.below b7
      clear od1_6
      have om1_7 := om1_6.below b7
      clear om1_6
      have om2_7 := om2.below b7
      clear om2
      go_wp2_with fail
      go_meet
      case rel => exact ⟨rfl, b7⟩
    · skip
      go_wp2_with fail
      refine (HMM.out _ _ _ _ _ om1_6.cells om2.cells).mono ?_
      rintro e w7 ⟨rfl, b7⟩
      have B7 : Below w.heap.size w w7 := Below.next B6 b7
      have od1_7 := od1_6.below b7
      clear od1_6
      have om1_7 := om1_6.below b7
      clear om1_6
      have om2_7 := om2.below b7
      clear om2
      go_wp2_with fail
      refine ((HMC.out (by first | rfl | trivial)).out _ _ _ om1_7.cells).mono ?_
      rintro e w8 ⟨rfl, b8⟩
      have B8 : Below w.heap.size w w8 := Below.next B7 b8
      have od1_8 := od1_7.below b8
      clear od1_7
      have om1_8 := om1_7.below b8
      clear om1_7
      have om2_8 := om2_7.below b8
      clear om2_7
      go_wp2_with fail
      go_meet
      case rel => exact ⟨rfl, Below.next (b7) b8⟩
  case rest =>
  obtain ⟨rfl, hcut⟩ := hcut
  obtain ⟨w7, hwc⟩ : ∃ x : World, x = wc := ⟨_, rfl⟩
  rw [← hwc] at hcut ⊢
  clear hwc
  have b7 := hcut
  clear hcut
  have B7 : Below w.heap.size w w7 := Below.next B6 b7
  have od1_7 := od1_6.below b7
  clear od1_6
  cases ob
  · go_wp2_with fail
    go_ret
    exact ⟨rfl, B7⟩
  have hob : isCoreF p t = true := Hob.out.symm
  obtain ⟨T, eT, hT2, eW, hK30, hKe, hup, hupB, hcT⟩ := wrd_all hob
  have eWd := HWD.out
  rw [eW] at eWd
  have HST := hid fun j (hj : j < cwoK T p) => wrd_step hcT hj
  have HPL := hid ((good_iff p).1 (crB_good (core_cr hob)).1).len
  have hWl : Wd.length = cwoK T p := by rw [eWd, cwo_len]
  have HWK := hid hWl
  have HGW := hid fun j (hj : j < Wd.length) => (by rw [eWd]; unfold cwo; rw [List.getD_eq_getElem?_getD, List.getElem?_map, List.getElem?_range (by omega)]; rfl : Wd.getD j 0 = ((firstC (dwc T p j) T : Nat) : Int))
  have HUP := hid fun A c W (h : Cells W A Wd.reverse) => impl_CoreByWord t A c Wd.reverse W ht64 (by rw [List.length_reverse]; omega) h
  rw [eWd, hup, hupB, ← eWd, List.length_reverse] at HUP
  have HKE := hid hKe
  have HT := hid eT
  have HT2 := hid hT2
  have hw30 : (Wd.length : Int) ≤ 30 := by omega
  have h40 : ¬ (40 : Int) < (Wd.length : Int) := by omega
  clear hob eT hT2 eW hK30 hKe hup hupB hcT eWd hWl
  have HDW := hid od1_7
  clear od1_7
  go_wp2_with fail
  go_loopw [17, 102] (fun nv iv wr => ∃ (j : Nat) (An : Option Addr) (cn : Nat), j ≤ Wd.length ∧ iv = .int .i64 j ∧ nv = .slice An (dwc T p j).length cn ∧ Hid (Rd wr An cn (dwc T p j)) ∧ Hid (Below w7.heap.size w7 wr)) (fun _ iv _ => Wd.length - (intOf iv).toNat)
  case atStart => exact ⟨0, A0, c0, Nat.zero_le _, rfl, rfl, hid (h0.below B7), hid (Below.refl _ _)⟩
  case round =>
    obtain ⟨j, An, cn, hj, rfl, rfl, HRD, HBL⟩ := hrel
    by_cases hlt : j < Wd.length
    · obtain ⟨G, Gq, hok, hrf, hsl, hft, hr1, hr2, hsame, _⟩ := HST.out j (by rw [← HWK.out]; exact hlt)
      obtain ⟨bw, ow, e, hcw⟩ := (HDW.out.below HBL.out).cells (by omega)
      cases e
      have hwj := hcw j hlt
      rw [HGW.out j hlt] at hwj
      have hl1 := G.len
      have hl2 := Gq.len
      obtain ⟨f, hf⟩ : ∃ f, f = firstC (dwc T p j) T := ⟨_, rfl⟩
      rw [← hf] at hok hrf hft hsame hwj
      have hR1 := hid (impl_ReflectCore'R An cn (dwc T p j) t (f : Int) wr (by omega) HRD.out ht64)
      rw [HT.out, hrf, hok, ← HT.out] at hR1
      have hR2 := hid fun W (h : Cells W An (dwc T p j)) => impl_ResidueCounts An cn (dwc T p j) t W (by omega) h ht64
      rw [HT.out, hr1, ← HT.out] at hR2
      have hR3 := hid fun A c W (h : Cells W A (dwc T p (j + 1))) => impl_ResidueCounts A c (dwc T p (j + 1)) t W (by omega) h ht64
      rw [HT.out, hr2, ← HT.out] at hR3
      have hS1 := hid fun A c W (h : Cells W A (dwc T p (j + 1))) => qSum_e A (dwc T p (j + 1)) c W hl2 (fun i hi => by have := Gq.pos i hi; have := Gq.le i hi; omega) h
      have hS2 := hid fun W (h : Cells W An (dwc T p j)) => qSum_e An (dwc T p j) cn W hl1 (fun i hi => by have := G.pos i hi; have := G.le i hi; omega) h
      have hbl : (resF (dwc T p j) t).length = T := by rw [HT.out, resF_t hr1, cntL_len]
      have hal : (resF (dwc T p (j + 1)) t).length = T := by rw [HT.out, resF_t hr2, cntL_len]
      have hsm : ∀ k, k < T → k ≠ f → (resF (dwc T p j) t).getD k 0 = (resF (dwc T p (j + 1)) t).getD k 0 := by rw [HT.out]; exact hsame
      obtain ⟨L, hL⟩ : ∃ L, L = dwc T p j := ⟨_, rfl⟩
      obtain ⟨R, hR⟩ : ∃ R, R = dwc T p (j + 1) := ⟨_, rfl⟩
      rw [← hL] at hR1 hR2 hS2 hbl hsm hsl HRD ⊢
      rw [← hR] at hR1 hR3 hS1 hal hsm hsl
      obtain ⟨BL, hBL⟩ : ∃ b, b = resF L t := ⟨_, rfl⟩
      obtain ⟨AL, hAL⟩ : ∃ b, b = resF R t := ⟨_, rfl⟩
      rw [← hBL] at hR2 hbl hsm
      rw [← hAL] at hR3 hal hsm
      obtain ⟨s1, hs1⟩ : ∃ s, s = L.sum := ⟨_, rfl⟩
      obtain ⟨s2, hs2⟩ : ∃ s, s = R.sum := ⟨_, rfl⟩
      rw [← hs1] at hS2 hsl
      rw [← hs2] at hS1 hsl
      have hss : ¬ s1 ≤ s2 := by omega
      have HRE := hid hR
      have HSM := hid hsm
      have HBLn := hid hbl
      have HALn := hid hal
      have HJL := hid hlt
      have hji : (j : Int) < (Wd.length : Int) := by omega
      clear G Gq hok hrf hft hr1 hr2 hsame hcw hl1 hl2 hf hbl hal hsm hL hR hBL hAL hs1 hs2 hlt hj hsl
      go_wp2_with fail
      refine hR1.out.mono ?_
      rintro e x1 ⟨A2, c2, rfl, o2, d1⟩
      have HO2 := hid o2
      clear o2
      go_wp2_with fail
      refine (hR2.out _ (HRD.out.below d1).cells).mono ?_
      rintro e x2 ⟨A3, c3, rfl, o3, d2⟩
      have HO3 := hid o3
      clear o3
      go_wp2_with fail
      refine (hR3.out _ _ _ (HO2.out.below d2).cells).mono ?_
      rintro e x3 ⟨A4, c4, rfl, o4, d3⟩
      have HO4 := hid o4
      clear o4
      go_wp2_with fail
      refine (hS1.out _ _ _ ((HO2.out.below d2).below d3).cells).mono ?_
      rintro e w' ⟨rfl, rfl⟩
      go_wp2_with fail
      refine (hS2.out _ (((HRD.out.below d1).below d2).below d3).cells).mono ?_
      rintro e w' ⟨rfl, rfl⟩
      have HC3 := hid (HO3.out.below d3).cells
      have HC4 := hid HO4.out.cells
      have HN2 := hid (own_rd ((HO2.out.below d2).below d3))
      have HBX := hid (Below.next (Below.next (Below.next HBL.out d1) d2) d3)
      clear d1 d2 d3
      go_wp2_with fail
      clear hss
      have hb6 : (BL.length : Int) ≤ 6 := by have := HBLn.out; have := HT2.out; omega
      go_loopw [144] (fun kv wr => ∃ k : Nat, k ≤ BL.length ∧ kv = .int .i64 k ∧ ∃ n, wr = x3.drewN n) (fun kv _ => BL.length - (intOf kv).toNat)
      case atStart => exact ⟨0, Nat.zero_le _, rfl, 0, rfl⟩
      case round =>
        obtain ⟨k, hk, rfl, mm, rfl⟩ := hrel
        by_cases hkl : k < BL.length
        · have HKL := hid hkl
          have hki : (k : Int) < (BL.length : Int) := by omega
          obtain ⟨b3, o3, e, hc3⟩ := HC3.out (by omega)
          cases e
          have q3 := hc3 k hkl
          have hkA : k < AL.length := by rw [HALn.out, ← HBLn.out]; exact hkl
          obtain ⟨b4, o4, e, hc4⟩ := HC4.out (by omega)
          cases e
          have q4 := hc4 k hkA
          have hka : (k : Int) < (AL.length : Int) := by omega
          by_cases hkf : k = f
          · subst hkf
            clear hc3 hc4 q3 q4 hkl hk hkA
            go_wp2_with fail
            refine wp_region_quiet_lit (by kernel_rfl) (by kernel_rfl) ?_
            iterate 14 (go_big_quiet_step (fail))
            refine wpQuiet_nil ?_
            intro _ hw'
            obtain ⟨nz, hw''⟩ := hw'
            subst hw''
            go_wp2_with fail
            go_roundw
            case rel => exact ⟨k + 1, HKL.out, congrArg (Value.int .i64) (Int.natCast_succ k).symm, mm + nz, rfl⟩
            case measure => have := HKL.out; simp [intOf]; omega
          · have hv := HSM.out k (by rw [← HBLn.out]; exact hkl) hkf
            rw [← hv] at q4
            obtain ⟨v, hvv⟩ : ∃ v, v = BL.getD k 0 := ⟨_, rfl⟩
            rw [← hvv] at q3 q4
            have hn1 : ¬ (k : Int) = (f : Int) := by omega
            have hn2 : ((k : Int) == (f : Int)) = false := by simpa using hn1
            have hn3 : ((k : Int) != (f : Int)) = true := by simpa using hn1
            clear hc3 hc4 hkl hk hkA hv hvv hkf
            go_wp2_with fail
            refine wp_region_quiet_lit (by kernel_rfl) (by kernel_rfl) ?_
            iterate 14 (go_big_quiet_step (fail))
            refine wpQuiet_nil ?_
            intro _ hw'
            obtain ⟨nz, hw''⟩ := hw'
            subst hw''
            go_wp2_with fail
            go_roundw
            case rel => exact ⟨k + 1, HKL.out, congrArg (Value.int .i64) (Int.natCast_succ k).symm, mm + nz, rfl⟩
            case measure => have := HKL.out; simp [intOf]; omega
        · have hki : ¬ (k : Int) < (BL.length : Int) := by omega
          clear hkl hk
          go_wp2_with fail
          go_roundw
          case rel =>
            have := HJL.out
            exact ⟨j + 1, A2, c2, by omega, congrArg (Value.int .i64) (Int.natCast_succ j).symm, by rw [HRE.out], by rw [← HRE.out]; exact hid (HN2.out.below (below_drew' _ _)), hid (Below.next HBX.out (below_drew' _ _))⟩
          case measure => have := HJL.out; simp [intOf]; omega
    · have hge : ¬ (j : Int) < (Wd.length : Int) := by omega
      obtain ⟨wo, rfl⟩ : ∃ wo : World, wo = wr := ⟨_, rfl⟩
      have hjW : j = Wd.length := by omega
      have hz : (dwc T p j).length = 0 := by rw [hjW, HWK.out]; exact HKE.out
      rw [hz]
      clear hlt hj hz hjW
      go_wp2_with fail
      go_loopw [27, 28] (fun bv kv wr => ∃ (m r : Nat) (Ab : Option Addr) (cb : Nat), m + r = Wd.length ∧ kv = .int .i64 ((r : Int) - 1) ∧ bv = .slice Ab m cb ∧ Hid (Own wr wo.heap.size Ab cb (Wd.reverse.take m)) ∧ Hid (Below wo.heap.size wo wr)) (fun _ kv _ => (intOf kv + 1).toNat)
      case atStart => exact ⟨0, Wd.length, none, 0, by omega, rfl, rfl, hid (own_nil _ _), hid (Below.refl _ _)⟩
      case round =>
        obtain ⟨m, r, Ab, cb, hmr, rfl, rfl, HOB, HBB⟩ := hrel
        have HBW := hid (Below.next HBL.out HBB.out)
        cases r with
        | zero =>
          have hmW : m = Wd.length := by omega
          subst m
          have hob := HOB.out
          rw [show Wd.length = Wd.reverse.length from List.length_reverse.symm, List.take_length] at hob
          have HOC := hid hob.cells
          clear hob hmr
          have hneg : ¬ (0 : Int) ≤ ((0 : Nat) : Int) - 1 := by omega
          go_wp2_with fail
          refine (HUP.out _ _ _ HOC.out).mono ?_
          rintro e y1 ⟨A5, c5, rfl, o5, d5⟩
          go_wp2_with fail
          refine (HE.out _ _ _ _ _ _ HPL1.out o5.cells ((h0.below B7).below (Below.next HBW.out d5)).cells).mono ?_
          rintro e y2 ⟨rfl, d6⟩
          go_wp2_with fail
          go_ret
          exact ⟨by first | rfl | exact ret_bool (by simp), Below.next (Below.next (Below.next B7 HBW.out) d5) d6⟩
        | succ r =>
          have er : ((r + 1 : Nat) : Int) - 1 = (r : Int) := by omega
          rw [er]
          have hrW : r < Wd.length := by omega
          obtain ⟨bw, ow, e, hcw⟩ := (HDW.out.below HBW.out).cells (by omega)
          cases e
          have hwr := hcw r hrW
          have hri : (r : Int) < (Wd.length : Int) := by omega
          have htk : Wd.reverse.take (m + 1) = Wd.reverse.take m ++ [Wd.getD r 0] := by
            rw [List.take_succ_eq_append_getElem (by rw [List.length_reverse]; omega)]
            congr 2
            rw [List.getElem_reverse, List.getD_eq_getElem?_getD, List.getElem?_eq_getElem hrW]
            show _ = Wd[r]
            congr 1; omega
          obtain ⟨v, hv⟩ : ∃ v, v = Wd.getD r 0 := ⟨_, rfl⟩
          rw [← hv] at hwr htk
          have HTK := hid htk
          have HLm := hid (show (Wd.reverse.take m).length = m by rw [List.length_take, List.length_reverse]; omega)
          have HLm1 := hid (show (Wd.reverse.take (m + 1)).length = m + 1 by rw [List.length_take, List.length_reverse]; omega)
          have hown0 := HOB.out
          unfold Own at hown0
          rw [HLm.out] at hown0
          have HOW := hid hown0
          have HMR := hid hmr
          have hm30 : m ≤ 30 := by omega
          have hsz2 := HBB.out.size
          clear hcw hrW htk hv hown0 hmr er
          go_wp2_with (at_builtin; refine wpList_append_own _ rfl _ _ 22 rfl wo.heap.size 3 i0 (.int .i64 0) 1 8 Try.underlying22 hi hz0 hz1 hz2 rfl (by decide) _ _ _ rfl (HOW.out.alloc _) ⟨wr.heap.size, 0, none⟩ 1 1 [.int .i64 v] rfl rfl one_at (one_cell _) (by unfold maxLen; omega) (by omega) (by simp; omega) ?_)
          intro v3 x5 hown3 hgrow3 _
          have hb3 : Below wo.heap.size wo x5 := (HBB.out.alloc HBB.out.size _).grown hgrow3 (by simp; omega) (fun q hq => (HOW.out.lt q hq).1)
          have hown4 : x5.ownsRow wo.heap.size 3 1 v3 (Wd.reverse.take (m + 1)).length (IL (Wd.reverse.take (m + 1))) := own_snoc HTK.out (by rw [HLm.out]; exact hown3)
          obtain ⟨A6, c6, e6, o6⟩ := own_form hown4 rfl
          rw [HLm1.out] at e6
          subst e6
          have HO6 := hid o6
          have HB6 := hid hb3
          clear hown3 hgrow3 hown4 o6 hb3
          go_wp2_with fail
          go_roundw
          case rel => exact ⟨m + 1, r, A6, c6, by have := HMR.out; omega, rfl, rfl, HO6, HB6⟩
          case measure => simp [intOf]
end Go.Proofs.Ythkkiakfmbnfeaa
