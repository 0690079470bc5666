/-
  Contracts: RunOf, SignOfRun and SignOf of the model.
-/
import Derived.Test.YtblkmomcdchdoaaRunS
namespace Go.Proofs.Ytblkmomcdchdoaa
open Go.RowKit

theorem spec_RunOf {B : Nat} (A : Option Addr) (c : Nat) (xs : List Int) (t : Int) (Ac : Option Addr) (cc : Nat) (cs : List Int) (w : World) (hl : xs.length ≤ 1048576) (ho : Own w B A c xs) (_ : I64 t) (hcl : cs.length ≤ 1048576) (hc : Cells w Ac cs) :
    Calls Try.prog 46 #[.slice A xs.length c, .int .i64 t, .slice Ac cs.length cc] w fun e w' => ∃ A' c', e = .returned (.tuple #[.slice A' (runF xs t cs).length c', .bool (runB xs t cs)]) ∧ Own2 w' w.heap.size w'.heap.size A' c' (runF xs t cs) ∧ Below w.heap.size w w' := by
  have HF := hid (crRun_any A Ac c cc xs t cs w hl hcl ho hc)
  obtain ⟨R, hR⟩ : ∃ R, R = runF xs t cs := ⟨_, rfl⟩
  obtain ⟨b, hb⟩ : ∃ b, b = runB xs t cs := ⟨_, rfl⟩
  rw [← hR, ← hb] at HF
  rw [← hR, ← hb]
  clear hR hb
  go_enter Try.func46, Try.ntmps46
  go_wp2_with (go_at_call 88; refine (HF.out).mono ?_; rintro e w2 ⟨A2, c2, rfl, o2, b2⟩)
  go_ret2
  exact ⟨A2, c2, rfl, o2, b2⟩
theorem spec_SignOfRun {B : Nat} (A : Option Addr) (c : Nat) (xs : List Int) (t : Int) (Ac : Option Addr) (cc : Nat) (cs : List Int) (w : World) (hl : xs.length ≤ 1048576) (ho : Own w B A c xs) (_ : I64 t) (hcl : cs.length ≤ 1048576) (hc : Cells w Ac cs) :
    Calls Try.prog 48 #[.slice A xs.length c, .int .i64 t, .slice Ac cs.length cc] w fun e w' => e = .returned (.tuple #[.int .i64 (runS xs t cs), .bool (runB xs t cs)]) ∧ Below w.heap.size w w' := by
  have HF := hid (crRun_any A Ac c cc xs t cs w hl hcl ho hc)
  obtain ⟨s, hs⟩ : ∃ s, s = runS xs t cs := ⟨_, rfl⟩
  obtain ⟨b, hb⟩ : ∃ b, b = runB xs t cs := ⟨_, rfl⟩
  rw [← hs, ← hb] at HF
  rw [← hs, ← hb]
  clear hs hb
  go_enter Try.func48, Try.ntmps48
  go_wp2_with (go_at_call 88; refine (HF.out).mono ?_; rintro e w2 ⟨A2, c2, rfl, o2, b2⟩)
  go_ret2
  exact ⟨rfl, b2⟩

set_option maxRecDepth 100000 in
set_option maxHeartbeats 4000000 in
theorem spec_SignOf {B : Nat} (A : Option Addr) (c : Nat) (xs : List Int) (t : Int) (w : World) (hl : xs.length ≤ 1048576) (ho : Own w B A c xs) (_ : I64 t) :
    Calls Try.prog 44 #[.slice A xs.length c, .int .i64 t] w fun e w' => e = .returned (.tuple #[.int .i64 (signF xs t), .bool (crB xs t)]) ∧ Below w.heap.size w w' := by
  have hca := ho.cells
  cases hcr : crB xs t
  · rw [signF_f hcr]
    have HG := hid hcr
    clear hcr
    go_enter Try.func44, Try.ntmps44
    go_wp2_with (go_at_call 80; refine (crT_any _ _ _ _ _ hl hca _ HG.out).mono ?_; rintro e w' ⟨rfl, n, rfl⟩)
    go_ret2
    exact ⟨rfl, below_drew' _ _⟩
  have HCR := hid hcr
  have G0 := hid ((good_iff xs).1 (crB_good hcr).1)
  have HCA := hid hca
  clear hcr hca ho
  go_enter Try.func44, Try.ntmps44
  go_wp2_with (first | (go_at_call 80; refine (crT_any _ _ _ _ _ hl HCA.out _ HCR.out).mono ?_; rintro e w' ⟨rfl, nd, rfl⟩) | (go_at_call 81; refine (crCells_any _ _ _ _ _ G0.out (by exact HCA.out)).mono ?_; rintro e w1 ⟨A1, c1, rfl, o1, b1⟩))
  have B1 : Below w.heap.size w w1 := Below.next (below_drew' w nd) b1
  go_loopg [0, 6, 7] 31 (fun g l s v wr => ∃ n : Nat, n + g = 31 ∧ s = .int .i64 (sgnAt xs t [] n) ∧ Hid (okTo xs t [] n = true) ∧ Below w.heap.size w wr ∧ (∃ AL cL, l = .slice AL (leftAt xs t [] n).length cL ∧ Cells wr AL (leftAt xs t [] n)) ∧ (∃ A3 c3, v = .slice A3 (pairs (rimCs (leftAt xs t [] n) t)).length c3 ∧ Cells2 wr A3 (pairs (rimCs (leftAt xs t [] n) t))))
  case atStart => exact ⟨0, by omega, rfl, hid rfl, B1, ⟨A, c, rfl, HCA.out.later B1⟩, ⟨A1, c1, rfl, o1.cells⟩⟩
  case round =>
    obtain ⟨n, hng, rfl, HOK, hbw, ⟨AL, cL, rfl, hcL⟩, ⟨A3, c3, rfl, hc3⟩⟩ := hrel
    have hlg := left_good HCR.out n HOK.out
    have hll := left_len HCR.out n HOK.out
    have hn30 := left_n HCR.out n HOK.out
    obtain ⟨L, hL⟩ : ∃ L, L = leftAt xs t [] n := ⟨_, rfl⟩
    obtain ⟨s, hs⟩ : ∃ s, s = sgnAt xs t [] n := ⟨_, rfl⟩
    have hsg := hlg.2.2
    have hcrL := hlg.1
    rw [← hs] at hsg ⊢
    rw [← hL] at hcrL hll hcL hc3 ⊢
    have HL := hid hL; have HS := hid hs; have HCRL := hid hcrL; have HSG := hid hsg
    have GL := hid ((good_iff _).1 (crB_good hcrL).1)
    have hpp := pairs_len (rimCs L t)
    have hrl := rimCs_len GL.out t
    clear hlg hL hs hcrL hsg
    by_cases hend : (rimCs L t).length = 0
    · have hS : signF xs t = s := by rw [signF_eq HCR.out ⟨HOK.out, by rw [← HL.out]; exact hend⟩, HS.out]
      have HSS := hid hS
      have hz : (pairs (rimCs L t)).length = 0 := by omega
      rw [hz]
      clear hS hend hpp hz
      go_wp2_with fail
      go_ret2
      exact ⟨by rw [HSS.out]; rfl, hbw⟩
    · have htb : takeB L t 0 = true := take0 HCRL.out hend
      have htg := take_good htb
      have hkl : 0 < (rimCs L t).length := by omega
      have hmem := getD_mem (rimCs L t) 0 (0, 0) hkl
      have hm2 := rimCs_mem hmem
      have R := rim_ok GL.out hm2.1 hm2.2
      obtain ⟨b5, o5, b6, o6, c6, rfl, h1, h2, h3⟩ := pair_at hc3 0 hkl
      have hq : takeAt L t 0 = (rimCs L t).getD 0 (0, 0) := rfl
      have hTF : takeF L t 0 = takeL L (takeAt L t 0) := by simp [takeF, htb]
      have hTS : takeS L t 0 = takeSg L (takeAt L t 0) := by simp [takeS, htb]
      rw [← hq] at hm2 R h2 h3
      obtain ⟨q, hqe⟩ : ∃ q, q = takeAt L t 0 := ⟨_, rfl⟩
      rw [← hqe] at hm2 R h2 h3 hTF hTS
      obtain ⟨r', c'⟩ := q
      have HT := hid (crTake_any AL cL b6 o6 c6 L r' c' _ wr R rfl hcL h2 h3)
      rw [← hTF, ← hTS] at HT
      obtain ⟨L2, hL2⟩ : ∃ L2, L2 = takeF L t 0 := ⟨_, rfl⟩
      obtain ⟨s2, hs2⟩ : ∃ s2, s2 = takeS L t 0 := ⟨_, rfl⟩
      rw [← hL2, ← hs2] at HT
      have hsb := sg_bound HSG.out htg.2.2.1
      rw [← hs2] at hsb
      have hG2 : Good L2 := by rw [hL2]; exact htg.1
      have HG2 := hid hG2
      have hok : okTo xs t [] (n + 1) = true := by simp only [okTo, HOK.out, ← HL.out, List.getD_nil, htb, Bool.and_true]
      have e1 : leftAt xs t [] (n + 1) = L2 := by simp only [leftAt, ← HL.out, List.getD_nil]; exact hL2.symm
      have e2 : sgnAt xs t [] (n + 1) = s * s2 := by simp only [sgnAt, ← HL.out, List.getD_nil, ← HS.out]; rw [← hs2]
      have HOK2 := hid hok; have HE1 := hid e1; have HE2 := hid e2
      obtain ⟨m, hm⟩ : ∃ m, m = (pairs (rimCs L t)).length := ⟨_, rfl⟩
      rw [← hpp, ← hm] at hkl hrl
      rw [← hm]
      rw [Nat.add_zero] at h1
      clear htg hmem hm2 R hq hTF hTS hqe hL2 hs2 hok e1 e2 hm htb hpp hend hG2
      go_wp2_with (first | (go_at_call 84; refine (HT.out).mono ?_; rintro e w4 ⟨A4, c4, rfl, o4, b4⟩; have B4 := Below.next hbw b4) | (go_at_call 81; refine (crCells_any _ _ _ _ _ HG2.out o4.cells).mono ?_; rintro e w6 ⟨A6, c6', rfl, o6', b6'⟩))
      go_roundg (gk - 1)
      case measure => have := left_n HCR.out (n + 1) HOK2.out; omega
      case rel =>
        have := left_n HCR.out (n + 1) HOK2.out
        exact ⟨n + 1, by omega, by rw [HE2.out], HOK2, Below.next B4 b6', ⟨A4, c4, by rw [HE1.out], by rw [HE1.out]; exact o4.cells.below b6'⟩, ⟨A6, c6', by rw [HE1.out], by rw [HE1.out]; exact o6'.cells⟩⟩
end Go.Proofs.Ytblkmomcdchdoaa
