/-
  Contracts: runs of the model, chosen and full.
-/
import Derived.Test.YtblkmomcdchdoaaRunF
namespace Go.Proofs.Ytblkmomcdchdoaa
open Go.RowKit

theorem push_lit {w : World} {B : Nat} {A : Option Addr} {c : Nat} {r : List Int} (h : Own w B A c r) (hB : B ≤ w.heap.size) :
    Push (w.alloc (.cells #[.slice A r.length c] 22)) B (.slice (some ⟨w.heap.size, 0, none⟩) 1 1) [r] (fun _ => A) (fun _ => c) := by
  refine ⟨?_, fun j hj => ?_, fun i j hij hj => by simp at hj; omega⟩
  · have h2 := World.ownsRow_lit (base := B) (e := 22) (size := 1) w #[.slice A r.length c] 1 hB (by unfold maxLen; omega) rfl
    exact h2
  · have hj0 : j = 0 := by simp at hj; omega
    subst hj0
    exact h.below ((Below.refl _ _).alloc (Nat.le_refl _) _)

set_option maxRecDepth 100000 in
set_option maxHeartbeats 4000000 in
theorem crRun_any {B : Nat} (A Ac : Option Addr) (c cc : Nat) (xs : List Int) (t : Int) (cs : List Int) (w : World) (hl : xs.length ≤ 1048576) (hcl : cs.length ≤ 1048576) (ho : Own w B A c xs) (hc : Cells w Ac cs) :
    Calls Try.prog 88 #[.slice A xs.length c, .int .i64 t, .slice Ac cs.length cc] w fun e w' => ∃ A' c', e = .returned (.tuple #[.slice A' (runF xs t cs).length c', .int .i64 (runS xs t cs), .bool (runB xs t cs)]) ∧ Own2 w' w.heap.size w'.heap.size A' c' (runF xs t cs) ∧ Below w.heap.size w w' := by
  obtain ⟨i1, hj, hy0, hy1, hy2⟩ := info_parts Try.infoInts
  have hca := ho.cells
  cases hcr : crB xs t
  · have hr : runB xs t cs = false := by simp [runB, hcr]
    rw [show runF xs t cs = [] by simp [runF, hr], show runS xs t cs = 0 by simp [runS, hr], hr]
    have HG := hid hcr
    clear hr hcr
    go_enter Try.func88, Try.ntmps88
    go_wp2_with (go_at_call 80; refine (crT_any _ _ _ _ _ hl hca _ HG.out).mono ?_; rintro e w' ⟨rfl, n, rfl⟩)
    go_ret3
    exact ⟨none, 0, rfl, own2_nil _ _ _, below_drew' _ _⟩
  by_cases hcs : 200 < cs.length
  · have hr : runB xs t cs = false := by simp only [runB, Bool.and_eq_false_iff, decide_eq_false_iff_not]; right; left; omega
    rw [show runF xs t cs = [] by simp [runF, hr], show runS xs t cs = 0 by simp [runS, hr], hr]
    have HG := hid hcr
    clear hr hcr
    go_enter Try.func88, Try.ntmps88
    go_wp2_with (go_at_call 80; refine (crT_any _ _ _ _ _ hl hca _ HG.out).mono ?_; rintro e w' ⟨rfl, n, rfl⟩)
    go_ret3
    exact ⟨none, 0, rfl, own2_nil _ _ _, below_drew' _ _⟩
  have HCR := hid hcr
  have hcs2 : cs.length ≤ 200 := by omega
  have HO := hid ho
  have HCA := hid hca
  clear hcr ho hca hcs
  go_enter Try.func88, Try.ntmps88
  go_wp2_with (first | (go_at_call 80; refine (crT_any _ _ _ _ _ hl HCA.out _ HCR.out).mono ?_; rintro e w' ⟨rfl, nd, rfl⟩) | (go_at_call 116; refine (l1Own_any _ _ _ _ hl (HO.out.drewN nd)).mono ?_; rintro e w1 ⟨A1, c1, rfl, o1, b1⟩))
  have B1 : Below w.heap.size w w1 := Below.next (below_drew' w nd) b1
  have hsz1 := B1.size
  have hpl := push_lit o1 hsz1
  have B1a : Below w.heap.size w (w1.alloc (.cells #[.slice A1 xs.length c1] 22)) := B1.alloc hsz1 _
  have hpl2 : Push (w1.alloc (.cells #[.slice A1 xs.length c1] 22)) w.heap.size (.slice (some ⟨w1.heap.size, 0, none⟩) 1 1) (trail xs t cs 1) (fun _ => A1) (fun _ => c1) := hpl
  have HPL := hid hpl2
  clear hpl hpl2
  go_loopg [0, 9, 10, 30] (cs.length) (fun g l v s i wr => ∃ n : Nat, n + g = cs.length ∧ i = .int .i64 n ∧ s = .int .i64 (sgnAt xs t cs n) ∧ Hid (okTo xs t cs n = true) ∧ Below w.heap.size w wr ∧ (∃ AL cL, l = .slice AL (leftAt xs t cs n).length cL ∧ Cells wr AL (leftAt xs t cs n)) ∧ (∃ w0 P C, Hid (Push w0 w.heap.size v (trail xs t cs (n + 1)) P C) ∧ Below w0.heap.size w0 wr ∧ w.heap.size ≤ w0.heap.size))
  case atStart => exact ⟨0, by omega, rfl, rfl, hid rfl, B1a, ⟨A, c, rfl, HCA.out.later B1a⟩, ⟨_, _, _, HPL, Below.refl _ _, B1a.size⟩⟩
  case round =>
    obtain ⟨n, hng, rfl, rfl, HOK, hbw, ⟨AL, cL, rfl, hcL⟩, ⟨w0, P, C, HP, hb0, hs0⟩⟩ := hrel
    have hbig := hbw.size
    have hlg := left_good HCR.out n HOK.out
    have hll := left_len HCR.out n HOK.out
    have hn30 := left_n HCR.out n HOK.out
    have hts := trail_succ xs t cs (n + 1)
    have htl := trail_len xs t cs (n + 1)
    obtain ⟨L, hL⟩ : ∃ L, L = leftAt xs t cs n := ⟨_, rfl⟩
    obtain ⟨s, hs⟩ : ∃ s, s = sgnAt xs t cs n := ⟨_, rfl⟩
    have hsg := hlg.2.2
    have hcrL := hlg.1
    rw [← hs] at hsg ⊢
    rw [← hL] at hcrL hll hcL ⊢
    have HL := hid hL; have HS := hid hs; have HTL := hid htl; have HTS := hid hts; have HCRL := hid hcrL; have HSG := hid hsg
    have GL := hid ((good_iff _).1 (crB_good hcrL).1)
    clear hlg hL hs htl hts hcrL hsg
    by_cases hend : n = cs.length
    · subst hend
      have hrun : runB xs t cs = true := by
        simp only [runB, HCR.out, HOK.out, Bool.true_and, Bool.and_true, decide_eq_true_eq]; exact hcs2
      obtain ⟨A5, c5, rfl, ho5⟩ := HP.out.own2
      have hF : runF xs t cs = trail xs t cs (cs.length + 1) := by simp [runF, hrun]
      have hS : runS xs t cs = s := by rw [HS.out]; simp [runS, hrun]
      have HF := hid hF; have HSS := hid hS; have HRUN := hid hrun
      rw [trail_len]
      clear hF hS hrun
      go_wp2_with fail
      go_ret3
      refine ⟨A5, c5, ?_, ?_, hbw⟩
      · rw [HF.out, HSS.out, HRUN.out, trail_len]; rfl
      · rw [HF.out]; exact (Own2.below ho5 hb0).wide hb0.size
    have hnl : n < cs.length := by omega
    obtain ⟨b, o, rfl, hcc⟩ := hc (by omega)
    have hcn0 := hcc n (by omega)
    have hbN : b < w.heap.size := World.block_lt_of_cell? w _ hcn0
    obtain ⟨x, hx⟩ : ∃ x, x = cs.getD n 0 := ⟨_, rfl⟩
    rw [← hx] at hcn0
    have HX := hid hx
    have hcn := (hbw.cell (p := ⟨b, o + n, none⟩) hbN).trans hcn0
    clear hcc hx hcn0
    have HCC := hid (crCells_any AL cL L t wr GL.out hcL)
    have hpp := pairs_len (rimCs L t)
    have hrl := rimCs_len GL.out t
    cases htb : takeB L t x
    · have hrun : runB xs t cs = false := by
        cases hr : runB xs t cs
        · rfl
        · simp only [runB, Bool.and_eq_true] at hr
          have h := okTo_le hr.2.2 (show n + 1 ≤ cs.length by omega)
          simp only [okTo, Bool.and_eq_true, ← HL.out, ← HX.out, htb] at h
          exact absurd h.2 (by decide)
      have hF : runF xs t cs = [] := by simp [runF, hrun]
      have hS : runS xs t cs = 0 := by simp [runS, hrun]
      have HF := hid hF; have HSS := hid hS; have HRUN := hid hrun
      have hin : inB 0 ((((pairs (rimCs L t)).length : Nat) : Int) - 1) x = false := by
        simp only [takeB, HCRL.out, Bool.true_and, Bool.and_eq_false_iff, decide_eq_false_iff_not] at htb
        simp only [inB, Bool.and_eq_false_iff, decide_eq_false_iff_not]; omega
      obtain ⟨m, hm⟩ : ∃ m, m = (pairs (rimCs L t)).length := ⟨_, rfl⟩
      rw [← hm] at hin HCC hpp
      have HIN := hid hin
      have hm9 : m ≤ 900 := by omega
      clear hF hS hrun htb hin hm hpp hrl
      go_wp2_with (first | (go_at_call 81; refine HCC.out.mono ?_; rintro e w3 ⟨A3, c3, rfl, o3, b3⟩) | (go_at_call 83; refine (l1In_b _ _ _ _ _ HIN.out).mono ?_; rintro e w' ⟨rfl, rfl⟩))
      go_ret3
      exact ⟨none, 0, by rw [HF.out, HSS.out, HRUN.out]; rfl, by rw [HF.out]; exact own2_nil _ _ _, Below.next hbw b3⟩
    · have htg := take_good htb
      obtain ⟨_, k', hxk, hkl⟩ := takeB_nat htb
      have hmem := getD_mem (rimCs L t) k' (0, 0) hkl
      have hm2 := rimCs_mem hmem
      have R := rim_ok GL.out hm2.1 hm2.2
      have HPA := hid fun W Ax (h : Cells2 W Ax (pairs (rimCs L t))) => pair_at h k' hkl
      have hq : takeAt L t x = (rimCs L t).getD k' (0, 0) := by rw [hxk]; rfl
      have hTF : takeF L t x = takeL L (takeAt L t x) := by simp [takeF, htb]
      have hTS : takeS L t x = takeSg L (takeAt L t x) := by simp [takeS, htb]
      rw [← hq] at hm2 R HPA
      obtain ⟨q, hqe⟩ : ∃ q, q = takeAt L t x := ⟨_, rfl⟩
      rw [← hqe] at hm2 R HPA hTF hTS
      obtain ⟨r', c'⟩ := q
      have HT := hid fun W b2 o2 cc2 (h : Cells W AL L) h2 h3 => crTake_any AL cL b2 o2 cc2 L r' c' _ W R rfl h h2 h3
      rw [← hTF, ← hTS] at HT
      obtain ⟨L2, hL2⟩ : ∃ L2, L2 = takeF L t x := ⟨_, rfl⟩
      obtain ⟨s2, hs2⟩ : ∃ s2, s2 = takeS L t x := ⟨_, rfl⟩
      rw [← hL2, ← hs2] at HT
      have hsb := sg_bound HSG.out htg.2.2.1
      rw [← hs2] at hsb
      have hok : okTo xs t cs (n + 1) = true := by simp only [okTo, HOK.out, ← HL.out, ← HX.out, htb, Bool.and_true]
      have e1 : leftAt xs t cs (n + 1) = L2 := by simp only [leftAt, ← HL.out, ← HX.out]; exact hL2.symm
      have e2 : sgnAt xs t cs (n + 1) = s * s2 := by simp only [sgnAt, ← HL.out, ← HX.out, ← HS.out]; rw [← hs2]
      have HOK2 := hid hok; have HE1 := hid e1; have HE2 := hid e2
      obtain ⟨m, hm⟩ : ∃ m, m = (pairs (rimCs L t)).length := ⟨_, rfl⟩
      rw [← hpp, ← hm] at hkl hrl
      rw [← hm] at HCC
      have hin : inB 0 ((m : Int) - 1) x = true := inB_iff.2 (by omega)
      have HIN := hid hin
      have hL2l : L2.length ≤ 30 := by rw [hL2]; exact htg.1.len
      rw [e1] at HTS
      subst hxk
      have hkk : (k' : Int) < (m : Int) := by omega
      have hk0 : (0 : Int) ≤ (k' : Int) := by omega
      clear htg hmem hm2 R hq hTF hTS hqe hL2 hs2 hok e1 e2 hm hin htb hpp
      go_wp2_with (first | (go_at_call 81; refine HCC.out.mono ?_; rintro e w3 ⟨A3, c3, rfl, o3, b3⟩; have B3 := Below.next hbw b3; obtain ⟨b5, o5, b6, o6, c6, rfl, h1, h2, h3⟩ := HPA.out _ _ o3.cells; clear o3) | (go_at_call 83; refine (l1In_b _ _ _ _ _ HIN.out).mono ?_; rintro e w' ⟨rfl, rfl⟩) | (go_at_call 84; refine (HT.out _ _ _ _ (hcL.below b3) h2 h3).mono ?_; rintro e w4 ⟨A4, c4, rfl, o4, b4⟩; have B4 := Below.next B3 b4; have hb04 := Below.next hb0 (Below.next b3 b4); have o5' := o4.more (hb0.trans (b3.mono hb0.size)).size; have hz4 := B4.size) | (at_builtin; refine wpList_append_own _ rfl _ _ 32 rfl w.heap.size 22 i1 (.slice none 0 0) 1 24 Try.underlying32 hj hy0 hy1 hy2 rfl (by decide) _ _ _ rfl ((HP.out.below hb04).out.alloc _) ⟨w4.heap.size, 0, none⟩ 1 1 [.slice A4 L2.length c4] rfl rfl one_at (one_cellS _ _ _) (by have := HTL.out; unfold maxLen; omega) (by have := HTL.out; omega) (by simp; omega) ?_))
      intro v' w5 hown' hgrow _
      have hb5 : Below w.heap.size w w5 := (B4.alloc (by omega) _).grown hgrow (by simp; omega) (fun q hq => (HP.out.out.lt q hq).1)
      have hp2 := HP.out.push hb04 o5' hs0 hown' hgrow
      have hrow := hp2.row (trail xs t cs (n + 1)).length (by simp)
      rw [setAt_eq, setAt_eq, getD_snoc_eq] at hrow
      rw [← HTS.out] at hp2
      have HP2 := hid hp2
      clear hown' hgrow hp2
      go_wp2_with fail
      go_roundg (gk - 1)
      case measure => omega
      case rel => exact ⟨n + 1, by omega, by go_num, by rw [HE2.out], HOK2, hb5, ⟨A4, c4, by rw [HE1.out], by rw [HE1.out]; exact hrow.cells⟩, ⟨w5, _, _, HP2, Below.refl _ _, hb5.size⟩⟩
end Go.Proofs.Ytblkmomcdchdoaa
