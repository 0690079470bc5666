/-
  Contracts: runs of the program, chosen and full.
-/
import Derived.Test.YtblkmomcdchdoaaRunI
import Derived.Test.YtblkmomcdchdoaaOwnCopy
import Derived.Deep.LoopGhost
import Derived.Handy
namespace Go.Proofs.Ytblkmomcdchdoaa
open Go.RowKit

structure RunAt (w wr : World) (l v : Value) (xs : List Int) (t : Int) (cs : List Int) (n : Nat) : Prop where
  ok : okTo xs t cs n = true
  big : w.heap.size ≤ wr.heap.size
  below : Below w.heap.size w wr
  at_ : ∃ A c w0 P C, l = .slice A (leftAt xs t cs n).length c ∧ Push w0 w.heap.size v (trail xs t cs n) P C ∧ Below w0.heap.size w0 wr ∧ w.heap.size ≤ w0.heap.size ∧ Own wr w0.heap.size A c (leftAt xs t cs n)

theorem Own2.wide {w : World} {B S S' : Nat} {A : Option Addr} {c : Nat} {rows : List (List Int)} (h : Own2 w B S A c rows) (hS : S ≤ S') : Own2 w B S' A c rows := by
  obtain ⟨P, C, h⟩ := h
  exact ⟨P, C, h.out, fun b hb => Nat.lt_of_lt_of_le (h.outS b hb) hS, h.row, fun j hj b hb => Nat.lt_of_lt_of_le (h.rowS j hj b hb) hS, h.apart⟩
theorem sg_bound {s u : Int} (h : s = 1 ∨ s = -1) (k : u = 1 ∨ u = -1) : -1 ≤ s * u ∧ s * u ≤ 1 := by
  rcases h with rfl | rfl <;> rcases k with rfl | rfl <;> decide
theorem cells_any {w : World} {A : Option Addr} {xs : List Int} (h : Cells w A xs) : ∃ b o, (0 < xs.length → A = some ⟨b, o, none⟩) ∧ ∀ j, j < xs.length → w.cell? ⟨b, o + j, none⟩ = some (.int .i64 (xs.getD j 0)) := by
  by_cases hp : 0 < xs.length
  · obtain ⟨b, o, rfl, hc⟩ := h hp
    exact ⟨b, o, fun _ => rfl, hc⟩
  · exact ⟨0, 0, fun h => absurd h hp, fun j hj => absurd hj (by omega)⟩

set_option maxRecDepth 100000 in
set_option maxHeartbeats 4000000 in
theorem follow_c {B : Nat} (A Ac : Option Addr) (c cc : Nat) (xs : List Int) (t : Int) (cs : List Int) (w : World) (hl : xs.length ≤ 1048576) (h64 : I64 t) (hcr : crB xs t = true) (hcs : cs.length ≤ 200) (ho : Own w B A c xs) (hc : Cells w Ac cs) :
    Calls Try.prog 87 #[.slice A xs.length c, .int .i64 t, .iface 93 (.slice Ac cs.length cc)] w fun e w' => ∃ A' c', e = .returned (.tuple #[.slice A' (runF xs t cs).length c', .int .i64 (runS xs t cs), .bool (runB xs t cs)]) ∧ Own2 w' w.heap.size w'.heap.size A' c' (runF xs t cs) ∧ Below w.heap.size w w' := by
  obtain ⟨i1, hj, hy0, hy1, hy2⟩ := info_parts Try.infoInts
  have HCL := hid (cloneOwn_any A c xs w hl ho)
  have HCR := hid hcr
  clear hcr ho
  go_enter Try.func87, Try.ntmps87
  go_wp2_with (go_at_call 78; refine HCL.out.mono ?_; rintro e w1 ⟨A1, c1, rfl, o1, b1⟩)
  go_loopg [9, 10, 11] (cs.length) (fun g l v s wr => ∃ n : Nat, n + g = cs.length ∧ s = .int .i64 (sgnAt xs t cs n) ∧ Hid (RunAt w wr l v xs t cs n))
  case atStart => exact ⟨0, by omega, rfl, hid ⟨rfl, b1.size, b1, A1, c1, w, _, _, rfl, push_nil _ _, b1, Nat.le_refl _, o1⟩⟩
  case round =>
    obtain ⟨n, hng, rfl, HR⟩ := hrel
    obtain ⟨AL, cL, w0, P, C, rfl, hp, hb0, hs0, hol⟩ := HR.out.at_
    have hbw := HR.out.below
    have hbig := HR.out.big
    have hlg := left_good HCR.out n HR.out.ok
    have hll := left_len HCR.out n HR.out.ok
    have hn30 := left_n HCR.out n HR.out.ok
    have HP := hid hp; clear hp
    have htl := trail_len xs t cs n
    have hts := trail_succ xs t cs n
    obtain ⟨L, hL⟩ : ∃ L, L = leftAt xs t cs n := ⟨_, rfl⟩
    obtain ⟨s, hs⟩ : ∃ s, s = sgnAt xs t cs n := ⟨_, rfl⟩
    have hsg := hlg.2.2
    have hcrL := hlg.1
    rw [← hs] at hsg ⊢
    rw [← hL] at hcrL hts hol hll ⊢
    have HL := hid hL; have HS := hid hs; have HTL := hid htl; have HTS := hid hts; have HCRL := hid hcrL; have HOL := hid hol; have HSG := hid hsg
    clear hlg hL hs htl hts hcrL hol hsg
    go_wp2_with (at_builtin; refine wpList_append_own _ rfl _ _ 32 rfl w.heap.size 22 i1 (.slice none 0 0) 1 24 Try.underlying32 hj hy0 hy1 hy2 rfl (by decide) _ _ _ rfl ((HP.out.below hb0).out.alloc _) ⟨wr.heap.size, 0, none⟩ 1 1 [.slice AL L.length cL] rfl rfl one_at (one_cellS _ _ _) (by have := HTL.out; unfold maxLen; omega) (by have := HTL.out; omega) (by simp; omega) ?_)
    intro v' w2 hown' hgrow _
    have hb2 : Below w.heap.size w w2 := (hbw.alloc (by omega) _).grown hgrow (by simp; omega) (fun q hq => (HP.out.out.lt q hq).1)
    have hp2 := HP.out.push hb0 HOL.out hs0 hown' hgrow
    have hrow := hp2.row (trail xs t cs n).length (by simp)
    rw [setAt_eq, setAt_eq, getD_snoc_eq] at hrow
    rw [← HTS.out] at hp2
    obtain ⟨A', c', rfl⟩ := ownsRow_slice hown'
    have hle : (trail xs t cs n).length + 1 = n + 1 := by rw [HTL.out]
    rw [hle] at hp2 ⊢
    have HP2 := hid hp2; have HROW := hid hrow
    have hrc := impl_RimCells AL cL L t w2 (by omega) hrow.cells h64
    have hrcl : (rimCellsF L t).length ≤ 900 := by
      rw [show rimCellsF L t = pairs (rimCs L t) by simp [rimCellsF, HCRL.out], pairs_len]
      exact rimCs_len ((good_iff _).1 (crB_good HCRL.out).1) t
    rw [HCRL.out] at hrc
    obtain ⟨m, hm⟩ : ∃ m, m = (rimCellsF L t).length := ⟨_, rfl⟩
    rw [← hm] at hrc hrcl
    have HRC := hid hrc
    clear hp2 hrow hown' hgrow hrc hm hle
    by_cases hend : n = cs.length
    · subst hend
      have HOV := hid (fun (k : Int) (hk : k = (cs.length : Int)) W => isOver_b Ac cs.length cc k m W (by omega) true (by rw [hk]; simp))
      have hrun : runB xs t cs = true := by
        have h := HR.out.ok
        simp only [runB, HCR.out, h, Bool.true_and, Bool.and_true, decide_eq_true_eq]; exact hcs
      have HRUN := hid hrun; clear hrun
      go_wp2_with (first | (go_at_call 39; refine HRC.out.mono ?_; rintro e w3 ⟨A3, c3, rfl, o3, b3⟩) | (go_at_call 115; refine (HOV.out _ (by omega) _).mono ?_; rintro e w' ⟨rfl, rfl⟩))
      obtain ⟨A5, c5, e5, ho5⟩ := HP2.out.own2
      rw [trail_len] at e5
      injection e5 with e51 e52 e53
      subst e51 e53
      have hF : runF xs t cs = trail xs t cs (cs.length + 1) := by simp [runF, HRUN.out]
      have hS : runS xs t cs = s := by rw [HS.out]; simp [runS, HRUN.out]
      go_ret3
      refine ⟨A', c', ?_, ?_, Below.next hb2 b3⟩
      · rw [hF, hS, HRUN.out, trail_len]; rfl
      · rw [hF]; exact (Own2.below ho5 b3).wide b3.size
    · have HOV := hid (fun (k : Int) (hk : ¬ k = (cs.length : Int)) W => isOver_b Ac cs.length cc k m W (by omega) false (by simpa using hk))
      obtain ⟨b, o, rfl, hcc⟩ := hc (by omega)
      have hcn0 := hcc n (by omega)
      have hbN : b < w.heap.size := World.block_lt_of_cell? w _ hcn0
      obtain ⟨x, hx⟩ : ∃ x, x = cs.getD n 0 := ⟨_, rfl⟩
      rw [← hx] at hcn0
      have HX := hid hx
      have HCN := hid fun W (h : Below w.heap.size w W) => (h.cell (p := ⟨b, o + n, none⟩) hbN).trans hcn0
      have hnl : n < cs.length := by omega
      clear hcc hx hcn0
      have HTR := hid fun W (h : Cells W AL L) => impl_TakeRim' AL cL L t x W (by omega) h h64
      cases htb : takeB L t x
      · rw [htb] at HTR
        have hrun : runB xs t cs = false := by
          cases hr : runB xs t cs
          · rfl
          · simp only [runB, Bool.and_eq_true] at hr
            have h := okTo_le hr.2.2 (show n + 1 ≤ cs.length by omega)
            simp only [okTo, Bool.and_eq_true, ← HL.out, ← HX.out, htb] at h
            exact absurd h.2 (by decide)
        have hF : runF xs t cs = [] := by simp [runF, hrun]
        have hS : runS xs t cs = 0 := by simp [runS, hrun]
        have HF := hid hF; have HSS := hid hS; have HRUN := hid hrun
        clear hF hS hrun htb
        go_wp2_with (first | (go_at_call 39; refine HRC.out.mono ?_; rintro e w3 ⟨A3, c3, rfl, o3, b3⟩; have B3 := Below.next hb2 b3) | (go_at_call 115; refine (HOV.out _ (by omega) _).mono ?_; rintro e w' ⟨rfl, rfl⟩) | (go_at_call 156; refine (choice_i b o cs.length cc _ n x _ hnl (by omega) (HCN.out _ B3)).mono ?_; rintro e w' ⟨rfl, rfl⟩) | (go_at_call 41; refine (HTR.out _ (HROW.out.below b3).cells).mono ?_; rintro e w4 ⟨A4, c4, rfl, o4, b4⟩))
        go_ret3
        exact ⟨none, 0, by rw [HF.out, HSS.out, HRUN.out]; rfl, by rw [HF.out]; exact own2_nil _ _ _, Below.next B3 b4⟩
      · have htg := take_good htb
        rw [htb] at HTR
        obtain ⟨L2, hL2⟩ : ∃ L2, L2 = takeF L t x := ⟨_, rfl⟩
        obtain ⟨s2, hs2⟩ : ∃ s2, s2 = takeS L t x := ⟨_, rfl⟩
        rw [← hL2, ← hs2] at HTR
        have hsb := sg_bound HSG.out htg.2.2.1
        rw [← hs2] at hsb
        have hok : okTo xs t cs (n + 1) = true := by simp only [okTo, HR.out.ok, ← HL.out, ← HX.out, htb, Bool.and_true]
        have e1 : leftAt xs t cs (n + 1) = L2 := by simp only [leftAt, ← HL.out, ← HX.out]; exact hL2.symm
        have e2 : sgnAt xs t cs (n + 1) = s * s2 := by simp only [sgnAt, ← HL.out, ← HX.out, ← HS.out]; rw [← hs2]
        have HOK := hid hok; have HE1 := hid e1; have HE2 := hid e2
        clear htg hL2 hs2 hok e1 e2 htb
        go_wp2_with (first | (go_at_call 39; refine HRC.out.mono ?_; rintro e w3 ⟨A3, c3, rfl, o3, b3⟩; have B3 := Below.next hb2 b3) | (go_at_call 115; refine (HOV.out _ (by omega) _).mono ?_; rintro e w' ⟨rfl, rfl⟩) | (go_at_call 156; refine (choice_i b o cs.length cc _ n x _ hnl (by omega) (HCN.out _ B3)).mono ?_; rintro e w' ⟨rfl, rfl⟩) | (go_at_call 41; refine (HTR.out _ (HROW.out.below b3).cells).mono ?_; rintro e w4 ⟨A4, c4, rfl, o4, b4⟩))
        go_roundg (gk - 1)
        case measure => omega
        case rel =>
          have B4 := Below.next B3 b4
          refine ⟨n + 1, by omega, by rw [HE2.out], hid ⟨HOK.out, B4.size, B4, A4, c4, w2, _, _, by rw [HE1.out], HP2.out, Below.next b3 b4, hb2.size, ?_⟩⟩
          rw [HE1.out]; exact o4.more b3.size
set_option maxRecDepth 100000 in
set_option maxHeartbeats 4000000 in
theorem follow_f {B : Nat} (A : Option Addr) (c : Nat) (xs : List Int) (t : Int) (w : World) (hl : xs.length ≤ 1048576) (h64 : I64 t) (hcr : crB xs t = true) (ho : Own w B A c xs) :
    Calls Try.prog 87 #[.slice A xs.length c, .int .i64 t, .iface 75 (.agg #[])] w fun e w' => ∃ A' n c', e = .returned (.tuple #[.slice A' n c', .int .i64 (signF xs t), .bool true]) ∧ Below w.heap.size w w' := by
  obtain ⟨i1, hj, hy0, hy1, hy2⟩ := info_parts Try.infoInts
  have HCL := hid (cloneOwn_any A c xs w hl ho)
  have HCR := hid hcr
  clear hcr ho
  go_enter Try.func87, Try.ntmps87
  go_wp2_with (go_at_call 78; refine HCL.out.mono ?_; rintro e w1 ⟨A1, c1, rfl, o1, b1⟩)
  go_loopg [9, 10, 11] 31 (fun g l v s wr => ∃ n : Nat, n + g = 31 ∧ s = .int .i64 (sgnAt xs t [] n) ∧ Hid (RunAt w wr l v xs t [] n))
  case atStart => exact ⟨0, by omega, rfl, hid ⟨rfl, b1.size, b1, A1, c1, w, _, _, rfl, push_nil _ _, b1, Nat.le_refl _, o1⟩⟩
  case round =>
    obtain ⟨n, hng, rfl, HR⟩ := hrel
    obtain ⟨AL, cL, w0, P, C, rfl, hp, hb0, hs0, hol⟩ := HR.out.at_
    have hbw := HR.out.below
    have hbig := HR.out.big
    have hlg := left_good HCR.out n HR.out.ok
    have hll := left_len HCR.out n HR.out.ok
    have hn30 := left_n HCR.out n HR.out.ok
    have HP := hid hp; clear hp
    have htl := trail_len xs t [] n
    have hts := trail_succ xs t [] n
    obtain ⟨L, hL⟩ : ∃ L, L = leftAt xs t [] n := ⟨_, rfl⟩
    obtain ⟨s, hs⟩ : ∃ s, s = sgnAt xs t [] n := ⟨_, rfl⟩
    have hsg := hlg.2.2
    have hcrL := hlg.1
    rw [← hs] at hsg ⊢
    rw [← hL] at hcrL hts hol hll ⊢
    have HL := hid hL; have HS := hid hs; have HTL := hid htl; have HTS := hid hts; have HCRL := hid hcrL; have HOL := hid hol; have HSG := hid hsg
    clear hlg hL hs htl hts hcrL hol hsg
    go_wp2_with (at_builtin; refine wpList_append_own _ rfl _ _ 32 rfl w.heap.size 22 i1 (.slice none 0 0) 1 24 Try.underlying32 hj hy0 hy1 hy2 rfl (by decide) _ _ _ rfl ((HP.out.below hb0).out.alloc _) ⟨wr.heap.size, 0, none⟩ 1 1 [.slice AL L.length cL] rfl rfl one_at (one_cellS _ _ _) (by have := HTL.out; unfold maxLen; omega) (by have := HTL.out; omega) (by simp; omega) ?_)
    intro v' w2 hown' hgrow _
    have hb2 : Below w.heap.size w w2 := (hbw.alloc (by omega) _).grown hgrow (by simp; omega) (fun q hq => (HP.out.out.lt q hq).1)
    have hp2 := HP.out.push hb0 HOL.out hs0 hown' hgrow
    have hrow := hp2.row (trail xs t [] n).length (by simp)
    rw [setAt_eq, setAt_eq, getD_snoc_eq] at hrow
    rw [← HTS.out] at hp2
    obtain ⟨A', c', rfl⟩ := ownsRow_slice hown'
    have hle : (trail xs t [] n).length + 1 = n + 1 := by rw [HTL.out]
    rw [hle] at hp2 ⊢
    have HP2 := hid hp2; have HROW := hid hrow
    have hrc := impl_RimCells AL cL L t w2 (by omega) hrow.cells h64
    have hrcl : (rimCellsF L t).length ≤ 900 := by
      rw [show rimCellsF L t = pairs (rimCs L t) by simp [rimCellsF, HCRL.out], pairs_len]
      exact rimCs_len ((good_iff _).1 (crB_good HCRL.out).1) t
    rw [HCRL.out] at hrc
    have hrm : (rimCellsF L t).length = (rimCs L t).length := by rw [show rimCellsF L t = pairs (rimCs L t) by simp [rimCellsF, HCRL.out], pairs_len]
    obtain ⟨m, hm⟩ : ∃ m, m = (rimCellsF L t).length := ⟨_, rfl⟩
    rw [← hm] at hrc hrcl hrm
    have HRM := hid hrm
    have HRC := hid hrc
    clear hp2 hrow hown' hgrow hrc hm hle hrm
    by_cases hend : m = 0
    · subst hend
      have HOV := hid (fun (k : Int) W => isOver_fb k ((0 : Nat) : Int) W true (by decide))
      have hS : signF xs t = s := by rw [signF_eq HCR.out ⟨HR.out.ok, by rw [← HL.out]; exact HRM.out.symm⟩, HS.out]
      have HSS := hid hS
      clear hS
      go_wp2_with (first | (go_at_call 39; refine HRC.out.mono ?_; rintro e w3 ⟨A3, c3, rfl, o3, b3⟩) | (go_at_call 115; refine (HOV.out _ _).mono ?_; rintro e w' ⟨rfl, rfl⟩))
      go_ret3
      exact ⟨A', n + 1, c', by rw [HSS.out]; rfl, Below.next hb2 b3⟩
    · have HOV := hid (fun (k : Int) W => isOver_fb k (m : Int) W false (by simpa using hend))
      have htb : takeB L t 0 = true := take0 HCRL.out (by rw [← HRM.out]; exact hend)
      have HTR := hid fun W (h : Cells W AL L) => impl_TakeRim' AL cL L t 0 W (by omega) h h64
      have htg := take_good htb
      rw [htb] at HTR
      obtain ⟨L2, hL2⟩ : ∃ L2, L2 = takeF L t 0 := ⟨_, rfl⟩
      obtain ⟨s2, hs2⟩ : ∃ s2, s2 = takeS L t 0 := ⟨_, rfl⟩
      rw [← hL2, ← hs2] at HTR
      have hsb := sg_bound HSG.out htg.2.2.1
      rw [← hs2] at hsb
      have hok : okTo xs t [] (n + 1) = true := by simp only [okTo, HR.out.ok, ← HL.out, List.getD_nil, htb, Bool.and_true]
      have e1 : leftAt xs t [] (n + 1) = L2 := by simp only [leftAt, ← HL.out, List.getD_nil]; exact hL2.symm
      have e2 : sgnAt xs t [] (n + 1) = s * s2 := by simp only [sgnAt, ← HL.out, List.getD_nil, ← HS.out]; rw [← hs2]
      have HOK := hid hok; have HE1 := hid e1; have HE2 := hid e2
      clear htg hL2 hs2 hok e1 e2 htb
      go_wp2_with (first | (go_at_call 39; refine HRC.out.mono ?_; rintro e w3 ⟨A3, c3, rfl, o3, b3⟩; have B3 := Below.next hb2 b3) | (go_at_call 115; refine (HOV.out _ _).mono ?_; rintro e w' ⟨rfl, rfl⟩) | (go_at_call 155; refine (choice_f _ _).mono ?_; rintro e w5 ⟨rfl, b5⟩; have B5 := Below.next B3 b5; have b35 := Below.next b3 b5) | (go_at_call 41; refine (HTR.out _ (HROW.out.below b35).cells).mono ?_; rintro e w4 ⟨A4, c4, rfl, o4, b4⟩))
      go_roundg (gk - 1)
      case measure => have := left_n HCR.out (n + 1) HOK.out; omega
      case rel =>
        have B4 := Below.next B5 b4
        have := left_n HCR.out (n + 1) HOK.out
        refine ⟨n + 1, by omega, by rw [HE2.out], hid ⟨HOK.out, B4.size, B4, A4, c4, w2, _, _, by rw [HE1.out], HP2.out, Below.next b35 b4, hb2.size, ?_⟩⟩
        rw [HE1.out]; exact o4.more b35.size

set_option maxRecDepth 100000 in
set_option maxHeartbeats 4000000 in
theorem follow_n {B : Nat} (A : Option Addr) (c : Nat) (xs : List Int) (t : Int) (V : Value) (w : World) (hl : xs.length ≤ 1048576) (h64 : I64 t) (hcr : crB xs t = false) (ho : Own w B A c xs) :
    Calls Try.prog 87 #[.slice A xs.length c, .int .i64 t, V] w fun e w' => e = .returned (.tuple #[.slice none 0 0, .int .i64 0, .bool false]) ∧ Below w.heap.size w w' := by
  obtain ⟨i1, hj, hy0, hy1, hy2⟩ := info_parts Try.infoInts
  have HCL := hid (cloneOwn_any A c xs w hl ho)
  have HCR := hid hcr
  clear hcr ho
  go_enter Try.func87, Try.ntmps87
  go_wp2_with (go_at_call 78; refine HCL.out.mono ?_; rintro e w1 ⟨A1, c1, rfl, o1, b1⟩)
  go_loopg [9, 10, 11] 0 (fun g l v s wr => g = 0 ∧ s = .int .i64 1 ∧ v = .slice none 0 0 ∧ l = .slice A1 xs.length c1 ∧ wr = w1)
  case atStart => exact ⟨rfl, rfl, rfl, rfl, rfl⟩
  case round =>
    obtain ⟨rfl, rfl, rfl, rfl, rfl⟩ := hrel
    have hbig := b1.size
    have hp := push_nil w w.heap.size
    go_wp2_with (at_builtin; refine wpList_append_own _ rfl _ _ 32 rfl w.heap.size 22 i1 (.slice none 0 0) 1 24 Try.underlying32 hj hy0 hy1 hy2 rfl (by decide) _ _ _ rfl ((hp.below b1).out.alloc _) ⟨wr.heap.size, 0, none⟩ 1 1 [.slice A1 xs.length c1] rfl rfl one_at (one_cellS _ _ _) (by unfold maxLen; simp) (by simp) (by simp; omega) ?_)
    intro v' w2 hown' hgrow _
    have hb2 : Below w.heap.size w w2 := (b1.alloc (by omega) _).grown hgrow (by simp; omega) (fun q hq => (hp.out.lt q hq).1)
    have hp2 := hp.push b1 o1 (Nat.le_refl _) hown' hgrow
    have hrow := hp2.row 0 (by simp)
    have hrow2 : Own w2 w.heap.size A1 c1 xs := hrow
    have hrc := impl_RimCells A1 c1 xs t w2 hl hrow2.cells h64
    rw [HCR.out] at hrc
    have HRC := hid hrc
    clear hp2 hrow hown' hgrow hrc
    go_wp2_with (go_at_call 39; refine HRC.out.mono ?_; rintro e w3 ⟨A3, c3, rfl, o3, b3⟩)
    go_ret3
    exact ⟨rfl, Below.next hb2 b3⟩


set_option maxHeartbeats 1000000 in
theorem followChoices_any {B : Nat} (A Ac : Option Addr) (c cc : Nat) (xs : List Int) (t : Int) (cs : List Int) (w : World) (hl : xs.length ≤ 1048576) (hcl : cs.length ≤ 1048576) (h64 : I64 t) (ho : Own w B A c xs) (hc : Cells w Ac cs) :
    Calls Try.prog 89 #[.slice A xs.length c, .int .i64 t, .slice Ac cs.length cc] w fun e w' => ∃ A' c', e = .returned (.tuple #[.slice A' (runF xs t cs).length c', .int .i64 (runS xs t cs), .bool (runB xs t cs)]) ∧ Own2 w' w.heap.size w'.heap.size A' c' (runF xs t cs) ∧ Below w.heap.size w w' := by
  have hmk := mk_c
  by_cases hcs : 200 < cs.length
  · have hr : runB xs t cs = false := by simp only [runB, Bool.and_eq_false_iff, decide_eq_false_iff_not]; right; left; omega
    rw [show runF xs t cs = [] by simp [runF, hr], show runS xs t cs = 0 by simp [runS, hr], hr]
    clear hr
    go_enter Try.func89, Try.ntmps89
    go_wp2_with fail
    go_ret3
    exact ⟨none, 0, rfl, own2_nil _ _ _, Below.refl _ _⟩
  cases hcr : crB xs t
  · have hr : runB xs t cs = false := by simp [runB, hcr]
    rw [show runF xs t cs = [] by simp [runF, hr], show runS xs t cs = 0 by simp [runS, hr], hr]
    have HF := hid fun V => follow_n A c xs t V w hl h64 hcr ho
    clear hr hcr
    go_enter Try.func89, Try.ntmps89
    go_wp2_with (go_at_call 87; refine (HF.out _).mono ?_; rintro e w2 ⟨rfl, b2⟩)
    go_ret3
    exact ⟨none, 0, rfl, own2_nil _ _ _, b2⟩
  · have HF := hid (follow_c A Ac c cc xs t cs w hl h64 hcr (by omega) ho hc)
    obtain ⟨R, hR⟩ : ∃ R, R = runF xs t cs := ⟨_, rfl⟩
    rw [← hR] at HF ⊢
    clear hcr hR
    go_enter Try.func89, Try.ntmps89
    go_wp2_with (go_at_call 87; refine (HF.out).mono ?_; rintro e w2 ⟨A2, c2, rfl, o2, b2⟩)
    go_ret3
    exact ⟨A2, c2, rfl, o2, b2⟩
theorem impl_RunOf {B : Nat} (A : Option Addr) (c : Nat) (xs : List Int) (t : Int) (Ac : Option Addr) (cc : Nat) (cs : List Int) (w : World) (hl : xs.length ≤ 1048576) (ho : Own w B A c xs) (h64 : I64 t) (hcl : cs.length ≤ 1048576) (hc : Cells w Ac cs) :
    Calls Try.prog 47 #[.slice A xs.length c, .int .i64 t, .slice Ac cs.length cc] w fun e w' => ∃ A' c', e = .returned (.tuple #[.slice A' (runF xs t cs).length c', .bool (runB xs t cs)]) ∧ Own2 w' w.heap.size w'.heap.size A' c' (runF xs t cs) ∧ Below w.heap.size w w' := by
  have HF := hid (followChoices_any A Ac c cc xs t cs w hl hcl h64 ho hc)
  obtain ⟨R, hR⟩ : ∃ R, R = runF xs t cs := ⟨_, rfl⟩
  obtain ⟨b, hb⟩ : ∃ b, b = runB xs t cs := ⟨_, rfl⟩
  rw [← hR, ← hb] at HF
  rw [← hR, ← hb]
  clear hR hb
  go_enter Try.func47, Try.ntmps47
  go_wp2_with (go_at_call 89; refine (HF.out).mono ?_; rintro e w2 ⟨A2, c2, rfl, o2, b2⟩)
  go_ret2
  exact ⟨A2, c2, rfl, o2, b2⟩
theorem impl_SignOfRun {B : Nat} (A : Option Addr) (c : Nat) (xs : List Int) (t : Int) (Ac : Option Addr) (cc : Nat) (cs : List Int) (w : World) (hl : xs.length ≤ 1048576) (ho : Own w B A c xs) (h64 : I64 t) (hcl : cs.length ≤ 1048576) (hc : Cells w Ac cs) :
    Calls Try.prog 49 #[.slice A xs.length c, .int .i64 t, .slice Ac cs.length cc] w fun e w' => e = .returned (.tuple #[.int .i64 (runS xs t cs), .bool (runB xs t cs)]) ∧ Below w.heap.size w w' := by
  have HF := hid (followChoices_any A Ac c cc xs t cs w hl hcl h64 ho hc)
  obtain ⟨s, hs⟩ : ∃ s, s = runS xs t cs := ⟨_, rfl⟩
  obtain ⟨b, hb⟩ : ∃ b, b = runB xs t cs := ⟨_, rfl⟩
  rw [← hs, ← hb] at HF
  rw [← hs, ← hb]
  clear hs hb
  go_enter Try.func49, Try.ntmps49
  go_wp2_with (go_at_call 89; refine (HF.out).mono ?_; rintro e w2 ⟨A2, c2, rfl, o2, b2⟩)
  go_ret2
  exact ⟨rfl, b2⟩
theorem impl_SignOf {B : Nat} (A : Option Addr) (c : Nat) (xs : List Int) (t : Int) (w : World) (hl : xs.length ≤ 1048576) (ho : Own w B A c xs) (h64 : I64 t) :
    Calls Try.prog 45 #[.slice A xs.length c, .int .i64 t] w fun e w' => e = .returned (.tuple #[.int .i64 (signF xs t), .bool (crB xs t)]) ∧ Below w.heap.size w w' := by
  have hmk := mk_f
  cases hcr : crB xs t
  · rw [signF_f hcr]
    have HF := hid fun V => follow_n A c xs t V w hl h64 hcr ho
    clear hcr
    go_enter Try.func45, Try.ntmps45
    go_wp2_with (go_at_call 87; refine (HF.out _).mono ?_; rintro e w2 ⟨rfl, b2⟩)
    go_ret2
    exact ⟨rfl, b2⟩
  · have HF := hid (follow_f A c xs t w hl h64 hcr ho)
    obtain ⟨s, hs⟩ : ∃ s, s = signF xs t := ⟨_, rfl⟩
    rw [← hs] at HF ⊢
    clear hcr hs
    go_enter Try.func45, Try.ntmps45
    go_wp2_with (go_at_call 87; refine (HF.out).mono ?_; rintro e w2 ⟨A2, n2, c2, rfl, b2⟩)
    go_ret2
    exact ⟨rfl, b2⟩
end Go.Proofs.Ytblkmomcdchdoaa
