/-
  Several texts in one.
-/
import Derived.Test.YthbkonpclflkhaaR33
import Derived.Test.YthbkonpclflkhaaR27
import Derived.Test.YthbkonpclflkhaaR12
import Derived.Test.YthbkonpclflkhaaCU
import Derived.Test.YthbkonpclflkhaaCW
import Derived.Lib.SliceRun
import Derived.Laws.IdiomCopy
/-
  Contracts: ReachedByArrows of the model.
-/
namespace Go.Proofs.Ythbkonpclflkhaa
open Go.RowKit

theorem push_slice {w : World} {B : Nat} {v : Value} {rows : List (List Int)} {P : Nat → Option Addr} {C : Nat → Nat} (h : Push w B v rows P C) : ∃ A c, v = .slice A rows.length c := by
  obtain ⟨A, c, e, _⟩ := h.own2
  exact ⟨A, c, e⟩
theorem push_low {w : World} {B B' : Nat} {v : Value} {rows : List (List Int)} {P : Nat → Option Addr} {C : Nat → Nat} (h : Push w B v rows P C) (hB : B' ≤ B) : Push w B' v rows P C :=
  ⟨ownsRow_moreA h.out hB, fun j hj => (h.row j hj).more hB, h.apart⟩

set_option maxRecDepth 100000 in
set_option maxHeartbeats 2000000 in
theorem arIn_any {B : Nat} (A Ap : Option Addr) (c cp : Nat) (rows : List (List Int)) (p : List Int) (P : Nat → Option Addr) (C : Nat → Nat) (w : World) (hl : rows.length ≤ 100000) (hr : ∀ j, j < rows.length → (rows.getD j []).length ≤ 1048576) (hpl : p.length ≤ 1048576)
    (hpush : Push w B (.slice A rows.length c) rows P C) (hp : Cells w Ap p) :
    Calls Try.prog 91 #[.slice A rows.length c, .slice Ap p.length cp] w fun e w' => e = .returned (.bool (decide (p ∈ rows))) ∧ ∃ n, w' = w.drewN n := by
  obtain ⟨-, hc1, hc2, hc3⟩ := push_cells hpush
  have HC3 := hid hc3
  have HP := hid hpush
  have HPC := hid hp
  have HR := hid hr
  clear hc2 hc3 hpush hr hp
  go_enter Try.func91, Try.ntmps91
  go_wp2_with fail
  go_loopw [9] (fun u wr => ∃ k : Nat, k ≤ rows.length ∧ u = .int .i64 k ∧ Hid (∀ j, j < k → ¬ p = rows.getD j []) ∧ ∃ n, wr = w.drewN n) (fun u _ => rows.length - (intOf u).toNat)
  case atStart => exact ⟨0, Nat.zero_le _, rfl, hid fun j hj => absurd hj (by omega), 0, rfl⟩
  case round =>
    obtain ⟨k, hk, rfl, HD, n, rfl⟩ := hrel
    by_cases hlt : k < rows.length
    · have hAg : ∃ g, A = some ⟨g, 0, none⟩ := by
        rcases HP.out.out.2 with ⟨_, h0⟩ | ⟨g, cap, cur, hv, _⟩
        · omega
        · exact ⟨g, by injection hv⟩
      obtain ⟨g, rfl⟩ := hAg
      have hcr := HC3.out _ rfl k _ (RL_get P C rows k hlt)
      rw [addr_add0] at hcr
      have hcr2 : (w.drewN n).cell? ⟨g, k, none⟩ = some (.slice (P k) (rows.getD k []).length (C k)) := hcr
      have HSB := hid fun b h => l1Same_b Ap (P k) cp (C k) p (rows.getD k []) (w.drewN n) hpl (HR.out k hlt) HPC.out (HP.out.row k hlt).cells b h
      have HMEM := hid (show p = rows.getD k [] → decide (p ∈ rows) = true from fun e => by
        rw [e, List.getD_eq_getElem?_getD, List.getElem?_eq_getElem hlt]
        exact decide_eq_true (List.getElem_mem hlt))
      have HN := hid (show ¬ p = rows.getD k [] → ∀ j, j < k + 1 → ¬ p = rows.getD j [] from fun h j hj => by
        by_cases e : j = k
        · rw [e]; exact h
        · exact HD.out j (by omega))
      obtain ⟨row, hrow⟩ : ∃ row, row = rows.getD k [] := ⟨_, rfl⟩
      obtain ⟨Ak, hAk⟩ : ∃ Ak, Ak = P k := ⟨_, rfl⟩
      obtain ⟨Ck, hCk⟩ : ∃ Ck, Ck = C k := ⟨_, rfl⟩
      rw [← hrow] at hcr2 HSB HMEM HN
      rw [← hAk, ← hCk] at hcr2 HSB
      clear hcr hrow hAk hCk
      by_cases hpe : p = row
      · have HS := hid (HSB.out true (decide_eq_true hpe))
        have HM := hid (HMEM.out hpe)
        clear hpe
        go_wp2_with fail
        refine HS.out.mono ?_
        rintro e w' ⟨rfl, n2, rfl⟩
        go_wp2_with fail
        go_ret
        exact ⟨by rw [HM.out]; rfl, n + n2, rfl⟩
      · have HS := hid (HSB.out false (decide_eq_false hpe))
        have HM := hid (HN.out hpe)
        clear hpe
        go_wp2_with fail
        refine HS.out.mono ?_
        rintro e w' ⟨rfl, n2, rfl⟩
        rw [World.drewN_drewN]
        go_wp2_with fail
        go_roundw
        case rel => exact ⟨k + 1, by omega, by go_num, HM, _, rfl⟩
        case measure => simp [intOf]; omega
    · have HM := hid (show decide (p ∈ rows) = false from by
        apply decide_eq_false
        intro h
        obtain ⟨j, hj, e⟩ := List.getElem_of_mem h
        refine HD.out j (by omega) ?_
        rw [List.getD_eq_getElem?_getD, List.getElem?_eq_getElem hj]; exact e.symm)
      go_wp2_with fail
      go_ret
      exact ⟨by rw [HM.out]; rfl, n, rfl⟩
theorem arIn_b {B : Nat} (A Ap : Option Addr) (c cp : Nat) (rows : List (List Int)) (p : List Int) (P : Nat → Option Addr) (C : Nat → Nat) (w : World) (hl : rows.length ≤ 100000) (hr : ∀ j, j < rows.length → (rows.getD j []).length ≤ 1048576) (hpl : p.length ≤ 1048576)
    (hpush : Push w B (.slice A rows.length c) rows P C) (hp : Cells w Ap p) (b : Bool) (h : decide (p ∈ rows) = b) :
    Calls Try.prog 91 #[.slice A rows.length c, .slice Ap p.length cp] w fun e w' => e = .returned (.bool b) ∧ ∃ n, w' = w.drewN n := by
  subst h; exact arIn_any A Ap c cp rows p P C w hl hr hpl hpush hp

set_option maxRecDepth 100000 in
set_option maxHeartbeats 8000000 in
theorem spec_ReachedByArrows (t n : Int) (w : World) (_ : I64 t) (_ : I64 n) :
    Calls Try.prog 43 #[.int .i64 t, .int .i64 n] w fun e w' => ∃ A' c', e = .returned (.tuple #[.slice A' (raF t n).length c', .bool (raB t n)]) ∧ Own2 w' w.heap.size w'.heap.size A' c' (raF t n) ∧ Below w.heap.size w w' := by
  cases hB0 : raB t n
  · rw [show raF t n = [] by simp [raF, hB0]]
    have HB := hid (show rwB8 t n = false from hB0)
    clear hB0
    go_enter Try.func43, Try.ntmps43
    go_wp2_with (go_at_call 87; refine (arList_b _ _ _ _ HB.out).mono ?_; rintro e w' ⟨rfl, rfl⟩)
    go_ret2
    exact ⟨none, 0, rfl, own2_nil _ _ _, Below.refl _ _⟩
  have HB := hid (show rwB8 t n = true from hB0)
  have hB1 := hB0
  simp only [raB, Bool.and_eq_true] at hB1
  have htb := inB_iff.1 hB1.1
  have hnb := inB_iff.1 hB1.2
  obtain ⟨t, rfl⟩ : ∃ k : Nat, t = k := ⟨t.toNat, by omega⟩
  obtain ⟨m, rfl⟩ : ∃ m : Nat, n = m := ⟨n.toNat, by omega⟩
  have ht : 2 ≤ t ∧ t ≤ 6 := by omega
  have hm : m ≤ 12 := by omega
  have HF := hid (show raF t m = rcN t m by simp [raF, hB0])
  have HST := hid fun k => (show stU t (rcN t k) = rcN t (k + 1) from rfl)
  have HOK := hid fun k (hk : k ≤ 12) => rcN_ok ht k (by omega)
  have HLN := hid fun k (hk : k ≤ 12) => rc_chk t (by omega) ht.1 k (by omega)
  have hp0 := push_lit1 (own_nil w w.heap.size) (Nat.le_refl _)
  have HP0 := hid (show Push (w.alloc (.cells #[.slice none 0 0] 22)) w.heap.size (.slice (some ⟨w.heap.size, 0, none⟩) 1 1) (rcN t 0) (fun _ => none) (fun _ => 0) from hp0)
  have HB0 := hid ((Below.refl _ _).alloc (Nat.le_refl _) _ : Below w.heap.size w (w.alloc (.cells #[.slice none 0 0] 22)))
  clear hB0 hB1 htb hnb hp0
  go_enter Try.func43, Try.ntmps43
  go_wp2_with (go_at_call 87; refine (arList_b _ _ _ _ HB.out).mono ?_; rintro e w' ⟨rfl, rfl⟩)
  go_loopw [6, 7] (fun nv kv wr => ∃ k : Nat, k ≤ m ∧ kv = .int .i64 k ∧ Hid (∃ P C, Push wr w.heap.size nv (rcN t k) P C) ∧ Below w.heap.size w wr) (fun _ kv _ => m - (intOf kv).toNat)
  case atStart => exact ⟨0, Nat.zero_le _, rfl, hid ⟨_, _, HP0.out⟩, HB0.out⟩
  case round =>
    obtain ⟨k, hk, rfl, HPP, hbel⟩ := hrel
    obtain ⟨wo, rfl⟩ : ∃ wo : World, wo = wr := ⟨_, rfl⟩
    by_cases hlt : k < m
    · obtain ⟨P, C, hpush⟩ := HPP.out
      obtain ⟨A, c, rfl⟩ := push_slice hpush
      obtain ⟨hrk, hsr⟩ := HOK.out k (by omega)
      have hSl := HLN.out k (by omega)
      have HNX := hid fun j i (hji : j < (rcN t k).length ∨ i = 0) => nxU_ok ht (k := k) (S := rcN t k) (j := j) (i := i) (by omega) hrk hji
      have HE := hid ((nxU_end t (rcN t k)).trans (HST.out k))
      obtain ⟨S, hS⟩ : ∃ S, S = rcN t k := ⟨_, rfl⟩
      rw [← hS] at hpush hrk hSl HNX HE ⊢
      have HPU := hid hpush
      have HRK := hid hrk
      have HW := hid hbel.size
      have HBL := hid hbel
      clear hrk hsr hpush hS hbel HPP
      go_wp2_with fail
      go_loopw [8, 26] (fun av jv wr => ∃ j : Nat, j ≤ S.length ∧ jv = .int .i64 j ∧ Hid (∃ P C, Push wr wo.heap.size av (nxU t S j 0) P C) ∧ Below wo.heap.size wo wr) (fun _ jv _ => S.length - (intOf jv).toNat)
      case atStart => exact ⟨0, Nat.zero_le _, rfl, hid ⟨_, _, by rw [nxU_zero]; exact push_nil _ _⟩, Below.refl _ _⟩
      case round =>
        obtain ⟨j, hj, rfl, HPN, hb1⟩ := hrel
        by_cases hjl : j < S.length
        · obtain ⟨-, -, -, hc3⟩ := push_cells HPU.out
          have hAg : ∃ g, A = some ⟨g, 0, none⟩ := by
            rcases HPU.out.out.2 with ⟨_, h0⟩ | ⟨g, cap, cur, hv, _⟩
            · omega
            · exact ⟨g, by injection hv⟩
          obtain ⟨g, rfl⟩ := hAg
          have hcr := hc3 _ rfl j _ (RL_get P C S j hjl)
          rw [addr_add0] at hcr
          have hcr2 : wr.cell? ⟨g, j, none⟩ = some (.slice (P j) (S.getD j []).length (C j)) := (hb1.cell (World.block_lt_of_cell? _ _ hcr)).trans hcr
          have HOW := hid (HPU.out.row j hjl)
          have HGD := hid (HRK.out (S.getD j []) (by rw [List.getD_eq_getElem?_getD, List.getElem?_eq_getElem hjl]; exact List.getElem_mem hjl)).1
          have HYES := hid fun i (h : auB (S.getD j []) t (i : Nat) = true) => nxU_yes (t := t) (S := S) (j := j) (i := i) h
          have HNO := hid fun i (h : auB (S.getD j []) t (i : Nat) = false) => nxU_no (t := t) (S := S) (j := j) (i := i) h
          have HROW := hid (nxU_row (t := t) (S := S) hjl)
          have HLE := hid fun i => nxU_len (t := t) S j i hj
          obtain ⟨p, hp⟩ : ∃ p, p = S.getD j [] := ⟨_, rfl⟩
          obtain ⟨Aj, hAj⟩ : ∃ Aj, Aj = P j := ⟨_, rfl⟩
          obtain ⟨Cj, hCj⟩ : ∃ Cj, Cj = C j := ⟨_, rfl⟩
          rw [← hp] at hcr2 HOW HGD HYES HNO
          rw [← hAj, ← hCj] at hcr2 HOW
          have htj : t * j ≤ 480 := Nat.le_trans (Nat.mul_le_mul ht.2 (show j ≤ 80 by omega)) (by omega)
          clear hcr hc3 hp hAj hCj
          go_wp2_with fail
          go_loopw [8, 11] (fun av iv wr => ∃ i : Nat, i ≤ t ∧ iv = .int .i64 i ∧ Hid (∃ P C, Push wr wo.heap.size av (nxU t S j i) P C) ∧ Below wo.heap.size wo wr) (fun _ iv _ => t - (intOf iv).toNat)
          case atStart => exact ⟨0, Nat.zero_le _, rfl, HPN, hb1⟩
          case round =>
            obtain ⟨i, hi, rfl, HPI, hb2⟩ := hrel
            by_cases hit : i < t
            · obtain ⟨P2, C2, hpush2⟩ := HPI.out
              obtain ⟨A2, c2, rfl⟩ := push_slice hpush2
              have HOJ := hid (HOW.out.below hb2)
              have hup := arUp_any Aj Cj p t (i : Int) wr HGD.out ht (own_hno HOJ.out) HOJ.out.cells
              obtain ⟨nrk, nsr, _⟩ := HNX.out j i (.inl hjl)
              have hlen := HLE.out i
              have HRL := hid fun a (ha : a < (nxU t S j i).length) => (nrk ((nxU t S j i).getD a []) (by rw [List.getD_eq_getElem?_getD, List.getElem?_eq_getElem ha]; exact List.getElem_mem ha)).1.len
              have HY := hid (HYES.out i)
              have HN := hid (HNO.out i)
              have HN1 := hid fun (h : auB p t (i : Nat) = true) => (by
                have h1 := (HNX.out j (i + 1) (.inl hjl)).1 (auL p t i) (by rw [HYES.out i h, insU_mem]; exact .inl rfl)
                exact h1.1.len : (auL p t (i : Nat)).length ≤ 30)
              obtain ⟨R, hR⟩ : ∃ R, R = nxU t S j i := ⟨_, rfl⟩
              rw [← hR] at hpush2 hlen HRL HY HN ⊢
              have HP2 := hid hpush2
              have HB2 := hid hb2
              have HS2 := hid hb2.size
              cases hau : auB p t (i : Nat)
              · rw [hau] at hup
                have HUP := hid hup
                have HNE := hid (HN.out hau)
                obtain ⟨q, hq⟩ : ∃ q, q = auL p t (i : Nat) := ⟨_, rfl⟩
                rw [← hq] at HUP
                clear hup hau hq hR hpush2 nrk nsr hb2
                go_wp2_with fail
                refine HUP.out.mono ?_
                rintro e w3 ⟨A3, c3, rfl, o3, b3⟩
                have HB3 := hid (Below.next HB2.out b3)
                have HP3 := hid (HP2.out.below b3)
                clear o3 b3
                go_wp2_with fail
                go_roundw
                case rel => exact ⟨i + 1, by omega, by go_num, hid ⟨_, _, by rw [HNE.out]; exact HP3.out⟩, HB3.out⟩
                case measure => simp [intOf]; omega
              · rw [hau] at hup
                have HUP := hid hup
                have HYE := hid (HY.out hau)
                have hql := HN1.out hau
                obtain ⟨q, hq⟩ : ∃ q, q = auL p t (i : Nat) := ⟨_, rfl⟩
                rw [← hq] at HUP HYE hql
                clear hup hau hq hR hpush2 nrk nsr hb2
                go_wp2_with fail
                refine HUP.out.mono ?_
                rintro e w3 ⟨A3, c3, rfl, o3, b3⟩
                have HB3 := hid (Below.next HB2.out b3)
                have HP3 := hid (HP2.out.below b3)
                have HO3 := hid o3
                have HIN := hid fun b hb => arIn_b A2 A3 c2 c3 R q P2 C2 w3 (by omega) (fun a ha => by have := HRL.out a ha; omega) (by omega) HP3.out o3.cells b hb
                have HB23 := hid b3
                clear o3 b3
                by_cases hin : q ∈ R
                · have HI := hid (HIN.out true (decide_eq_true hin))
                  have HIU := hid (show insU R q = R by unfold insU; rw [if_pos hin])
                  clear hin
                  go_wp2_with fail
                  refine HI.out.mono ?_
                  rintro e w4 ⟨rfl, n4, rfl⟩
                  have HB4 := hid (below_drewN HB3.out n4)
                  have HP4 := hid (show Push (w3.drewN n4) wo.heap.size (.slice A2 R.length c2) R P2 C2 from HP3.out.below (below_drew' w3 n4))
                  go_wp2_with fail
                  go_roundw
                  case rel => exact ⟨i + 1, by omega, by go_num, hid ⟨_, _, by rw [HYE.out, HIU.out]; exact HP4.out⟩, HB4.out⟩
                  case measure => simp [intOf]; omega
                · have HI := hid (HIN.out false (decide_eq_false hin))
                  have HIU := hid (show insU R q = insR R (kC R q) q by unfold insU; rw [if_neg hin]; rfl)
                  clear hin
                  go_wp2_with fail
                  refine HI.out.mono ?_
                  rintro e w4 ⟨rfl, n4, rfl⟩
                  have hb34 := below_drewN HB23.out n4
                  have HPT := hid (chPut_any A2 A3 c2 c3 R q P2 C2 (w3.drewN n4) (by omega) (fun a ha => by have := HRL.out a ha; omega) (by omega) HP2.out hb34 (show Own (w3.drewN n4) wr.heap.size A3 c3 q from HO3.out) HS2.out)
                  have HB4 := hid (below_drewN HB3.out n4)
                  clear hb34
                  go_wp2_with fail
                  refine HPT.out.mono ?_
                  rintro e w5 ⟨v5, P5, C5, rfl, hp5, b5⟩
                  have HP5 := hid hp5
                  have HB5 := hid (Below.next HB4.out b5)
                  clear hp5 b5
                  go_wp2_with fail
                  go_roundw
                  case rel => exact ⟨i + 1, by omega, by go_num, hid ⟨_, _, by rw [HYE.out, HIU.out]; exact HP5.out⟩, HB5.out⟩
                  case measure => simp [intOf]; omega
            · have hie : i = t := by omega
              have h := HPI.out
              rw [hie, HROW.out] at h
              have HPE := hid h
              clear h hie
              go_wp2_with fail
              go_roundw
              case rel => exact ⟨j + 1, by omega, by go_num, HPE, hb2⟩
              case measure => simp [intOf]; omega
        · have hje : j = S.length := by omega
          have h := HPN.out
          rw [hje, HE.out] at h
          have HPE := hid h
          clear h hje
          go_wp2_with fail
          go_roundw
          case rel =>
            obtain ⟨P2, C2, hp2⟩ := HPE.out
            exact ⟨k + 1, by omega, by go_num, hid ⟨P2, C2, push_low hp2 HW.out⟩, HBL.out.trans (hb1.mono HW.out)⟩
          case measure => simp [intOf]; omega
    · have hke : k = m := by omega
      have h := HPP.out
      rw [hke, ← HF.out] at h
      obtain ⟨P, C, hp⟩ := h
      obtain ⟨A', c', rfl, ho⟩ := hp.own2
      have HO := hid ho
      clear hke hp ho
      go_wp2_with fail
      go_ret2
      exact ⟨A', c', rfl, HO.out, hbel⟩
end Go.Proofs.Ythbkonpclflkhaa
/-
  Contract: rows that are sorted are cut to their different ones (slices.CompactFunc with slices.Equal).
-/
namespace Go.Proofs.Ythbkonpclflkhaa
open Go.RowKit

theorem ki_all {L : List (List Int)} : ∀ {k : Nat}, (∀ j, j < k → keB L j = true) → ki L k = List.range k
  | 0, _ => rfl
  | k + 1, h => by rw [ki_yes (h k (by omega)), ki_all fun j hj => h j (by omega), List.range_succ]
theorem kp_all {L : List (List Int)} (h : ∀ j, j < L.length → keB L j = true) : kp L L.length = L := by
  unfold kp
  rw [ki_all h]
  apply List.ext_getElem
  · simp
  · intro i h1 h2
    simp [List.getD, h2]
theorem ki_mono {L : List (List Int)} {m i j : Nat} (hij : i < j) (hj : j < (ki L m).length) : (ki L m).getD i 0 < (ki L m).getD j 0 := by
  have h := List.pairwise_iff_getElem.1 ((List.pairwise_lt_range (n := m)).filter (keB L)) i j (by unfold ki at hj; omega) hj hij
  rw [List.getD_eq_getElem?_getD, List.getD_eq_getElem?_getD, List.getElem?_eq_getElem hj, List.getElem?_eq_getElem (show i < (ki L m).length by omega)]
  exact h
theorem ki_lt {L : List (List Int)} {m j : Nat} (hj : j < (ki L m).length) : (ki L m).getD j 0 < m := by
  rw [List.getD_eq_getElem?_getD, List.getElem?_eq_getElem hj]
  exact List.mem_range.1 (List.mem_filter.1 (List.getElem_mem hj)).1
theorem kp_get {L : List (List Int)} {m j : Nat} (hj : j < (ki L m).length) : (kp L m).getD j [] = L.getD ((ki L m).getD j 0) [] := by
  unfold kp
  rw [List.getD_eq_getElem?_getD, List.getElem?_map, List.getElem?_eq_getElem hj, List.getD_eq_getElem?_getD (l := ki L m), List.getElem?_eq_getElem hj]; rfl
theorem kp_length (L : List (List Int)) (m : Nat) : (kp L m).length = (ki L m).length := by unfold kp; rw [List.length_map]

/-! The cells of the outer row: the row Z j lies at j. -/
def zl (P : Nat → Option Addr) (C : Nat → Nat) (L : List (List Int)) (Z : Nat → Nat) : List Value := (List.range L.length).map fun j => .slice (P (Z j)) (L.getD (Z j) []).length (C (Z j))
theorem zl_get (P : Nat → Option Addr) (C : Nat → Nat) (L : List (List Int)) (Z : Nat → Nat) (j : Nat) (h : j < L.length) : (zl P C L Z)[j]? = some (.slice (P (Z j)) (L.getD (Z j) []).length (C (Z j))) := by simp [zl, h]
theorem zl_set (P : Nat → Option Addr) (C : Nat → Nat) (L : List (List Int)) (Z : Nat → Nat) (k i : Nat) : (zl P C L Z).set k (.slice (P i) (L.getD i []).length (C i)) = zl P C L (setAt Z k i) := by
  apply List.ext_getElem?
  intro j
  rw [List.getElem?_set]
  by_cases hj : j < L.length
  · rw [zl_get _ _ _ (setAt Z k i) j hj]
    by_cases e : k = j
    · subst e
      rw [if_pos rfl, if_pos (by simp [zl]; exact hj), setAt_eq]
    · rw [if_neg e, zl_get _ _ _ Z j hj, setAt_ne Z i (Ne.symm e)]
  · have h1 : (zl P C L Z)[j]? = none := List.getElem?_eq_none (by simp [zl]; omega)
    have h2 : (zl P C L (setAt Z k i))[j]? = none := List.getElem?_eq_none (by simp [zl]; omega)
    rw [h1, h2]
    by_cases e : k = j
    · rw [if_pos e, if_neg (by simp [zl]; omega)]
    · rw [if_neg e]
structure CS (w wr : World) (B g c : Nat) (L : List (List Int)) (P : Nat → Option Addr) (C : Nat → Nat) (Z : Nat → Nat) : Prop where
  out : wr.ownsRow B 22 1 (.slice (some ⟨g, 0, none⟩) L.length c) L.length (zl P C L Z)
  keep : ∀ b, b ≠ g → wr.heap[b]? = w.heap[b]?
  below : ∀ B0 w0, B0 ≤ g → Below B0 w0 w → Below B0 w0 wr
theorem CS.drew {w wr : World} {B g c : Nat} {L : List (List Int)} {P : Nat → Option Addr} {C Z : Nat → Nat} (h : CS w wr B g c L P C Z) (n : Nat) : CS w (wr.drewN n) B g c L P C Z :=
  ⟨h.out, h.keep, fun B0 w0 h1 h2 => below_drewN (h.below B0 w0 h1 h2) n⟩
theorem CS.set {w wr : World} {B g c : Nat} {L : List (List Int)} {P : Nat → Option Addr} {C Z : Nat → Nat} (h : CS w wr B g c L P C Z) (k i : Nat) : CS w (wr.setCell ⟨g, k, none⟩ (.slice (P i) (L.getD i []).length (C i))) B g c L P C (setAt Z k i) := by
  refine ⟨?_, fun b hb => (Below.heap_setCell _ _ _ b hb).trans (h.keep b hb), fun B0 w0 h1 h2 => (h.below B0 w0 h1 h2).setCell h1 _⟩
  have h2 := (World.ownsRow.stored h.out k (.slice (P i) (L.getD i []).length (C i))).1
  rw [zl_set] at h2
  exact h2
theorem CS.get {w wr : World} {B g c : Nat} {L : List (List Int)} {P : Nat → Option Addr} {C Z : Nat → Nat} (h : CS w wr B g c L P C Z) (j : Nat) (hj : j < L.length) : wr.cell? ⟨g, j, none⟩ = some (.slice (P (Z j)) (L.getD (Z j) []).length (C (Z j))) := by
  rw [World.ownsRow.cellAt h.out j (by omega), zl_get _ _ _ _ j hj]
theorem CS.froz {w wr : World} {B g c : Nat} {L : List (List Int)} {P : Nat → Option Addr} {C Z : Nat → Nat} (h : CS w wr B g c L P C Z) (j : Nat) : wr.frozen? ⟨g, j, none⟩ = false := World.ownsRow.frozenAt h.out j
theorem CS.row {w wr : World} {B g c : Nat} {L : List (List Int)} {P : Nat → Option Addr} {C Z : Nat → Nat} (h : CS w wr B g c L P C Z) (hp : Push w B (.slice (some ⟨g, 0, none⟩) L.length c) L P C) (j : Nat) (hj : j < L.length) : Own wr B (P j) (C j) (L.getD j []) :=
  (hp.row j hj).keep fun b hb _ => h.keep b fun e => row_ne' hp.out (hp.row j hj) b hb (by rw [e]; rfl)
theorem ownsRow_wiped {B e g n c : Nat} : ∀ (vs : List Value) (o : Nat) (w : World) (xs : List Value), w.ownsRow B e 1 (.slice (some ⟨g, 0, none⟩) n c) n xs → ∃ ys, (w.setCells g o vs).ownsRow B e 1 (.slice (some ⟨g, 0, none⟩) n c) n ys ∧ ∀ j, j < o → ys[j]? = xs[j]?
  | [], _, _, xs, h => ⟨xs, h, fun _ _ => rfl⟩
  | v :: r, o, w, xs, h => by
    obtain ⟨ys, h1, h2⟩ := ownsRow_wiped r (o + 1) _ _ (World.ownsRow.stored h o v).1
    refine ⟨ys, h1, fun j hj => ?_⟩
    rw [h2 j (by omega), List.getElem?_set, if_neg (by omega)]
theorem wiped_other (g b : Nat) (hne : b ≠ g) : ∀ (vs : List Value) (o : Nat) (w : World), (w.setCells g o vs).heap[b]? = w.heap[b]?
  | [], _, _ => rfl
  | v :: r, o, w => by rw [World.setCells, wiped_other g b hne r]; exact Below.heap_setCell _ _ _ b hne
theorem wiped_below (g : Nat) : ∀ (vs : List Value) (o : Nat) (w W : World) (m : Nat), Below m w W → m ≤ g → Below m w (W.setCells g o vs)
  | [], _, _, _, _, h, _ => h
  | _ :: r, o, w, _, m, h, hg => wiped_below g r (o + 1) w _ m (h.setCell hg _) hg
theorem ownsRow_front {w : World} {B e g n c : Nat} {xs : List Value} (h : w.ownsRow B e 1 (.slice (some ⟨g, 0, none⟩) n c) n xs) (k : Nat) (hk : k ≤ n) : w.ownsRow B e 1 (.slice (some ⟨g, 0, none⟩) k c) k (xs.take k) := by
  have hl := h.1
  refine ⟨by rw [List.length_take]; omega, ?_⟩
  rcases h.2 with ⟨hv, _⟩ | ⟨g', cap, cur, hv, hB, hh, hn, hmx, hcs, htk⟩
  · simp at hv
  · have e1 : c = cap := by injection hv
    have e2 : g = g' := by injection hv with h1; injection h1 with h1; injection h1
    subst e1 e2
    refine .inr ⟨g, c, cur, rfl, hB, hh, by omega, hmx, hcs, ?_⟩
    rw [← htk, List.take_take]
    congr 1
    omega
/-- What is left behind the cut. -/
theorem CS.done {w wr : World} {B g c : Nat} {L : List (List Int)} {P : Nat → Option Addr} {C Z : Nat → Nat} (h : CS w wr B g c L P C Z) (hp : Push w B (.slice (some ⟨g, 0, none⟩) L.length c) L P C) {K : Nat} (hK : K = (ki L L.length).length) (hZ : ∀ j, j < K → Z j = (ki L L.length).getD j 0) (vs : List Value) :
    Push (wr.setCells g K vs) B (.slice (some ⟨g, 0, none⟩) K c) (kp L L.length) (fun j => P ((ki L L.length).getD j 0)) (fun j => C ((ki L L.length).getD j 0)) := by
  have hKl : K ≤ L.length := by rw [hK]; exact ki_len _ _
  obtain ⟨ys, h1, h2⟩ := ownsRow_wiped vs K wr _ h.out
  have h3 := ownsRow_front h1 K hKl
  refine ⟨?_, fun j hj => ?_, fun i j hij hj b hb => ?_⟩
  · rw [kp_length, ← hK]
    have e : RL (fun j => P ((ki L L.length).getD j 0)) (fun j => C ((ki L L.length).getD j 0)) (kp L L.length) = ys.take K := by
      apply List.ext_getElem?
      intro j
      by_cases hj : j < K
      · rw [RL_get _ _ _ j (by rw [kp_length]; omega), List.getElem?_take, if_pos hj, h2 j hj, zl_get _ _ _ _ j (by omega), hZ j hj, kp_get (by omega)]
      · rw [List.getElem?_eq_none (by rw [RL_len, kp_length]; omega), List.getElem?_take, if_neg hj]
    rw [e]
    exact h3
  · rw [kp_length] at hj
    rw [kp_get hj]
    have hlt := ki_lt hj
    refine (hp.row _ hlt).keep fun b hb _ => ?_
    have hne : b ≠ g := fun e => row_ne' hp.out (hp.row _ hlt) b hb (by rw [e]; rfl)
    exact (wiped_other g b hne vs K wr).trans (h.keep b hne)
  · rw [kp_length] at hj
    exact hp.apart _ _ (ki_mono hij hj) (ki_lt hj) b hb

theorem keB_no {L : List (List Int)} {m : Nat} (hm : 1 ≤ m) (h : L.getD m [] = L.getD (m - 1) []) : keB L m = false := by
  unfold keB
  rw [decide_eq_false (show ¬ m = 0 by omega), decide_eq_false (fun hh => hh h)]; rfl
theorem keB_yes {L : List (List Int)} {m : Nat} (h : ¬ L.getD m [] = L.getD (m - 1) []) : keB L m = true := by
  unfold keB
  rw [decide_eq_true (p := ¬ L.getD m [] = L.getD (m - 1) []) h, Bool.or_true]
theorem zeroInts (w : World) : (zeroValue 22).run Try.prog w = .ok (.slice none 0 0) w := by kernel_rfl

set_option maxRecDepth 100000 in
set_option maxHeartbeats 4000000 in
theorem compact_any (w : World) (B g c : Nat) (L : List (List Int)) (P : Nat → Option Addr) (C : Nat → Nat) (hl : L.length ≤ 100000) (hr : ∀ j, j < L.length → (L.getD j []).length ≤ 1048576) (hp : Push w B (.slice (some ⟨g, 0, none⟩) L.length c) L P C) :
    Calls Try.prog 150 #[.slice (some ⟨g, 0, none⟩) L.length c, .func (.func 151) #[] #[]] w fun e w' => ∃ v P' C', e = .returned v ∧ Push w' B v (kp L L.length) P' C' ∧ ∀ B0 w0, B0 ≤ g → Below B0 w0 w → Below B0 w0 w' := by
  have hcap := (push_cells hp).2.1
  have h0 : CS w w B g c L P C id := ⟨hp.out, fun _ _ => rfl, fun _ _ _ h => h⟩
  have HP := hid hp
  have HR := hid hr
  have HALL := hid (kp_all (L := L))
  have H0 := hid h0
  clear hp hr h0
  by_cases h2 : L.length < 2
  · have HK := hid (HALL.out fun j hj => by
      have : j = 0 := by omega
      subst this; rfl)
    go_enter Try.func150, Try.ntmps150
    go_wp2_with fail
    go_ret
    exact ⟨_, P, C, rfl, by rw [HK.out]; exact HP.out, fun _ _ _ h => h⟩
  go_enter Try.func150, Try.ntmps150
  go_wp2_with fail
  go_loopw [5] (fun kv wr => ∃ k q : Nat, 1 ≤ k ∧ k ≤ L.length ∧ kv = .int .i64 k ∧ Hid (∀ j, j < k → keB L j = true) ∧ wr = w.drewN q) (fun kv _ => L.length - (intOf kv).toNat)
  case atStart => exact ⟨1, 0, Nat.le_refl _, by omega, rfl, hid fun j hj => by rw [show j = 0 by omega]; rfl, rfl⟩
  case round =>
    obtain ⟨k, q, hk1, hk, rfl, HA, hwq⟩ := hrel
    by_cases hlt : k < L.length
    · have hcs : CS w wr B g c L P C id := by rw [hwq]; exact H0.out.drew q
      have hck := hcs.get k hlt
      have hck1 := hcs.get (k - 1) (by omega)
      have hkt : ((k : Int) - 1).toNat = k - 1 := by omega
      have HQ := hid fun n b h => equal_b (P k) (P (k - 1)) (C k) (C (k - 1)) (L.getD k []) (L.getD (k - 1) []) (wr.drewN n) (HR.out k hlt) (HR.out (k - 1) (by omega)) (hcs.drew n |>.row HP.out k hlt).cells (hcs.drew n |>.row HP.out (k - 1) (by omega)).cells b h
      have HNO := hid (keB_no (L := L) hk1)
      have HYE := hid (keB_yes (L := L) (m := k))
      simp only [id] at hck hck1
      obtain ⟨x, hx⟩ : ∃ x, x = L.getD k [] := ⟨_, rfl⟩
      obtain ⟨y, hy⟩ : ∃ y, y = L.getD (k - 1) [] := ⟨_, rfl⟩
      rw [← hx] at hck HQ HNO HYE
      rw [← hy] at hck1 HQ HNO HYE
      have HCS := hid hcs
      have HWQ := hid hwq
      clear hx hy hwq hcs
      by_cases hxy : x = y
      · have HQT := hid fun n => HQ.out n true (decide_eq_true hxy)
        have HKN := hid (HNO.out hxy)
        clear hxy
        go_wp2_with fail
        go_quiet ((go_at_call 151; exact Calls.quiet_of (HQT.out _)))
        have hcut0 := fun W => run_cut_lo (some ⟨g, 0, none⟩) L.length c k (by omega) W
        rw [cutA_some (show k < c by omega)] at hcut0
        have hadd : (⟨g, 0, none⟩ : Addr).add k = ⟨g, k, none⟩ := addr_add0 g k
        rw [hadd] at hcut0
        obtain ⟨wd, hwd⟩ : ∃ wd, wd = wr.drewN nq := ⟨_, rfl⟩
        have HCD := hid (show CS w wd B g c L P C id by rw [hwd]; exact HCS.out.drew nq)
        rw [← hwd]
        have HKA := hid (show ki L (k + 1) = List.range k by rw [ki_no HKN.out, ki_all HA.out])
        clear hwd hadd hck hck1
        go_wp2_with fail
        go_loopw [5, 7] (fun kv jv wr => ∃ (kk k2 : Nat) (Z : Nat → Nat), 1 ≤ k2 ∧ k + k2 ≤ L.length ∧ kk + 1 ≤ k + k2 ∧ kv = .int .i64 kk ∧ jv = .int .i64 k2 ∧ Hid (CS w wr B g c L P C Z) ∧ Hid (kk = (ki L (k + k2)).length) ∧ Hid (∀ j, j < kk → Z j = (ki L (k + k2)).getD j 0) ∧ Hid (∀ j, k + k2 - 1 ≤ j → Z j = j)) (fun _ jv _ => L.length - (intOf jv).toNat)
        case atStart => exact ⟨k, 1, id, Nat.le_refl _, by omega, Nat.le_refl _, rfl, rfl, HCD, hid (by rw [HKA.out, List.length_range]), hid (fun j hj => by rw [HKA.out]; simp [List.getD, hj]), hid (fun _ _ => rfl)⟩
        case round =>
          obtain ⟨kk, k2, Z, hk2, hkl, hkk, rfl, rfl, HC2, HK2, HZ1, HZ2⟩ := hrel
          obtain ⟨wi, rfl⟩ : ∃ wi : World, wi = wr := ⟨_, rfl⟩
          by_cases hlt2 : k + k2 < L.length
          · obtain ⟨m, hm⟩ : ∃ m, m = k + k2 := ⟨_, rfl⟩
            have hcm := HC2.out.get m (by omega)
            have hcp := HC2.out.get (m - 1) (by omega)
            rw [HZ2.out m (by omega)] at hcm
            rw [HZ2.out (m - 1) (by omega)] at hcp
            have hfk := HC2.out.froz kk
            have hck2 := HC2.out.get kk (by omega)
            have hst := HC2.out.set kk m
            have HQ2 := hid fun n b h => equal_b (P m) (P (m - 1)) (C m) (C (m - 1)) (L.getD m []) (L.getD (m - 1) []) (wi.drewN n) (HR.out m (by omega)) (HR.out (m - 1) (by omega)) (HC2.out.drew n |>.row HP.out m (by omega)).cells (HC2.out.drew n |>.row HP.out (m - 1) (by omega)).cells b h
            have HSD := hid fun n => ((HC2.out.drew n).set kk m)
            have HNO2 := hid (keB_no (L := L) (show 1 ≤ m by omega))
            have HYE2 := hid (keB_yes (L := L) (m := m))
            obtain ⟨u, hu⟩ : ∃ u, u = L.getD m [] := ⟨_, rfl⟩
            obtain ⟨v, hv⟩ : ∃ v, v = L.getD (m - 1) [] := ⟨_, rfl⟩
            obtain ⟨old, ho⟩ : ∃ old, old = Value.slice (P (Z kk)) (L.getD (Z kk) []).length (C (Z kk)) := ⟨_, rfl⟩
            rw [← ho] at hck2
            rw [← hu] at hcm HQ2 HNO2 HYE2 hst HSD
            rw [← hv] at hcp HQ2 HNO2 HYE2
            obtain ⟨Pm, hPm⟩ : ∃ a, a = P m := ⟨_, rfl⟩
            obtain ⟨Cm, hCm⟩ : ∃ a, a = C m := ⟨_, rfl⟩
            obtain ⟨Pp, hPp⟩ : ∃ a, a = P (m - 1) := ⟨_, rfl⟩
            obtain ⟨Cp, hCp⟩ : ∃ a, a = C (m - 1) := ⟨_, rfl⟩
            rw [← hPm, ← hCm] at hcm HQ2 HSD
            rw [← hPp, ← hCp] at hcp HQ2
            rw [hm] at hcm
            rw [show m - 1 = k + (k2 - 1) by omega] at hcp
            have HM := hid hm
            have hk2t : ((k2 : Int) - 1).toNat = k2 - 1 := by omega
            have hkm : kk < m := by omega
            have hml : m < L.length := by omega
            clear hu hv ho hPm hCm hPp hCp hm hst
            by_cases huv : u = v
            · have HQT2 := hid fun n => HQ2.out n true (decide_eq_true huv)
              have HKE := hid (HNO2.out huv)
              clear huv
              go_wp2_with fail
              go_quiet ((go_at_call 151; exact Calls.quiet_of (HQT2.out _)))
              go_wp2_with fail
              go_roundw
              case rel =>
                refine ⟨kk, k2 + 1, Z, by omega, by omega, by omega, rfl, by go_num, hid (HC2.out.drew _), hid ?_, hid ?_, hid ?_⟩
                · rw [show k + (k2 + 1) = k + k2 + 1 by omega, ← HM.out, ki_no HKE.out, HM.out]; exact HK2.out
                · rw [show k + (k2 + 1) = k + k2 + 1 by omega, ← HM.out, ki_no HKE.out, HM.out]; exact HZ1.out
                · exact fun j hj => HZ2.out j (by omega)
              case measure => simp [intOf]; omega
            · have HQT2 := hid fun n => HQ2.out n false (decide_eq_false huv)
              have HKE := hid (HYE2.out huv)
              clear huv
              have hkkl : (kk : Int) < (L.length : Int) := by omega
              go_wp2_with fail
              go_quiet ((go_at_call 151; exact Calls.quiet_of (HQT2.out _)))
              have HSE := hid (HSD.out nq)
              obtain ⟨wd2, hwd2⟩ : ∃ wd, wd = wi.drewN nq := ⟨_, rfl⟩
              rw [← hwd2] at HSE ⊢
              have hcm3 : wd2.cell? ⟨g, k + k2, none⟩ = some (.slice Pm u.length Cm) := by rw [hwd2]; exact hcm
              have hck3 : wd2.cell? ⟨g, kk, none⟩ = some old := by rw [hwd2]; exact hck2
              have hfk3 : wd2.frozen? ⟨g, kk, none⟩ = false := by rw [hwd2]; exact hfk
              clear hwd2 hcm hcp hck2 hfk
              go_wp2_with fail
              go_roundw
              case rel =>
                refine ⟨kk + 1, k2 + 1, setAt Z kk m, by omega, by omega, by omega, by go_num, by go_num, HSE, hid ?_, hid ?_, hid ?_⟩
                · rw [show k + (k2 + 1) = k + k2 + 1 by omega, ← HM.out, ki_yes HKE.out, List.length_append, List.length_singleton, HM.out, ← HK2.out]
                · intro j hj
                  have hl2 := HK2.out
                  rw [← HM.out] at hl2
                  rw [show k + (k2 + 1) = k + k2 + 1 by omega, ← HM.out, ki_yes HKE.out]
                  by_cases e : j = kk
                  · subst e
                    rw [setAt_eq, hl2, List.getD_eq_getElem?_getD, List.getElem?_append_right (Nat.le_refl _)]
                    simp
                  · rw [setAt_ne Z m e, HZ1.out j (by omega), ← HM.out, List.getD_eq_getElem?_getD, List.getD_eq_getElem?_getD, List.getElem?_append_left (by omega)]
                · intro j hj
                  rw [setAt_ne Z m (by omega)]
                  exact HZ2.out j (by omega)
              case measure => simp [intOf]; omega
          · have hend : k + k2 = L.length := by omega
            have hK := HK2.out
            rw [hend] at hK
            have hZ := HZ1.out
            rw [hend] at hZ
            have HDN := hid (HC2.out.done HP.out hK hZ (List.replicate (L.length - kk) (.slice none 0 0)))
            have hcl : ∀ ty, (Builtin.clear_ #[38] ty #[.slice (some ⟨g, kk, none⟩) (L.length - kk) (c - kk)]).run Try.prog wi = .ok (.tuple #[]) (wi.setCells g kk (List.replicate (L.length - kk) (.slice none 0 0))) :=
              fun ty => Lib.run_clear_slice wi 38 22 ty (.slice none 0 0) Try.underlying38 zeroInts rfl rfl g kk (L.length - kk) (c - kk) (by omega) (fun j hj => by rw [HC2.out.get (kk + j) (by omega)]; rfl) (fun j _ => HC2.out.froz (kk + j))
            have hcut1 := fun W => run_cut_lo (some ⟨g, 0, none⟩) L.length c kk (by omega) W
            rw [cutA_some (show kk < c by omega)] at hcut1
            have hadd : (⟨g, 0, none⟩ : Addr).add kk = ⟨g, kk, none⟩ := addr_add0 g kk
            rw [hadd] at hcut1
            have hcut2 := fun W => run_cut_hi (some ⟨g, 0, none⟩) L.length c kk (by omega) W
            clear hend hK hZ hadd hcut0
            go_wp2_with fail
            go_ret
            exact ⟨_, _, _, rfl, HDN.out, fun B0 w0 h1 h2 => wiped_below g _ _ _ _ _ (HC2.out.below B0 w0 h1 h2) h1⟩
      · have HQF := hid fun n => HQ.out n false (decide_eq_false hxy)
        have HKY := hid (HYE.out hxy)
        clear hxy
        go_wp2_with fail
        go_quiet ((go_at_call 151; exact Calls.quiet_of (HQF.out _)))
        go_wp2_with fail
        go_roundw
        case rel => exact ⟨k + 1, q + nq, by omega, by omega, by go_num, hid fun j hj => by
          by_cases e : j = k
          · rw [e]; exact HKY.out
          · exact HA.out j (by omega), by rw [HWQ.out, World.drewN_drewN]⟩
        case measure => simp [intOf]; omega
    · have hke : k = L.length := by omega
      subst hwq
      have HK := hid (HALL.out fun j hj => HA.out j (by omega))
      clear hke
      go_wp2_with fail
      go_ret
      exact ⟨_, P, C, rfl, by rw [HK.out]; exact HP.out.below (below_drew' w q), fun B0 w0 h1 h2 => below_drewN h2 q⟩
end Go.Proofs.Ythbkonpclflkhaa
