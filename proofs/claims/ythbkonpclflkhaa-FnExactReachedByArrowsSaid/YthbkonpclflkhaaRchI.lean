/-
  Contracts: ReachedByArrows of the program.
-/
import Derived.Test.YthbkonpclflkhaaR34
import Derived.Test.YthbkonpclflkhaaR35
import Derived.Test.YthbkonpclflkhaaCW
namespace Go.Proofs.Ythbkonpclflkhaa
open Go.RowKit

theorem push_some {w : World} {B : Nat} {v : Value} {rows : List (List Int)} {P : Nat → Option Addr} {C : Nat → Nat} (h : Push w B v rows P C) (h0 : 0 < rows.length) : ∃ g c, v = .slice (some ⟨g, 0, none⟩) rows.length c ∧ B ≤ g := by
  rcases h.out.2 with ⟨_, h1⟩ | ⟨g, cap, cur, hv, hb, _⟩
  · omega
  · exact ⟨g, cap, hv, hb⟩

set_option maxRecDepth 100000 in
set_option maxHeartbeats 8000000 in
theorem allArrowsUp_any {B : Nat} (A : Option Addr) (c : Nat) (S : List (List Int)) (P : Nat → Option Addr) (C : Nat → Nat) (t k : Nat) (w : World) (ht : 2 ≤ t ∧ t ≤ 6) (hk : k ≤ 29) (hS : S.length ≤ 80) (hrk : Rk k S) (hne : 0 < (stU t S).length) (hp : Push w B (.slice A S.length c) S P C) :
    Calls Try.prog 93 #[.slice A S.length c, .int .i64 t] w fun e w' => ∃ v P' C', e = .returned v ∧ Push w' w.heap.size v (stU t S) P' C' ∧ Below w.heap.size w w' := by
  obtain ⟨i1, hj, hy0, hy1, hy2⟩ := info_parts Try.infoInts
  have HUP := hid fun (p : List Int) (hpm : p ∈ S) A c W (i : Nat) (hno : A = none → p.length = 0 ∧ c = 0) (h : Cells W A p) => (by
    obtain ⟨g, s⟩ := hrk p hpm
    have h1 := impl_ArrowUpC A c p t i W (by have := g.len; omega) hno h
    obtain ⟨e1, e2, _⟩ := up_eq g (by omega) ht (i : Int)
    rw [e1, e2] at h1
    exact h1 : Calls Try.prog 29 #[.slice A p.length c, .int .i64 t, .int .i64 i] W fun e w' => ∃ A' c', e = .returned (.tuple #[.slice A' (auL p t i).length c', .bool (auB p t i)]) ∧ Own w' W.heap.size A' c' (auL p t i) ∧ Below W.heap.size W w')
  have HLE := hid fun j i (h : j ≤ S.length) => allU_len (t := t) S j i h
  have hex : ∃ U, U = allU t S S.length 0 := ⟨_, rfl⟩
  obtain ⟨U, hU⟩ := hex
  have hokU : Rk (k + 1) U := by rw [hU]; exact allU_ok ht hk hrk (.inr rfl)
  obtain ⟨hperm, hsort⟩ := sort_ex (R := []) hokU (fun r hr => absurd hr (by simp)) List.Pairwise.nil
  rw [List.append_nil] at hperm
  obtain ⟨L, hL⟩ : ∃ L, L = U.foldl insC [] := ⟨_, rfl⟩
  rw [← hL] at hperm hsort
  have hkp := kp_eq ht hk hrk (by rw [← hU]; exact hperm.symm) hsort
  have hUpos : 0 < U.length := by
    rw [← hkp, kp_length] at hne
    have := ki_len L L.length
    have := hperm.length_eq
    omega
  have hUl : U.length ≤ 480 := by
    rw [hU]
    have := allU_len (t := t) S S.length 0 (Nat.le_refl _)
    have := Nat.mul_le_mul ht.2 hS
    omega
  have hUg : ∀ r ∈ U, good r = true := fun r hr => (good_iff r).2 (hokU r hr).1
  have hLr : ∀ j, j < L.length → (L.getD j []).length ≤ 1048576 := fun j hj => by
    have hm : L.getD j [] ∈ L := by rw [List.getD_eq_getElem?_getD, List.getElem?_eq_getElem hj]; exact List.getElem_mem hj
    have := (hokU _ (hperm.mem_iff.1 hm)).1.len
    omega
  have HSO := hid fun W B2 g c P2 C2 (h : Push W B2 (.slice (some ⟨g, 0, none⟩) U.length c) U P2 C2) => sortGreat_any W B2 g c U P2 C2 hUg (by omega) h L hperm.symm hsort
  have HCO := hid fun W B2 g c P2 C2 (h : Push W B2 (.slice (some ⟨g, 0, none⟩) L.length c) L P2 C2) => compact_any W B2 g c L P2 C2 (by have := hperm.length_eq; omega) hLr h
  rw [hperm.length_eq] at HCO hkp
  have HKP := hid hkp
  have HUE := hid hU
  have HUP0 := hid hUpos
  have HP := hid hp
  have HROWS := hid fun j (h : j < S.length) => allU_row (t := t) (S := S) h
  clear hkp hU hUpos hUg hLr hokU hperm hsort hL hp hrk hne
  go_enter Try.func93, Try.ntmps93
  go_wp2_with fail
  go_loopw [5, 13] (fun av jv wr => ∃ j : Nat, j ≤ S.length ∧ jv = .int .i64 j ∧ Hid (∃ P C, Push wr w.heap.size av (allU t S j 0) P C) ∧ Below w.heap.size w wr) (fun _ jv _ => S.length - (intOf jv).toNat)
  case atStart => exact ⟨0, Nat.zero_le _, rfl, hid ⟨_, _, by rw [allU_zero]; exact push_nil _ _⟩, Below.refl _ _⟩
  case round =>
    obtain ⟨j, hj2, rfl, HPN, hb1⟩ := hrel
    by_cases hjl : j < S.length
    · obtain ⟨-, -, -, hc3⟩ := push_cells HP.out
      have hAg : ∃ g, A = some ⟨g, 0, none⟩ := by
        rcases HP.out.out.2 with ⟨_, h0⟩ | ⟨g, cap, cur, hv, _⟩
        · omega
        · exact ⟨g, by injection hv⟩
      obtain ⟨g, rfl⟩ := hAg
      have hcr := hc3 _ rfl j _ (RL_get P C S j hjl)
      rw [addr_add0] at hcr
      have hcr2 : wr.cell? ⟨g, j, none⟩ = some (.slice (P j) (S.getD j []).length (C j)) := (hb1.cell (World.block_lt_of_cell? _ _ hcr)).trans hcr
      have HOW := hid (HP.out.row j hjl)
      have HCA := hid fun A c W i h1 h2 => HUP.out (S.getD j []) (by rw [List.getD_eq_getElem?_getD, List.getElem?_eq_getElem hjl]; exact List.getElem_mem hjl) A c W i h1 h2
      have HYES := hid fun i (h : auB (S.getD j []) t (i : Nat) = true) => (by unfold allU; rw [upsT_yes h, List.append_assoc] : allU t S j (i + 1) = allU t S j i ++ [auL (S.getD j []) t (i : Nat)])
      have HNO := hid fun i (h : auB (S.getD j []) t (i : Nat) = false) => (by unfold allU; rw [upsT_no h] : allU t S j (i + 1) = allU t S j i)
      have HLI := hid fun i => HLE.out j i hj2
      obtain ⟨p, hp⟩ : ∃ p, p = S.getD j [] := ⟨_, rfl⟩
      obtain ⟨Aj, hAj⟩ : ∃ Aj, Aj = P j := ⟨_, rfl⟩
      obtain ⟨Cj, hCj⟩ : ∃ Cj, Cj = C j := ⟨_, rfl⟩
      rw [← hp] at hcr2 HOW HCA HYES HNO
      rw [← hAj, ← hCj] at hcr2 HOW
      have htj : t * j ≤ 480 := Nat.le_trans (Nat.mul_le_mul ht.2 (show j ≤ 80 by omega)) (by omega)
      clear hcr hc3 hp hAj hCj
      go_wp2_with fail
      go_loopw [5, 18] (fun av iv wr => ∃ i : Nat, i ≤ t ∧ iv = .int .i64 i ∧ Hid (∃ P C, Push wr w.heap.size av (allU t S j i) P C) ∧ Below w.heap.size w wr) (fun _ iv _ => t - (intOf iv).toNat)
      case atStart => exact ⟨0, Nat.zero_le _, rfl, HPN, hb1⟩
      case round =>
        obtain ⟨i, hi, rfl, HPI, hb2⟩ := hrel
        by_cases hit : i < t
        · obtain ⟨P2, C2, hpush2⟩ := HPI.out
          have HOJ := hid (HOW.out.below hb2)
          have hup := HCA.out Aj Cj wr i (own_hno HOJ.out) HOJ.out.cells
          have hlen2 := HLI.out i
          have HY := hid (HYES.out i)
          have HN := hid (HNO.out i)
          obtain ⟨R, hR⟩ : ∃ R, R = allU t S j i := ⟨_, rfl⟩
          rw [← hR] at hpush2 hlen2 HY HN
          have HP2 := hid hpush2
          have HB2 := hid hb2
          have HS2 := hid hb2.size
          cases hau : auB p t (i : Nat)
          · rw [hau] at hup
            have HUPC := hid hup
            have HNE := hid (HN.out hau)
            obtain ⟨q, hq⟩ : ∃ q, q = auL p t (i : Nat) := ⟨_, rfl⟩
            rw [← hq] at HUPC
            clear hup hau hq hR hpush2 hb2
            go_wp2_with fail
            refine HUPC.out.mono ?_
            rintro e w3 ⟨A3, c3, rfl, o3, b3⟩
            have HB3 := hid (Below.next HB2.out b3)
            have HP3 := hid (HP2.out.below b3)
            clear o3 b3
            go_wp2_with fail
            go_roundw
            case rel => exact ⟨i + 1, by omega, by go_num, hid ⟨_, _, by rw [HNE.out]; exact HP3.out⟩, HB3.out⟩
            case measure => simp [intOf]; omega
          · rw [hau] at hup
            have HUPC := hid hup
            have HYE := hid (HY.out hau)
            obtain ⟨q, hq⟩ : ∃ q, q = auL p t (i : Nat) := ⟨_, rfl⟩
            rw [← hq] at HUPC HYE
            clear hup hau hq hR hpush2 hb2
            go_wp2_with fail
            refine HUPC.out.mono ?_
            rintro e w3 ⟨A3, c3, rfl, o3, b3⟩
            have HB3 := hid (Below.next HB2.out b3)
            have HP3 := hid (HP2.out.below b3)
            have HO3 := hid o3
            have HB23 := hid b3
            have hsz3 := HB3.out.size
            clear o3 b3
            go_wp2_with (at_builtin; refine wpList_append_own_at _ rfl _ _ 38 rfl w.heap.size 22 i1 (.slice none 0 0) 1 24 Try.underlying38 hj hy0 hy1 hy2 rfl (by decide) _ _ _ rfl (HP3.out.out.alloc _) ⟨w3.heap.size, 0, none⟩ 1 1 [.slice A3 q.length c3] rfl rfl one_at (one_cellS _ _ _) (by unfold maxLen; omega) (by omega) (by simp; omega) ?_)
            intro v4 w4 hown4 hgrow4 _ _
            have hp4 := HP2.out.push HB23.out HO3.out HS2.out hown4 hgrow4
            have hb4 : Below w.heap.size w w4 := (HB3.out.alloc hsz3 _).grown hgrow4 (by simp; omega) (fun q hq => (HP2.out.out.lt q hq).1)
            have HP4 := hid hp4
            have HB4 := hid hb4
            clear hown4 hgrow4 hp4 hb4
            go_wp2_with fail
            go_roundw
            case rel => exact ⟨i + 1, by omega, by go_num, hid ⟨_, _, by rw [HYE.out]; exact HP4.out⟩, HB4.out⟩
            case measure => simp [intOf]; omega
        · have hie : i = t := by omega
          have h := HPI.out
          rw [hie, HROWS.out j hjl] at h
          have HPE := hid h
          clear h hie
          go_wp2_with fail
          go_roundw
          case rel => exact ⟨j + 1, by omega, by go_num, HPE, hb2⟩
          case measure => simp [intOf]; omega
    · have hje : j = S.length := by omega
      have h := HPN.out
      rw [hje, ← HUE.out] at h
      obtain ⟨P2, C2, hp2⟩ := h
      obtain ⟨g2, c2, rfl, hBg⟩ := push_some hp2 HUP0.out
      have hso := HSO.out wr w.heap.size g2 c2 P2 C2 hp2
      have hcap := (push_cells hp2).2.1
      have HS := hid hso
      have HB1 := hid hb1
      clear hp2 hje hso hb1
      go_wp2_with fail
      refine HS.out.mono ?_
      rintro e w5 ⟨rfl, P5, C5, hp5, _, hb5⟩
      have HCM := hid (HCO.out w5 w.heap.size g2 c2 P5 C5 hp5)
      have HB5 := hid (hb5 w.heap.size w hBg HB1.out)
      have HZ5 := hid (hb5 g2 wr (Nat.le_refl _))
      clear hp5 hb5
      go_wp2_with fail
      refine HCM.out.mono ?_
      rintro e w6 ⟨v6, P6, C6, rfl, hp6, hb6⟩
      rw [HKP.out] at hp6
      have HP6 := hid hp6
      have HB6 := hid (hb6 w.heap.size w hBg HB5.out)
      clear hp6 hb6 HZ5
      go_wp2_with fail
      go_ret
      exact ⟨_, _, _, rfl, HP6.out, HB6.out⟩

set_option maxRecDepth 100000 in
set_option maxHeartbeats 4000000 in
theorem impl_ReachedByArrows (t n : Int) (w : World) (_ : I64 t) (_ : I64 n) :
    Calls Try.prog 44 #[.int .i64 t, .int .i64 n] w fun e w' => ∃ A' c', e = .returned (.tuple #[.slice A' (raF t n).length c', .bool (raB t n)]) ∧ Own2 w' w.heap.size w'.heap.size A' c' (raF t n) ∧ Below w.heap.size w w' := by
  cases ht : inB 2 6 t
  · rw [show raF t n = [] by simp [raF, raB, ht], show raB t n = false by simp [raB, ht]]
    have HT := hid ht
    clear ht
    go_enter Try.func44, Try.ntmps44
    go_wp2_with (go_at_call 85; refine (hasRunners_b _ _ _ HT.out).mono ?_; rintro e w' ⟨rfl, rfl⟩)
    go_ret2
    exact ⟨none, 0, rfl, own2_nil _ _ _, Below.refl _ _⟩
  cases hn : inB 0 12 n
  · rw [show raF t n = [] by simp [raF, raB, hn], show raB t n = false by simp [raB, hn]]
    have HT := hid ht
    have HN := hid hn
    clear ht hn
    go_enter Try.func44, Try.ntmps44
    go_wp2_with (first | (go_at_call 85; refine (hasRunners_b _ _ _ HT.out).mono ?_; rintro e w' ⟨rfl, rfl⟩) | (go_at_call 89; refine (isReached_b _ _ _ HN.out).mono ?_; rintro e w' ⟨rfl, rfl⟩))
    go_ret2
    exact ⟨none, 0, rfl, own2_nil _ _ _, Below.refl _ _⟩
  have HT := hid ht
  have HN0 := hid hn
  have hB : raB t n = true := by simp [raB, ht, hn]
  have htb := inB_iff.1 ht
  have hnb := inB_iff.1 hn
  obtain ⟨t, rfl⟩ : ∃ k : Nat, t = k := ⟨t.toNat, by omega⟩
  obtain ⟨m, rfl⟩ : ∃ m : Nat, n = m := ⟨n.toNat, by omega⟩
  have ht6 : 2 ≤ t ∧ t ≤ 6 := by omega
  have hm : m ≤ 12 := by omega
  rw [hB]
  have HF := hid (show raF t m = rcN t m by simp [raF, hB])
  have HST := hid fun k => (show stU t (rcN t k) = rcN t (k + 1) from rfl)
  have HOK := hid fun k (hk : k ≤ 12) => rcN_ok ht6 k (by omega)
  have HLN := hid fun k (hk : k ≤ 12) => rc_both t (by omega) ht6.1 k (by omega)
  have hp0 := push_lit1 (own_nil w w.heap.size) (Nat.le_refl _)
  have HP0 := hid (show Push (w.alloc (.cells #[.slice none 0 0] 22)) w.heap.size (.slice (some ⟨w.heap.size, 0, none⟩) 1 1) (rcN t 0) (fun _ => none) (fun _ => 0) from hp0)
  have HB0 := hid ((Below.refl _ _).alloc (Nat.le_refl _) _ : Below w.heap.size w (w.alloc (.cells #[.slice none 0 0] 22)))
  clear hB ht hn htb hnb hp0
  go_enter Try.func44, Try.ntmps44
  go_wp2_with (first | (go_at_call 85; refine (hasRunners_b _ _ _ HT.out).mono ?_; rintro e w' ⟨rfl, rfl⟩) | (go_at_call 89; refine (isReached_b _ _ _ HN0.out).mono ?_; rintro e w' ⟨rfl, rfl⟩))
  go_loopw [6, 17] (fun nv kv wr => ∃ k : Nat, k ≤ m ∧ kv = .int .i64 k ∧ Hid (∃ P C, Push wr w.heap.size nv (rcN t k) P C) ∧ Below w.heap.size w wr) (fun _ kv _ => m - (intOf kv).toNat)
  case atStart => exact ⟨0, Nat.zero_le _, rfl, hid ⟨_, _, HP0.out⟩, HB0.out⟩
  case round =>
    obtain ⟨k, hk, rfl, HPP, hbel⟩ := hrel
    by_cases hlt : k < m
    · obtain ⟨P, C, hpush⟩ := HPP.out
      obtain ⟨A, c, rfl⟩ := push_slice hpush
      obtain ⟨hrk, _⟩ := HOK.out k (by omega)
      have hcall := allArrowsUp_any A c (rcN t k) P C t k wr ht6 (by omega) (HLN.out k (by omega)).2 hrk (by rw [HST.out]; exact (HLN.out (k + 1) (by omega)).1) hpush
      rw [HST.out] at hcall
      have HCA := hid hcall
      have HBL := hid hbel
      have HSZ := hid hbel.size
      clear hrk hpush hcall HPP hbel
      go_wp2_with fail
      refine HCA.out.mono ?_
      rintro e w2 ⟨v2, P2, C2, rfl, hp2, b2⟩
      have HP2 := hid (push_low hp2 HSZ.out)
      have HB2 := hid (Below.next HBL.out b2)
      clear hp2 b2
      go_wp2_with fail
      go_roundw
      case rel => exact ⟨k + 1, by omega, by go_num, hid ⟨_, _, HP2.out⟩, HB2.out⟩
      case measure => simp [intOf]; omega
    · have hke : k = m := by omega
      have h := HPP.out
      rw [hke, ← HF.out] at h
      obtain ⟨P, C, hp⟩ := h
      obtain ⟨A', c', rfl, ho⟩ := hp.own2
      have HO := hid ho
      clear hke hp ho
      go_wp2_with fail
      go_ret2
      exact ⟨A', c', rfl, HO.out, hbel⟩
end Go.Proofs.Ythbkonpclflkhaa
