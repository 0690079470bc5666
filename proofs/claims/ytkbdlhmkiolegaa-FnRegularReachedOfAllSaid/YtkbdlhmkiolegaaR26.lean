/-
  Several texts in one.
-/
import Derived.Test.YtkbdlhmkiolegaaR24
import Derived.Test.YtkbdlhmkiolegaaCI
import Derived.Test.YtkbdlhmkiolegaaR25
import Derived.Shelf.SlSortCmp.NoneTotal
import Derived.Test.YtkbdlhmkiolegaaCW
import Derived.Test.YtkbdlhmkiolegaaR23
import Derived.Test.YtkbdlhmkiolegaaCX
import Derived.Test.YtkbdlhmkiolegaaR21
/-
  CoresWith on both sides.
-/
namespace Go.Proofs.Ytkbdlhmkiolegaa
open Go.RowKit Go.Shelf Go.Sort

theorem cl_facts {t n : Int} {v : List Int} (h : v ∈ lwF t n) : (Lev v ∧ clF v = partsL (kL 11 v) ∧ clOk v = true) ∧ good (clF v) = true ∧ (clF v).sum = n := by
  obtain ⟨L, hs, hn⟩ := lwF_lev h
  have hk : clOk v = true := by simp [clOk, levB_iff.2 L]; omega
  have h2 := L.lo
  have h3 := L.hi
  have e : clF v = partsL (kL 5 v) := by rw [cl_yes hk, cl_at L (by omega) (by omega)]
  have hg := goodB_iff.1 (kL_good (q := 5) L (by omega) (by omega) (by omega))
  have hq0 : ∀ i, i < v.length → 0 ≤ ((5 : Nat) : Int) + v.getD i 0 := fun i hi => by have := lev_small L (by omega) i hi; omega
  refine ⟨⟨L, cl_yes hk, hk⟩, by rw [e]; exact (good_iff _).2 hg.parts, ?_⟩
  have hl : (kL 5 v).length = v.length * 5 := by have := kL_len L hq0; omega
  rw [e, beads_sum hg.rise, kL_sum L hq0, hl]
  omega
def cwF (t n : Int) : List (List Int) := cwK (lwF t n) (lwF t n).length
theorem cwK_rows {t n : Int} {m : Nat} (hm : m ≤ (lwF t n).length) : ∀ r ∈ cwK (lwF t n) m, good r = true ∧ r.sum = n := by
  intro r hr
  have h1 := (cwK_perm m hm).mem_iff.1 hr
  obtain ⟨v, hv, rfl⟩ := List.mem_map.1 h1
  exact (cl_facts (List.mem_of_mem_take hv)).2
theorem good_pos {r : List Int} (h : good r = true) : ∀ x ∈ r, 1 ≤ x := by
  intro x hx
  obtain ⟨j, hj, e⟩ := List.getElem_of_mem hx
  have := ((good_iff r).1 h).pos j hj
  rw [List.getD_eq_getElem?_getD, List.getElem?_eq_getElem hj] at this
  rw [← e]; exact this
theorem mem_getL {L : List (List Int)} {j : Nat} (h : j < L.length) : L.getD j [] ∈ L := by
  rw [List.getD_eq_getElem?_getD, List.getElem?_eq_getElem h]; exact List.getElem_mem h
theorem cwK_sorted {t n : Int} : ∀ m, m ≤ (lwF t n).length → (cwK (lwF t n) m).Pairwise (fun x y => ¬ gcf y x < 0)
  | 0, _ => by simp [cwK]
  | m + 1, h => by
    rw [cwK_succ h]
    refine insC_sorted n _ _ (fun r hr => ?_) (cwK_sorted m (by omega))
    rcases List.mem_cons.1 hr with e | e
    · obtain ⟨-, h1, h2⟩ := cl_facts (mem_getL (show m < (lwF t n).length by omega))
      rw [e]; exact ⟨good_pos h1, h2⟩
    · obtain ⟨h1, h2⟩ := cwK_rows (by omega) r e
      exact ⟨good_pos h1, h2⟩
theorem cwK_len {L : List (List Int)} {m : Nat} (h : m ≤ L.length) : (cwK L m).length = m := by
  rw [(cwK_perm m h).length_eq, List.length_map, List.length_take]; omega
theorem tot_le30 : ∀ rows : List (List Int), (∀ r ∈ rows, r.length ≤ 30) → tot rows ≤ 30 * rows.length
  | [], _ => by simp [tot]
  | r :: rs, h => by
    have h1 := h r (List.mem_cons_self ..)
    have h2 := tot_le30 rs fun x hx => h x (List.mem_cons_of_mem _ hx)
    rw [tot, List.length_cons]; omega
theorem bound_CoresWith (t n : Int) : (cwF t n).length ≤ 1048576 ∧ tot (cwF t n) ≤ 1048576 := by
  have h1 := lwF_len t n
  have h2 : (cwF t n).length = (lwF t n).length := cwK_len (Nat.le_refl _)
  have h3 := tot_le30 (cwF t n) fun r hr => ((good_iff r).1 (cwK_rows (Nat.le_refl _) r hr).1).len
  omega
theorem cw_no {t n : Int} (h : lwOk t n = false) : cwF t n = [] := by unfold cwF; rw [lw_no h]; rfl

set_option maxRecDepth 100000 in
set_option maxHeartbeats 2000000 in
theorem sortGreat_any (w : World) (B g c : Nat) (rows : List (List Int)) (P : Nat → Option Addr) (C : Nat → Nat) (hgood : ∀ r ∈ rows, good r = true) (hlen : rows.length < 1000000) (hp : Push w B (.slice (some ⟨g, 0, none⟩) rows.length c) rows P C)
    (L : List (List Int)) (h1 : rows.Perm L) (h2 : L.Pairwise fun x y => ¬ gcf y x < 0) :
    Calls Try.prog 43 #[.slice (some ⟨g, 0, none⟩) rows.length c, .func (.func 44) #[] #[]] w fun e w' => e = .returned (.tuple #[]) ∧ ∃ P' C', Push w' B (.slice (some ⟨g, 0, none⟩) rows.length c) L P' C' ∧ B ≤ g ∧ ∀ B0 w0, B0 ≤ g → Below B0 w0 w → Below B0 w0 w' := by
  have eg : ∀ args w, (callFunc 44 args).run Try.prog w = .ok (.enter 44 args) w := enters_of Try.func44 (by kernel_rfl) rfl
  have hcall := sortRows_any sortFLays 44 eg gcf gcf_swo (fun W A B c d xs ys hx hy hA hB => (greatest_any A B c d xs ys W (by have := ((good_iff xs).1 hx).len; omega) (by have := ((good_iff ys).1 hy).len; omega) hA hB).mono (by
    rintro e w' ⟨rfl, rfl⟩
    exact ⟨rfl, 0, #[], by unfold grow; simp [World.drewN]⟩)) w B g c rows P C hgood hlen hp
  change Calls Try.prog 43 _ w _ at hcall
  refine hcall.mono ?_
  rintro e w' ⟨rfl, rows', P', C', hperm, hs, hpush, hBg, hbel⟩
  have he : rows' = L := rows_eqG (hperm.trans h1) (pairs_ofG fun i j hij hj => hs i j hij (by rw [hperm.length_eq] at hj; exact hj)) h2
  rw [he] at hpush
  exact ⟨rfl, P', C', hpush, hBg, hbel⟩

theorem sortNone_any (p : Option Addr) (c gf : Nat) (w : World) : Calls Try.prog 43 #[.slice p 0 c, .func (.func gf) #[] #[]] w fun e w' => e = .returned (.tuple #[]) ∧ w' = w :=
  AnyF.slices_SortFunc_none { sortFLays with } p c (.func (.func gf) #[] #[]) w
theorem pushC_form {w : World} {B : Nat} {v : Value} {rows : List (List Int)} {P : Nat → Option Addr} {C : Nat → Nat} (h : Push w B v rows P C) (h0 : 0 < rows.length) : ∃ g c, v = .slice (some ⟨g, 0, none⟩) rows.length c := by
  rcases h.out.2 with ⟨-, h1⟩ | ⟨g, cap, cur, hv, -⟩
  · omega
  · exact ⟨g, cap, hv⟩
theorem takeC_getD {L : List (List Int)} {k : Nat} (h : k < L.length) : L.take (k + 1) = L.take k ++ [L.getD k []] := by
  rw [List.take_succ_eq_append_getElem h, List.getD_eq_getElem?_getD, List.getElem?_eq_getElem h]; rfl
theorem mapC_get {L : List (List Int)} {k : Nat} (h : k < L.length) : (L.map clF).getD k [] = clF (L.getD k []) := by
  rw [List.getD_eq_getElem?_getD, List.getElem?_map, List.getElem?_eq_getElem h, List.getD_eq_getElem?_getD, List.getElem?_eq_getElem h]; rfl

end Go.Proofs.Ytkbdlhmkiolegaa
/-
  Contracts: ReachedByArrows of the program.
-/
namespace Go.Proofs.Ytkbdlhmkiolegaa
open Go.RowKit

theorem push_some {w : World} {B : Nat} {v : Value} {rows : List (List Int)} {P : Nat → Option Addr} {C : Nat → Nat} (h : Push w B v rows P C) (h0 : 0 < rows.length) : ∃ g c, v = .slice (some ⟨g, 0, none⟩) rows.length c ∧ B ≤ g := by
  rcases h.out.2 with ⟨_, h1⟩ | ⟨g, cap, cur, hv, hb, _⟩
  · omega
  · exact ⟨g, cap, hv, hb⟩

set_option maxRecDepth 100000 in
set_option maxHeartbeats 8000000 in
theorem allArrowsUp_any {B : Nat} (A : Option Addr) (c : Nat) (S : List (List Int)) (P : Nat → Option Addr) (C : Nat → Nat) (t k : Nat) (w : World) (ht : 2 ≤ t ∧ t ≤ 6) (hk : k ≤ 29) (hS : S.length ≤ 80) (hrk : Rk k S) (hne : 0 < (stU t S).length) (hp : Push w B (.slice A S.length c) S P C) :
    Calls Try.prog 26 #[.slice A S.length c, .int .i64 t] w fun e w' => ∃ v P' C', e = .returned v ∧ Push w' w.heap.size v (stU t S) P' C' ∧ Below w.heap.size w w' := by
  obtain ⟨i1, hj, hy0, hy1, hy2⟩ := info_parts Try.infoInts
  have HUP := hid fun (p : List Int) (hpm : p ∈ S) A c W (i : Nat) (hno : A = none → p.length = 0 ∧ c = 0) (h : Cells W A p) => (by
    obtain ⟨g, s⟩ := hrk p hpm
    have h1 := impl_ArrowUpC A c p t i W (by have := g.len; omega) hno h
    obtain ⟨e1, e2, _⟩ := up_eq g (by omega) ht (i : Int)
    rw [e1, e2] at h1
    exact h1 : Calls Try.prog 31 #[.slice A p.length c, .int .i64 t, .int .i64 i] W fun e w' => ∃ A' c', e = .returned (.tuple #[.slice A' (auL p t i).length c', .bool (auB p t i)]) ∧ Own w' W.heap.size A' c' (auL p t i) ∧ Below W.heap.size W w')
  have HLE := hid fun j i (h : j ≤ S.length) => allU_len (t := t) S j i h
  have hex : ∃ U, U = allU t S S.length 0 := ⟨_, rfl⟩
  obtain ⟨U, hU⟩ := hex
  have hokU : Rk (k + 1) U := by rw [hU]; exact allU_ok ht hk hrk (.inr rfl)
  obtain ⟨hperm, hsort⟩ := sort_ex (R := []) hokU (fun r hr => absurd hr (by simp)) List.Pairwise.nil
  rw [List.append_nil] at hperm
  obtain ⟨L, hL⟩ : ∃ L, L = U.foldl insC [] := ⟨_, rfl⟩
  rw [← hL] at hperm hsort
  have hkp := kp_eq ht hk hrk (by rw [← hU]; exact hperm.symm) hsort
  have hUpos : 0 < U.length := by
    rw [← hkp, kp_length] at hne
    have := ki_len L L.length
    have := hperm.length_eq
    omega
  have hUl : U.length ≤ 480 := by
    rw [hU]
    have := allU_len (t := t) S S.length 0 (Nat.le_refl _)
    have := Nat.mul_le_mul ht.2 hS
    omega
  have hUg : ∀ r ∈ U, good r = true := fun r hr => (good_iff r).2 (hokU r hr).1
  have hLr : ∀ j, j < L.length → (L.getD j []).length ≤ 1048576 := fun j hj => by
    have hm : L.getD j [] ∈ L := by rw [List.getD_eq_getElem?_getD, List.getElem?_eq_getElem hj]; exact List.getElem_mem hj
    have := (hokU _ (hperm.mem_iff.1 hm)).1.len
    omega
  have HSO := hid fun W B2 g c P2 C2 (h : Push W B2 (.slice (some ⟨g, 0, none⟩) U.length c) U P2 C2) => sortGreat_any W B2 g c U P2 C2 hUg (by omega) h L hperm.symm hsort
  have HCO := hid fun W B2 g c P2 C2 (h : Push W B2 (.slice (some ⟨g, 0, none⟩) L.length c) L P2 C2) => compact_any W B2 g c L P2 C2 (by have := hperm.length_eq; omega) hLr h
  rw [hperm.length_eq] at HCO hkp
  have HKP := hid hkp
  have HUE := hid hU
  have HUP0 := hid hUpos
  have HP := hid hp
  have HROWS := hid fun j (h : j < S.length) => allU_row (t := t) (S := S) h
  clear hkp hU hUpos hUg hLr hokU hperm hsort hL hp hrk hne
  go_enter Try.func26, Try.ntmps26
  go_wp2_with fail
  go_loopw [5, 13] (fun av jv wr => ∃ j : Nat, j ≤ S.length ∧ jv = .int .i64 j ∧ Hid (∃ P C, Push wr w.heap.size av (allU t S j 0) P C) ∧ Below w.heap.size w wr) (fun _ jv _ => S.length - (intOf jv).toNat)
  case atStart => exact ⟨0, Nat.zero_le _, rfl, hid ⟨_, _, by rw [allU_zero]; exact push_nil _ _⟩, Below.refl _ _⟩
  case round =>
    obtain ⟨j, hj2, rfl, HPN, hb1⟩ := hrel
    by_cases hjl : j < S.length
    · obtain ⟨-, -, -, hc3⟩ := push_cells HP.out
      have hAg : ∃ g, A = some ⟨g, 0, none⟩ := by
        rcases HP.out.out.2 with ⟨_, h0⟩ | ⟨g, cap, cur, hv, _⟩
        · omega
        · exact ⟨g, by injection hv⟩
      obtain ⟨g, rfl⟩ := hAg
      have hcr := hc3 _ rfl j _ (RL_get P C S j hjl)
      rw [addr_add0] at hcr
      have hcr2 : wr.cell? ⟨g, j, none⟩ = some (.slice (P j) (S.getD j []).length (C j)) := (hb1.cell (World.block_lt_of_cell? _ _ hcr)).trans hcr
      have HOW := hid (HP.out.row j hjl)
      have HCA := hid fun A c W i h1 h2 => HUP.out (S.getD j []) (by rw [List.getD_eq_getElem?_getD, List.getElem?_eq_getElem hjl]; exact List.getElem_mem hjl) A c W i h1 h2
      have HYES := hid fun i (h : auB (S.getD j []) t (i : Nat) = true) => (by unfold allU; rw [upsT_yes h, List.append_assoc] : allU t S j (i + 1) = allU t S j i ++ [auL (S.getD j []) t (i : Nat)])
      have HNO := hid fun i (h : auB (S.getD j []) t (i : Nat) = false) => (by unfold allU; rw [upsT_no h] : allU t S j (i + 1) = allU t S j i)
      have HLI := hid fun i => HLE.out j i hj2
      obtain ⟨p, hp⟩ : ∃ p, p = S.getD j [] := ⟨_, rfl⟩
      obtain ⟨Aj, hAj⟩ : ∃ Aj, Aj = P j := ⟨_, rfl⟩
      obtain ⟨Cj, hCj⟩ : ∃ Cj, Cj = C j := ⟨_, rfl⟩
      rw [← hp] at hcr2 HOW HCA HYES HNO
      rw [← hAj, ← hCj] at hcr2 HOW
      have htj : t * j ≤ 480 := Nat.le_trans (Nat.mul_le_mul ht.2 (show j ≤ 80 by omega)) (by omega)
      clear hcr hc3 hp hAj hCj
      go_wp2_with fail
      go_loopw [5, 18] (fun av iv wr => ∃ i : Nat, i ≤ t ∧ iv = .int .i64 i ∧ Hid (∃ P C, Push wr w.heap.size av (allU t S j i) P C) ∧ Below w.heap.size w wr) (fun _ iv _ => t - (intOf iv).toNat)
      case atStart => exact ⟨0, Nat.zero_le _, rfl, HPN, hb1⟩
      case round =>
        obtain ⟨i, hi, rfl, HPI, hb2⟩ := hrel
        by_cases hit : i < t
        · obtain ⟨P2, C2, hpush2⟩ := HPI.out
          have HOJ := hid (HOW.out.below hb2)
          have hup := HCA.out Aj Cj wr i (own_hno HOJ.out) HOJ.out.cells
          have hlen2 := HLI.out i
          have HY := hid (HYES.out i)
          have HN := hid (HNO.out i)
          obtain ⟨R, hR⟩ : ∃ R, R = allU t S j i := ⟨_, rfl⟩
          rw [← hR] at hpush2 hlen2 HY HN
          have HP2 := hid hpush2
          have HB2 := hid hb2
          have HS2 := hid hb2.size
          cases hau : auB p t (i : Nat)
          · rw [hau] at hup
            have HUPC := hid hup
            have HNE := hid (HN.out hau)
            obtain ⟨q, hq⟩ : ∃ q, q = auL p t (i : Nat) := ⟨_, rfl⟩
            rw [← hq] at HUPC
            clear hup hau hq hR hpush2 hb2
            go_wp2_with fail
            refine HUPC.out.mono ?_
            rintro e w3 ⟨A3, c3, rfl, o3, b3⟩
            have HB3 := hid (Below.next HB2.out b3)
            have HP3 := hid (HP2.out.below b3)
            clear o3 b3
            go_wp2_with fail
            go_roundw
            case rel => exact ⟨i + 1, by omega, by go_num, hid ⟨_, _, by rw [HNE.out]; exact HP3.out⟩, HB3.out⟩
            case measure => simp [intOf]; omega
          · rw [hau] at hup
            have HUPC := hid hup
            have HYE := hid (HY.out hau)
            obtain ⟨q, hq⟩ : ∃ q, q = auL p t (i : Nat) := ⟨_, rfl⟩
            rw [← hq] at HUPC HYE
            clear hup hau hq hR hpush2 hb2
            go_wp2_with fail
            refine HUPC.out.mono ?_
            rintro e w3 ⟨A3, c3, rfl, o3, b3⟩
            have HB3 := hid (Below.next HB2.out b3)
            have HP3 := hid (HP2.out.below b3)
            have HO3 := hid o3
            have HB23 := hid b3
            have hsz3 := HB3.out.size
            clear o3 b3
            go_wp2_with (at_builtin; refine wpList_append_own_at _ rfl _ _ 23 rfl w.heap.size 22 i1 (.slice none 0 0) 1 24 Try.underlying23 hj hy0 hy1 hy2 rfl (by decide) _ _ _ rfl (HP3.out.out.alloc _) ⟨w3.heap.size, 0, none⟩ 1 1 [.slice A3 q.length c3] rfl rfl one_at (one_cellS _ _ _) (by unfold maxLen; omega) (by omega) (by simp; omega) ?_)
            intro v4 w4 hown4 hgrow4 _ _
            have hp4 := HP2.out.push HB23.out HO3.out HS2.out hown4 hgrow4
            have hb4 : Below w.heap.size w w4 := (HB3.out.alloc hsz3 _).grown hgrow4 (by simp; omega) (fun q hq => (HP2.out.out.lt q hq).1)
            have HP4 := hid hp4
            have HB4 := hid hb4
            clear hown4 hgrow4 hp4 hb4
            go_wp2_with fail
            go_roundw
            case rel => exact ⟨i + 1, by omega, by go_num, hid ⟨_, _, by rw [HYE.out]; exact HP4.out⟩, HB4.out⟩
            case measure => simp [intOf]; omega
        · have hie : i = t := by omega
          have h := HPI.out
          rw [hie, HROWS.out j hjl] at h
          have HPE := hid h
          clear h hie
          go_wp2_with fail
          go_roundw
          case rel => exact ⟨j + 1, by omega, by go_num, HPE, hb2⟩
          case measure => simp [intOf]; omega
    · have hje : j = S.length := by omega
      have h := HPN.out
      rw [hje, ← HUE.out] at h
      obtain ⟨P2, C2, hp2⟩ := h
      obtain ⟨g2, c2, rfl, hBg⟩ := push_some hp2 HUP0.out
      have hso := HSO.out wr w.heap.size g2 c2 P2 C2 hp2
      have hcap := (push_cells hp2).2.1
      have HS := hid hso
      have HB1 := hid hb1
      clear hp2 hje hso hb1
      go_wp2_with fail
      refine HS.out.mono ?_
      rintro e w5 ⟨rfl, P5, C5, hp5, _, hb5⟩
      have HCM := hid (HCO.out w5 w.heap.size g2 c2 P5 C5 hp5)
      have HB5 := hid (hb5 w.heap.size w hBg HB1.out)
      have HZ5 := hid (hb5 g2 wr (Nat.le_refl _))
      clear hp5 hb5
      go_wp2_with fail
      refine HCM.out.mono ?_
      rintro e w6 ⟨v6, P6, C6, rfl, hp6, hb6⟩
      rw [HKP.out] at hp6
      have HP6 := hid hp6
      have HB6 := hid (hb6 w.heap.size w hBg HB5.out)
      clear hp6 hb6 HZ5
      go_wp2_with fail
      go_ret
      exact ⟨_, _, _, rfl, HP6.out, HB6.out⟩

set_option maxRecDepth 100000 in
set_option maxHeartbeats 4000000 in
theorem impl_ReachedByArrows (t n : Int) (w : World) (_ : I64 t) (_ : I64 n) :
    Calls Try.prog 6 #[.int .i64 t, .int .i64 n] w fun e w' => ∃ A' c', e = .returned (.tuple #[.slice A' (raF t n).length c', .bool (raB t n)]) ∧ Own2 w' w.heap.size w'.heap.size A' c' (raF t n) ∧ Below w.heap.size w w' := by
  cases ht : inB 2 6 t
  · rw [show raF t n = [] by simp [raF, raB, ht], show raB t n = false by simp [raB, ht]]
    have HT := hid ht
    clear ht
    go_enter Try.func6, Try.ntmps6
    go_wp2_with (go_at_call 19; refine (hasRunners_b _ _ _ HT.out).mono ?_; rintro e w' ⟨rfl, rfl⟩)
    go_ret2
    exact ⟨none, 0, rfl, own2_nil _ _ _, Below.refl _ _⟩
  cases hn : inB 0 12 n
  · rw [show raF t n = [] by simp [raF, raB, hn], show raB t n = false by simp [raB, hn]]
    have HT := hid ht
    have HN := hid hn
    clear ht hn
    go_enter Try.func6, Try.ntmps6
    go_wp2_with (first | (go_at_call 19; refine (hasRunners_b _ _ _ HT.out).mono ?_; rintro e w' ⟨rfl, rfl⟩) | (go_at_call 20; refine (isReached_b _ _ _ HN.out).mono ?_; rintro e w' ⟨rfl, rfl⟩))
    go_ret2
    exact ⟨none, 0, rfl, own2_nil _ _ _, Below.refl _ _⟩
  have HT := hid ht
  have HN0 := hid hn
  have hB : raB t n = true := by simp [raB, ht, hn]
  have htb := inB_iff.1 ht
  have hnb := inB_iff.1 hn
  obtain ⟨t, rfl⟩ : ∃ k : Nat, t = k := ⟨t.toNat, by omega⟩
  obtain ⟨m, rfl⟩ : ∃ m : Nat, n = m := ⟨n.toNat, by omega⟩
  have ht6 : 2 ≤ t ∧ t ≤ 6 := by omega
  have hm : m ≤ 12 := by omega
  rw [hB]
  have HF := hid (show raF t m = rcN t m by simp [raF, hB])
  have HST := hid fun k => (show stU t (rcN t k) = rcN t (k + 1) from rfl)
  have HOK := hid fun k (hk : k ≤ 12) => rcN_ok ht6 k (by omega)
  have HLN := hid fun k (hk : k ≤ 12) => rc_both t (by omega) ht6.1 k (by omega)
  have hp0 := push_lit1 (own_nil w w.heap.size) (Nat.le_refl _)
  have HP0 := hid (show Push (w.alloc (.cells #[.slice none 0 0] 22)) w.heap.size (.slice (some ⟨w.heap.size, 0, none⟩) 1 1) (rcN t 0) (fun _ => none) (fun _ => 0) from hp0)
  have HB0 := hid ((Below.refl _ _).alloc (Nat.le_refl _) _ : Below w.heap.size w (w.alloc (.cells #[.slice none 0 0] 22)))
  clear hB ht hn htb hnb hp0
  go_enter Try.func6, Try.ntmps6
  go_wp2_with (first | (go_at_call 19; refine (hasRunners_b _ _ _ HT.out).mono ?_; rintro e w' ⟨rfl, rfl⟩) | (go_at_call 20; refine (isReached_b _ _ _ HN0.out).mono ?_; rintro e w' ⟨rfl, rfl⟩))
  go_loopw [6, 17] (fun nv kv wr => ∃ k : Nat, k ≤ m ∧ kv = .int .i64 k ∧ Hid (∃ P C, Push wr w.heap.size nv (rcN t k) P C) ∧ Below w.heap.size w wr) (fun _ kv _ => m - (intOf kv).toNat)
  case atStart => exact ⟨0, Nat.zero_le _, rfl, hid ⟨_, _, HP0.out⟩, HB0.out⟩
  case round =>
    obtain ⟨k, hk, rfl, HPP, hbel⟩ := hrel
    by_cases hlt : k < m
    · obtain ⟨P, C, hpush⟩ := HPP.out
      obtain ⟨A, c, rfl⟩ := push_slice hpush
      obtain ⟨hrk, _⟩ := HOK.out k (by omega)
      have hcall := allArrowsUp_any A c (rcN t k) P C t k wr ht6 (by omega) (HLN.out k (by omega)).2 hrk (by rw [HST.out]; exact (HLN.out (k + 1) (by omega)).1) hpush
      rw [HST.out] at hcall
      have HCA := hid hcall
      have HBL := hid hbel
      have HSZ := hid hbel.size
      clear hrk hpush hcall HPP hbel
      go_wp2_with fail
      refine HCA.out.mono ?_
      rintro e w2 ⟨v2, P2, C2, rfl, hp2, b2⟩
      have HP2 := hid (push_low hp2 HSZ.out)
      have HB2 := hid (Below.next HBL.out b2)
      clear hp2 b2
      go_wp2_with fail
      go_roundw
      case rel => exact ⟨k + 1, by omega, by go_num, hid ⟨_, _, HP2.out⟩, HB2.out⟩
      case measure => simp [intOf]; omega
    · have hke : k = m := by omega
      have h := HPP.out
      rw [hke, ← HF.out] at h
      obtain ⟨P, C, hp⟩ := h
      obtain ⟨A', c', rfl, ho⟩ := hp.own2
      have HO := hid ho
      clear hke hp ho
      go_wp2_with fail
      go_ret2
      exact ⟨A', c', rfl, HO.out, hbel⟩
end Go.Proofs.Ytkbdlhmkiolegaa
/-
  Contract: ArrowByWord of the program: a walk backwards over the word that may be left early.
-/
namespace Go.Proofs.Ytkbdlhmkiolegaa
open Go.RowKit Go.Shelf
attribute [local go_sem] Oper.semAt_some

theorem run_loadVar_one {P : Program} (w : World) (g : Nat) (ty : TypeId) (v : Value) (hagg : (isAgg ty).run P w = .ok false w) (hc : w.cell? ⟨g, 0, none⟩ = some v) : (loadVar ty ⟨g, 0, none⟩).run P w = .ok v w := by
  simp [loadVar, Sem.run_bind, hagg, Result.andThen, go_sem, hc]
theorem results_cells2 {P : Program} {fn : Func} {p q : Tmp} {t u : TypeId} (h : fn.results = #[.cell p t, .cell q u]) (tmps : Array Value) (w : World) (g k : Nat) (v x : Value)
    (hp : tmps.getD p undef = .pointer (some ⟨g, 0, none⟩)) (hq : tmps.getD q undef = .pointer (some ⟨k, 0, none⟩)) (ht : (isAgg t).run P w = .ok false w) (hu : (isAgg u).run P w = .ok false w)
    (hv : w.cell? ⟨g, 0, none⟩ = some v) (hx : w.cell? ⟨k, 0, none⟩ = some x) : (results fn tmps).run P w = .ok (.tuple #[v, x]) w := by
  have hp' : tmps[p]?.getD undef = .pointer (some ⟨g, 0, none⟩) := by simpa using hp
  have hq' : tmps[q]?.getD undef = .pointer (some ⟨k, 0, none⟩) := by simpa using hq
  simp [results, h, hp', hq', asAddr, run_loadVar_one w g t v ht hv, run_loadVar_one w k u x hu hx, Sem.run_bind, Result.andThen]

theorem boxed_below {W W' : World} {B : Nat} {t : TypeId} {v : Value} (h : Boxed W B t v) (hb : Below W.heap.size W W') : Boxed W' B t v := (hb.block B h.lt).trans h
theorem keeps_below {W W' : World} (B : Nat) (h : Below W.heap.size W W') : KeepsFrom B W W' :=
  ⟨h.size, fun k _ _ hk _ => (h.block k (Array.getElem?_eq_some_iff.1 hk).1).trans hk⟩
theorem keeps_set (B : Nat) (W : World) (b : Nat) (v : Value) (hb : b < B) : KeepsFrom B W (W.setCell ⟨b, 0, none⟩ v) :=
  KeepsFrom.of_grownBy (grownBy_setCell' W b v) (fun j e => by cases e; exact hb)
/-- What the letters that have come make. -/
def byP (t : Nat) (pre : List (Int × Int)) : Option (List Int) := pre.foldl (fun o x => o.bind fun m => if auB m t x.2 then some (auL m t x.2) else none) (some [])
theorem byP_snoc (t : Nat) (pre : List (Int × Int)) (x : Int × Int) : byP t (pre ++ [x]) = (byP t pre).bind fun m => if auB m t x.2 then some (auL m t x.2) else none := by
  simp [byP, List.foldl_append]
theorem byP_up (t : Nat) (word : List Int) : ∀ k, byP t (upto (bk word) k) = byN t word k
  | 0 => rfl
  | k + 1 => by rw [upto_succ, byP_snoc, byP_up t word k]; rfl
theorem byP_ok {t : Nat} (ht : 2 ≤ t ∧ t ≤ 6) (pre : List (Int × Int)) : ∀ {m : List Int}, pre.length ≤ 30 → byP t pre = some m → Good m ∧ m.sum = pre.length := by
  induction pre using snoc_ind with
  | h0 => intro m _ h; have e : m = [] := by simpa [byP] using h.symm
          subst e; exact ⟨Good.nil, rfl⟩
  | h1 l a ih =>
    intro m hl h
    rw [List.length_append, List.length_singleton] at hl ⊢
    rw [byP_snoc] at h
    cases hb : byP t l with
    | none => rw [hb] at h; cases h
    | some p =>
      obtain ⟨g, s⟩ := ih (by omega) hb
      rw [hb] at h
      simp only [Option.bind_some] at h
      split at h
      · rename_i ha
        obtain ⟨_, _, h3⟩ := up_eq g (by omega) ht a.2
        obtain ⟨e1, e2, _⟩ := h3 ha
        injection h with h
        subst h
        exact ⟨e1, by rw [e2, s]; omega⟩
      · cases h

set_option maxRecDepth 100000 in
set_option maxHeartbeats 8000000 in
theorem ArrowByWord_in (n : Nat) (A : Option Addr) (cap : Nat) (xs : List Int) (w : World) (hn : 2 ≤ n ∧ n ≤ 6) (hl : xs.length ≤ 30) (hc : Cells w A xs) :
    CallsIn Fence.wide 5 Try.prog 14 #[.int .i64 n, .slice A xs.length cap] w fun e W' => ∃ A' c', e = .returned (.tuple #[.slice A' (byL n xs).length c', .bool (byB n xs)]) ∧ Own W' w.heap.size A' c' (byL n xs) ∧ Below w.heap.size w W' := by
  have HT := hid (inB_iff.2 (show (2 : Int) ≤ (n : Int) ∧ (n : Int) ≤ 6 by omega))
  have hn30 : ¬ (30 : Int) < (xs.length : Int) := by omega
  have q0 := Boxed.new w 3 (.int .i64 n)
  have q1 := Boxed.new (w.alloc (.cells #[.int .i64 n] 3)) 22 (.slice none 0 0)
  have q2 := Boxed.new ((w.alloc (.cells #[.int .i64 n] 3)).alloc (.cells #[.slice none 0 0] 22)) 4 (.bool false)
  rw [World.size_alloc] at q1
  rw [World.size_alloc, World.size_alloc] at q2
  obtain ⟨w1, hw1⟩ : ∃ w1, w1 = ((w.alloc (.cells #[.int .i64 n] 3)).alloc (.cells #[.slice none 0 0] 22)).alloc (.cells #[.bool false] 4) := ⟨_, rfl⟩
  have t1 : Boxed w1 w.heap.size 3 (.int .i64 n) := by rw [hw1]; exact (q0.alloc _).alloc _
  have r1 : Boxed w1 (w.heap.size + 1) 22 (.slice none 0 0) := by rw [hw1]; exact q1.alloc _
  have k1 : Boxed w1 (w.heap.size + 1 + 1) 4 (.bool false) := by rw [hw1]; exact q2
  have b1 : Below w.heap.size w w1 := by rw [hw1]; exact (((Below.refl _ _).alloc (Nat.le_refl _) _).alloc (by simp) _).alloc (by simp; omega) _
  have z1 : w1.heap.size = w.heap.size + 1 + 1 + 1 := by rw [hw1]; simp
  have HW1 := hid hw1
  have Z1 := hid z1
  clear z1
  have ft1 := t1.cell
  clear q0 q1 q2 hw1
  refine callsIn_of_wp_marks Try.func14 rfl trivial ?_ rfl
  simp only [Try.ntmps14, List.size_toArray, List.length_cons, List.length_nil, Nat.reduceAdd, Nat.reduceSub, Array.replicate_succ, Array.replicate_zero, List.push_toArray, List.append_toArray, List.nil_append, List.cons_append]
  gi_wp2
  rw [← HW1.out]
  refine ⟨trivial, (callsIn_wide.2 (hasRunners_b _ _ _ HT.out)).mono ?_⟩
  rintro e w' ⟨rfl, rfl⟩
  gi_wp2_with (refine ⟨trivial, ?_⟩; gi_at_call 30; refine (back_in Fence.wide 4 trivial rfl _ _ _ _).mono ?_; rintro e w' ⟨rfl, rfl⟩)
  rw [decide_eq_false (show ¬ (30 : Int) < (xs.length : Int) by omega)]
  have z1 := Z1.out
  have m0 := Boxed.new w1 22 (.slice none 0 0)
  have s0 := Boxed.new (w1.alloc (.cells #[.slice none 0 0] 22)) 22 (.slice A xs.length cap)
  rw [World.size_alloc] at s0
  obtain ⟨w3, hw3⟩ : ∃ w3, w3 = (w1.alloc (.cells #[.slice none 0 0] 22)).alloc (.cells #[.slice A xs.length cap] 22) := ⟨_, rfl⟩
  have m3 : Boxed w3 w1.heap.size 22 (.slice none 0 0) := by rw [hw3]; exact m0.alloc _
  have s3 : Boxed w3 (w1.heap.size + 1) 22 (.slice A xs.length cap) := by rw [hw3]; exact s0
  have b3 : Below w1.heap.size w1 w3 := by rw [hw3]; exact ((Below.refl _ _).alloc (Nat.le_refl _) _).alloc (by simp) _
  have z3 : w3.heap.size = w1.heap.size + 1 + 1 := by rw [hw3]; simp
  have t3 := boxed_below t1 b3
  have r3 := boxed_below r1 b3
  have k3 := boxed_below k1 b3
  have hc3 := (hc.below b1).below b3
  rw [← hw3]
  clear m0 s0 hw3
  have hst := back_stops Fence.wide 4 trivial rfl (by omega) (w1.heap.size + 1) w.heap.size A cap xs (by omega) w3 (by omega) s3.cell (fun h0 => cells_lt hc h0) hc3
  refine wpIn_rangeFunc_ownG rfl (by omega) (gf := 48) (lb := #[.pointer (some ⟨w1.heap.size + 1, 0, none⟩)]) rfl trivial (enters_of Try.func48 (by kernel_rfl) rfl)
    hst KeepB.trans (keepB_b (by omega) (by omega)) (Below.refl _ _) (fun _ => rfl)
    (fun pre W => ((∃ v, Boxed W w1.heap.size 22 v ∧ W.ownsRow w1.heap.size 3 1 v ((byP n pre).getD []).length (IL ((byP n pre).getD [])) ∧ (byP n pre).isSome = true) ∧ (Boxed W (w1.heap.size + 1) 22 (.slice A xs.length cap) ∧ (Boxed W w.heap.size 3 (.int .i64 n) ∧ (Boxed W (w.heap.size + 1) 22 (.slice none 0 0) ∧ Boxed W (w.heap.size + 1 + 1) 4 (.bool false))))) ∧ Below w.heap.size w W)
    (fun c pre W => ((c = .ret ∧ byP n pre = none) ∧ (Boxed W (w.heap.size + 1) 22 (.slice none 0 0) ∧ Boxed W (w.heap.size + 1 + 1) 4 (.bool false))) ∧ Below w.heap.size w W)
    (OwnFrom.and (OwnFrom.and (Own.from (holdsRow_own w1.heap.size w1.heap.size 22 3 1 (fun pre => ((byP n pre).getD []).length) (fun pre => IL ((byP n pre).getD [])) (fun pre _ => (byP n pre).isSome = true)) _) (OwnFrom.and (Own.from (boxed_own _ _ _) _) (OwnFrom.and (Own.from (boxed_own _ _ _) _) (OwnFrom.and (Own.from (boxed_own _ _ _) _) (Own.from (boxed_own _ _ _) _))))) (ownFrom_below (Nat.le_refl _) (by omega)))
    (fun _ => OwnFrom.and (OwnFrom.and (fun _ _ _ _ hs _ _ => hs) (OwnFrom.and (Own.from (boxed_own _ _ _) _) (Own.from (boxed_own _ _ _) _))) (ownFrom_below (Nat.le_refl _) (by omega)))
    ⟨⟨⟨_, m3, World.ownsRow_nil _ _ _ _, rfl⟩, s3, t3, r3, k3⟩, Below.next b1 b3⟩
    (fun x => { tmps := #[.int .i64 n, .slice A xs.length cap, .pointer (some ⟨w.heap.size, 0, none⟩), undef, .pointer (some ⟨w.heap.size + 1, 0, none⟩), .pointer (some ⟨w.heap.size + 1 + 1, 0, none⟩), .pointer (some ⟨w1.heap.size, 0, none⟩), undef, .int .i64 x.2, undef, undef, .int .i64 n, .bool true, .bool false, .bool false, .slice A xs.length cap, .int .i64 xs.length, .bool false, .bool false, .slice A xs.length cap, .func (.func 48) #[] #[.pointer (some ⟨w1.heap.size + 1, 0, none⟩)], .int .i64 x.1, .int .i64 x.2, undef, undef, undef, undef, undef, undef, undef, undef, undef, undef, undef], defers := [] }) ?assign ?body ?done ?stop
  case assign =>
    intro l x W K hK
    clear z1 z3
    gi_wp2
    exact hK
  case body =>
    rintro l pre x W ⟨⟨⟨v, hv, hrow, hsome⟩, hs, ht, hr, hk⟩, hB⟩ hlt
    have Z3 := hid z3
    clear z1 z3
    cases hb : byP n pre with
    | none => rw [hb] at hsome; cases hsome
    | some m =>
      rw [hb] at hrow
      simp only [Option.getD_some] at hrow
      obtain ⟨g, sm⟩ := byP_ok hn pre (by omega) hb
      obtain ⟨e1, e2, e3⟩ := up_eq g (by omega) hn x.2
      obtain ⟨Am, cm, rfl, hom⟩ := own_form hrow rfl
      have hcall := impl_ArrowUpC Am cm m n x.2 W (by have := g.len; omega) (own_hno hom) hom.cells
      rw [e1, e2] at hcall
      have hnx := byP_snoc n pre x
      rw [hb] at hnx
      simp only [Option.bind_some] at hnx
      have hcv := hv.cell
      have hct := ht.cell
      have hsz := hB.size
      have hl3 := hv.lt
      cases ha : auB m n x.2
      · rw [ha] at hcall hnx
        have HN := hid (show byP n (pre ++ [x]) = none by rw [hnx]; rfl)
        have HCA := hid hcall
        obtain ⟨R, hR⟩ : ∃ R, R = auL m n x.2 := ⟨_, rfl⟩
        rw [← hR] at HCA
        clear hnx hcall e1 e2 e3 ha hR g sm
        gi_wp2
        refine ⟨trivial, (CallsIn.inRound l (callsIn_wide.2 HCA.out)).mono ?_⟩
        rintro e W2 ⟨A2, c2, rfl, o2, b2⟩
        have hr2 := boxed_below hr b2
        have hk2 := boxed_below hk b2
        have fr2 := hr2.frozen
        have fk2 := hk2.frozen
        have cr2 := hr2.cell
        have ck2 := hk2.cell
        have HB2 := hid b2
        have HR2 := hid hr2
        have HK2 := hid hk2
        clear b2 hr2 hk2
        gi_wp2
        have hz := Z3.out
        have hz1 := Z1.out
        exact ⟨((keeps_below _ HB2.out).trans (keeps_set _ _ _ _ (by omega))).trans (keeps_set _ _ _ _ (by omega)), ⟨⟨rfl, HN.out⟩, (HR2.out.set _).other (B' := w.heap.size + 1 + 1) (by omega) _, (HK2.out.other (B' := w.heap.size + 1) (by omega) _).set _⟩, ((Below.next hB HB2.out).setCell (Nat.le_succ _) _).setCell (by show w.heap.size ≤ w.heap.size + 1 + 1; omega) _⟩
      · rw [ha] at hcall hnx
        have HN := hid (show byP n (pre ++ [x]) = some (auL m n x.2) by rw [hnx]; rfl)
        have HCA := hid hcall
        obtain ⟨R, hR⟩ : ∃ R, R = auL m n x.2 := ⟨_, rfl⟩
        rw [← hR] at HCA HN
        clear hnx hcall e1 e2 e3 ha hR g sm
        gi_wp2
        refine ⟨trivial, (CallsIn.inRound l (callsIn_wide.2 HCA.out)).mono ?_⟩
        rintro e W2 ⟨A2, c2, rfl, o2, b2⟩
        have hv2 := boxed_below hv b2
        have fv2 := hv2.frozen
        have cv2 := hv2.cell
        have HB2 := hid b2
        have HO2 := hid o2
        have HV2 := hid hv2
        clear b2 hv2 o2
        gi_wp2
        have hz := Z3.out
        have hz1 := Z1.out
        have hs2 := (boxed_below hs HB2.out).other (B' := w1.heap.size) (by omega) (.slice A2 R.length c2)
        have hor : Own (W2.setCell ⟨w1.heap.size, 0, none⟩ (.slice A2 R.length c2)) w1.heap.size A2 c2 R :=
          (HO2.out.keep fun b hb hlt => Below.heap_setCell _ _ _ b (by have := (HO2.out.block b hb).1; show b ≠ w1.heap.size; omega)).more (by omega)
        exact ⟨(keeps_below _ HB2.out).trans (keeps_set _ _ _ _ (by omega)), ⟨(HB2.out.mono hsz).setCell (by show w.heap.size ≤ w1.heap.size; omega) _, hs2.trans hs.symm⟩,
          ⟨⟨_, HV2.out.set _, by rw [HN.out]; exact hor, by rw [HN.out]; rfl⟩, hs2, (boxed_below ht HB2.out).other (B' := w1.heap.size) (by omega) _, (boxed_below hr HB2.out).other (B' := w1.heap.size) (by omega) _, (boxed_below hk HB2.out).other (B' := w1.heap.size) (by omega) _⟩, (Below.next hB HB2.out).setCell (by show w.heap.size ≤ w1.heap.size; omega) _⟩
  case stop =>
    rintro D c pre W hD ⟨k, hk, rfl⟩ ⟨⟨⟨rfl, hno⟩, hr, hok⟩, hB⟩ hKD
    have Z3 := hid z3
    clear z1 z3
    rw [byP_up] at hno
    obtain ⟨e1, e2⟩ := by_none hk hno
    have E := hid (And.intro e1 e2)
    clear e1 e2
    gi_wp2
    refine ⟨by simp, .inl ⟨_, _, rfl, run_takeDeferred hKD, ?_⟩⟩
    have g0 := grownBy_putObj' W D (.deferred none)
    have hlr := hr.lt
    have hlk := hok.lt
    have hz := Z3.out
    have hz1 := Z1.out
    refine ⟨_, results_cells2 rfl _ _ _ _ _ _ rfl rfl (run_isAgg_plain Try.underlying22 rfl _) (run_isAgg_plain Try.underlying4 rfl _) (hr.kept g0 (by simp; omega)).cell (hok.kept g0 (by simp; omega)).cell, none, 0, by rw [E.out.1, E.out.2]; rfl, by rw [E.out.1]; exact own_nil _ _, hB.trans (belowK_b (w := w) (Nat.le_refl _) W D _ _ (by omega) hKD rfl rfl)⟩
  case done =>
    rintro D ys W hD rfl ⟨⟨⟨v, hv, hrow, hsome⟩, hs, ht, hr, hk⟩, hB⟩ hKD
    have Z3 := hid z3
    clear z1 z3
    rw [byP_up] at hrow hsome
    cases hb : byN n xs xs.length with
    | none => rw [hb] at hsome; cases hsome
    | some m =>
      obtain ⟨e1, e2⟩ := by_some hb
      rw [hb] at hrow
      simp only [Option.getD_some] at hrow
      obtain ⟨Am, cm, rfl, hom⟩ := own_form hrow rfl
      have E := hid (And.intro e1 e2)
      have hcv := hv.cell
      have fr := hr.frozen
      have fk := hk.frozen
      have cr := hr.cell
      have ck := hk.cell
      clear e1 e2 hb hsome
      have hz := Z3.out
      have hz1 := Z1.out
      have fk2 := (hk.other (B' := w.heap.size + 1) (by omega) (.slice Am m.length cm)).frozen
      have ck2 := (hk.other (B' := w.heap.size + 1) (by omega) (.slice Am m.length cm)).cell
      have HZ := hid hz
      have HZ1 := hid hz1
      clear hz hz1
      gi_wp2
      have hz := HZ.out
      have hz1 := HZ1.out
      have k1' : (W.setCell ⟨w.heap.size + 1, 0, none⟩ (.slice Am m.length cm)).heap[D]? = some (.deferred (some [])) := (Below.heap_setCell _ _ _ D (by show D ≠ w.heap.size + 1; omega)).trans hKD
      have k2' : ((W.setCell ⟨w.heap.size + 1, 0, none⟩ (.slice Am m.length cm)).setCell ⟨w.heap.size + 1 + 1, 0, none⟩ (.bool true)).heap[D]? = some (.deferred (some [])) := (Below.heap_setCell _ _ _ D (by show D ≠ w.heap.size + 1 + 1; omega)).trans k1'
      refine ⟨by simp, .inl ⟨_, _, rfl, run_takeDeferred k2', ?_⟩⟩
      have g0 := grownBy_putObj' ((W.setCell ⟨w.heap.size + 1, 0, none⟩ (.slice Am m.length cm)).setCell ⟨w.heap.size + 1 + 1, 0, none⟩ (.bool true)) D (.deferred none)
      have hrr := (hr.set (.slice Am m.length cm)).other (B' := w.heap.size + 1 + 1) (by omega) (.bool true)
      have hkk := (hk.other (B' := w.heap.size + 1) (by omega) (.slice Am m.length cm)).set (.bool true)
      have hb2 : Below w.heap.size w ((W.setCell ⟨w.heap.size + 1, 0, none⟩ (.slice Am m.length cm)).setCell ⟨w.heap.size + 1 + 1, 0, none⟩ (.bool true)) := (hB.setCell (by show w.heap.size ≤ w.heap.size + 1; omega) _).setCell (by show w.heap.size ≤ w.heap.size + 1 + 1; omega) _
      have hoo : Own ((W.setCell ⟨w.heap.size + 1, 0, none⟩ (.slice Am m.length cm)).setCell ⟨w.heap.size + 1 + 1, 0, none⟩ (.bool true)) w1.heap.size Am cm m :=
        hom.keep fun b hb hlt => (Below.heap_setCell _ _ _ b (by have := (hom.block b hb).1; show b ≠ w.heap.size + 1 + 1; omega)).trans (Below.heap_setCell _ _ _ b (by have := (hom.block b hb).1; show b ≠ w.heap.size + 1; omega))
      have hoo2 := ownsRow_putObj hoo (.deferred none) k2' rfl
      exact ⟨_, results_cells2 rfl _ _ _ _ _ _ rfl rfl (run_isAgg_plain Try.underlying22 rfl _) (run_isAgg_plain Try.underlying4 rfl _) (hrr.kept g0 (by simp; omega)).cell (hkk.kept g0 (by simp; omega)).cell, Am, cm, by rw [E.out.1, E.out.2], by rw [E.out.1]; exact Own.more hoo2 (by omega), hb2.trans (belowK_b (w := w) (Nat.le_refl _) _ D _ _ (by omega) k2' rfl rfl)⟩

set_option maxRecDepth 100000 in
set_option maxHeartbeats 2000000 in
theorem ArrowByWord_no (t : Int) (A : Option Addr) (cap : Nat) (xs : List Int) (w : World) (hl : xs.length ≤ 1048576) (h : abwG t xs = false) :
    Calls Try.prog 14 #[.int .i64 t, .slice A xs.length cap] w fun e w' => ∃ A' c', e = .returned (.tuple #[.slice A' ([] : List Int).length c', .bool false]) ∧ Own w' w.heap.size A' c' [] ∧ Below w.heap.size w w' := by
  have q0 := Boxed.new w 3 (.int .i64 t)
  have q1 := Boxed.new (w.alloc (.cells #[.int .i64 t] 3)) 22 (.slice none 0 0)
  have q2 := Boxed.new ((w.alloc (.cells #[.int .i64 t] 3)).alloc (.cells #[.slice none 0 0] 22)) 4 (.bool false)
  rw [World.size_alloc] at q1
  rw [World.size_alloc, World.size_alloc] at q2
  obtain ⟨w1, hw1⟩ : ∃ w1, w1 = ((w.alloc (.cells #[.int .i64 t] 3)).alloc (.cells #[.slice none 0 0] 22)).alloc (.cells #[.bool false] 4) := ⟨_, rfl⟩
  have t1 : Boxed w1 w.heap.size 3 (.int .i64 t) := by rw [hw1]; exact (q0.alloc _).alloc _
  have r1 : Boxed w1 (w.heap.size + 1) 22 (.slice none 0 0) := by rw [hw1]; exact q1.alloc _
  have k1 : Boxed w1 (w.heap.size + 1 + 1) 4 (.bool false) := by rw [hw1]; exact q2
  have b1 : Below w.heap.size w w1 := by rw [hw1]; exact (((Below.refl _ _).alloc (Nat.le_refl _) _).alloc (by simp) _).alloc (by simp; omega) _
  have HW1 := hid hw1
  have ft1 := t1.cell
  have fr1 := r1.frozen
  have fk1 := k1.frozen
  have cr1 := r1.cell
  have ck1 := k1.cell
  have fk2 := (k1.other (B' := w.heap.size + 1) (by omega) (.slice none 0 0)).frozen
  have ck2 := (k1.other (B' := w.heap.size + 1) (by omega) (.slice none 0 0)).cell
  have HR := hid ((r1.set (.slice none 0 0)).other (B' := w.heap.size + 1 + 1) (by omega) (.bool false)).cell
  have HK := hid ((k1.other (B' := w.heap.size + 1) (by omega) (.slice none 0 0)).set (.bool false)).cell
  have HB := hid ((b1.setCell (p := ⟨w.heap.size + 1, 0, none⟩) (by show w.heap.size ≤ w.heap.size + 1; omega) (.slice none 0 0)).setCell (p := ⟨w.heap.size + 1 + 1, 0, none⟩) (by show w.heap.size ≤ w.heap.size + 1 + 1; omega) (.bool false))
  clear q0 q1 q2 hw1 t1 r1 k1 b1
  refine (callsIn_wide (n := 5)).1 ?_
  refine callsIn_of_wp_marks Try.func14 rfl trivial ?_ rfl
  simp only [Try.ntmps14, List.size_toArray, List.length_cons, List.length_nil, Nat.reduceAdd, Nat.reduceSub, Array.replicate_succ, Array.replicate_zero, List.push_toArray, List.append_toArray, List.nil_append, List.cons_append]
  cases ht : inB 2 6 t
  · have HT := hid ht
    clear ht h
    gi_wp2
    rw [← HW1.out]
    refine ⟨trivial, (callsIn_wide.2 (hasRunners_b _ _ _ HT.out)).mono ?_⟩
    rintro e w' ⟨rfl, rfl⟩
    gi_wp2
    exact ⟨_, results_cells2 rfl _ _ _ _ _ _ rfl rfl (run_isAgg_plain Try.underlying22 rfl _) (run_isAgg_plain Try.underlying4 rfl _) HR.out HK.out, none, 0, rfl, own_nil _ _, HB.out⟩
  · have hb : 30 < xs.length := by
      unfold abwG at h
      rw [ht, Bool.true_and, decide_eq_false_iff_not] at h
      omega
    have hbi : (30 : Int) < (xs.length : Int) := by omega
    have HT := hid ht
    clear ht h hb
    gi_wp2
    rw [← HW1.out]
    refine ⟨trivial, (callsIn_wide.2 (hasRunners_b _ _ _ HT.out)).mono ?_⟩
    rintro e w' ⟨rfl, rfl⟩
    gi_wp2
    exact ⟨_, results_cells2 rfl _ _ _ _ _ _ rfl rfl (run_isAgg_plain Try.underlying22 rfl _) (run_isAgg_plain Try.underlying4 rfl _) HR.out HK.out, none, 0, rfl, own_nil _ _, HB.out⟩
theorem impl_ArrowByWord (t : Int) (A : Option Addr) (c : Nat) (xs : List Int) (w : World) (_ : I64 t) (hl : xs.length ≤ 1048576) (hc : Cells w A xs) :
    Calls Try.prog 14 #[.int .i64 t, .slice A xs.length c] w fun e w' => ∃ A' c', e = .returned (.tuple #[.slice A' (abwF t xs).length c', .bool (abwB t xs)]) ∧ Own w' w.heap.size A' c' (abwF t xs) ∧ Below w.heap.size w w' := by
  cases h : abwG t xs
  · rw [show abwF t xs = [] by simp [abwF, h], show abwB t xs = false by simp [abwB, h]]
    exact ArrowByWord_no t A c xs w hl h
  · have h2 := h
    simp only [abwG, Bool.and_eq_true, decide_eq_true_eq] at h2
    have ht := inB_iff.1 h2.1
    obtain ⟨n, rfl⟩ : ∃ n : Nat, t = n := ⟨t.toNat, by omega⟩
    rw [show abwF n xs = byL n xs by simp [abwF, h], show abwB n xs = byB n xs by simp [abwB, h]]
    exact (callsIn_wide (n := 5)).1 (ArrowByWord_in n A c xs w (by omega) h2.2 hc)
end Go.Proofs.Ytkbdlhmkiolegaa
