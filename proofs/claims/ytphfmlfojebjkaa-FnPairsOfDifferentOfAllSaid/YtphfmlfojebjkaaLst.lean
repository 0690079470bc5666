/-
  Contracts: the list of all strict partitions, of the program.
-/
import Derived.Test.YtphfmlfojebjkaaBr
import Derived.Test.YtphfmlfojebjkaaCH
import Derived.Test.YtphfmlfojebjkaaKeep2
import Derived.Test.YtphfmlfojebjkaaPaMath
import Derived.Test.YtphfmlfojebjkaaPushAp
import Derived.Maps.AppendAt
namespace Go.Proofs.Ytphfmlfojebjkaa
open Go.RowKit

theorem filter_snoc_yes {M : List (List Int)} {j : Nat} (h : j < M.length) (hd : dcr (M.getD j []) = true) : (M.take (j + 1)).filter dcr = (M.take j).filter dcr ++ [M.getD j []] := by
  rw [List.take_succ_eq_append_getElem h, List.filter_append, List.getD_eq_getElem?_getD, List.getElem?_eq_getElem h]
  rw [List.getD_eq_getElem?_getD, List.getElem?_eq_getElem h] at hd
  rw [List.filter_cons_of_pos (by simpa using hd)]; rfl
theorem filter_snoc_no {M : List (List Int)} {j : Nat} (h : j < M.length) (hd : dcr (M.getD j []) = false) : (M.take (j + 1)).filter dcr = (M.take j).filter dcr := by
  rw [List.take_succ_eq_append_getElem h, List.filter_append]
  rw [List.getD_eq_getElem?_getD, List.getElem?_eq_getElem h] at hd
  rw [List.filter_cons_of_neg (by simpa using hd)]; simp

set_option maxRecDepth 100000 in
set_option maxHeartbeats 2000000 in
theorem listStrict_any (m : Nat) (w : World) (hm : m ≤ 30) :
    Calls Try.prog 21 #[.int .i64 m] w fun e w' => ∃ A' c', e = .returned (.slice A' ((lst m m (T m m)).filter dcr).length c') ∧ Own2 w' w.heap.size w'.heap.size A' c' ((lst m m (T m m)).filter dcr) ∧ Below w.heap.size w w' := by
  obtain ⟨i1, hj, hy0, hy1, hy2⟩ := info_parts Try.infoInts
  have hTb := T_bound m (by omega) m (by omega)
  have HLP := hid (listPartitions_30 m w (by omega))
  have hGd := hid fun j (h : j < T m m) => (pa_good (n := m) (r := j) (by omega) h).1
  have hget := fun j (h : j < T m m) => lst_get m m (T m m) j h
  rw [show allR m (T m m) = lst m m (T m m) from rfl] at HLP
  have hll := lst_len m m (T m m)
  obtain ⟨M, hM⟩ : ∃ M, M = lst m m (T m m) := ⟨_, rfl⟩
  rw [← hM] at HLP hll ⊢
  rw [← hM] at hget
  have HG := hid fun j (h : j < M.length) => (show Good (M.getD j []) by rw [hget j (by omega)]; exact hGd.out j (by omega))
  have hMb : M.length ≤ 5604 := by omega
  obtain ⟨F, hF⟩ : ∃ F, F = M.filter dcr := ⟨_, rfl⟩
  rw [← hF]
  have HCHK := hid hF.symm
  obtain ⟨N, hN⟩ : ∃ N, N = M.length := ⟨_, rfl⟩
  have HNN := hid hN
  rw [← hN] at hMb HLP
  clear hTb hGd hget hll hM hF hN
  go_enter Try.func21, Try.ntmps21
  go_wp2_with fail
  refine HLP.out.mono ?_
  rintro e wc ⟨Ac, cc, rfl, ⟨Pc, Cc, oc⟩, bc⟩
  have HOC := hid oc
  have BC := hid bc
  have hszc := bc.size
  clear oc bc
  go_wp2_with fail
  go_loopw [3, 9] (fun v i wr => ∃ j : Nat, j ≤ N ∧ i = .int .i64 j ∧ Hid (∃ P C, Push wr w.heap.size v ((M.take j).filter dcr) P C ∧ ∀ a, a < ((M.take j).filter dcr).length → ∀ b, (P a).map Addr.block = some b → ∃ j', j' < j ∧ (Pc j').map Addr.block = some b) ∧ Hid (Below w.heap.size w wr ∧ wc.heap.size ≤ wr.heap.size ∧ (∀ b, w.heap.size ≤ b → b < wc.heap.size → wr.heap[b]? = wc.heap[b]?) ∧ ∀ q, v.ownBlock = some q → wc.heap.size ≤ q)) (fun _ i _ => N - (intOf i).toNat)
  case atStart => exact ⟨0, Nat.zero_le _, rfl, hid ⟨_, _, push_nil _ _, fun a ha => absurd ha (by simp)⟩, hid ⟨BC.out, Nat.le_refl _, fun _ _ _ => rfl, fun q hq => by simp [Value.ownBlock] at hq⟩⟩
  case round =>
    obtain ⟨j, hjm, rfl, HPP, HK4⟩ := hrel
    by_cases hjl : j < N
    · obtain ⟨b1, b2, b3, b4⟩ := HK4.out
      have hjM : j < M.length := by have := HNN.out; omega
      have HH := hid (HOC.out.keep (w' := wr) fun b _ hb1 hb2 => b3 b hb1 hb2)
      obtain ⟨tb, rfl, hckr⟩ := HH.out.top1 (j := j) hjM
      have hrow := HH.out.row j hjM
      have hgd := HG.out j hjM
      have HY := hid (filter_snoc_yes (M := M) (j := j) hjM)
      have HN := hid (filter_snoc_no (M := M) (j := j) hjM)
      obtain ⟨r, hr⟩ : ∃ r, r = M.getD j [] := ⟨_, rfl⟩
      rw [← hr] at hckr hrow hgd HY HN
      have HAD := hid fun cr => areDifferent_any (Pc j) r cr wr hgd hrow.cells
      have HROW := hid hrow
      have hlf : ((M.take j).filter dcr).length ≤ 5604 := by
        have := List.length_filter_le dcr (M.take j)
        rw [List.length_take] at this; omega
      clear hrow hr b2 b3 b4 hgd
      cases hd : dcr r
      · have HE := hid (HN.out hd)
        rw [hd] at HAD
        clear hd HY HN
        go_wp2_with (go_at_call 19; refine (HAD.out _).mono ?_; rintro e w' ⟨rfl, rfl⟩)
        have HKK := hid HK4.out
        go_roundw
        case rel => exact ⟨j + 1, by omega, by go_num, hid (by rw [HE.out]; obtain ⟨P, C, hp, hq⟩ := HPP.out; exact ⟨P, C, hp, fun a ha b hb => (by obtain ⟨j', h1, h2⟩ := hq a ha b hb; exact ⟨j', by omega, h2⟩)⟩), HKK⟩
        case measure => simp [intOf]; omega
      · have HE := hid (HY.out hd)
        rw [hd] at HAD
        obtain ⟨P, C, hp, hq⟩ := HPP.out
        obtain ⟨L, hL⟩ : ∃ L, L = (M.take j).filter dcr := ⟨_, rfl⟩
        rw [← hL] at hp hq HE hlf
        have HPQ := hid hq
        have HP1 := hid hp
        clear hd HY HN hp hq hL
        go_wp2_with (first | (go_at_call 19; refine (HAD.out _).mono ?_; rintro e w' ⟨rfl, rfl⟩) | (at_builtin; refine wpList_append_own_at _ rfl _ _ 37 rfl w.heap.size 22 i1 (.slice none 0 0) 1 24 Try.underlying37 hj hy0 hy1 hy2 rfl (by decide) _ _ _ rfl (HP1.out.out.alloc _) ⟨wr.heap.size, 0, none⟩ 1 1 [.slice (Pc j) r.length (Cc j)] rfl rfl one_at (one_cellS _ _ _) (by unfold maxLen; omega) (by omega) (by have := b1.size; simp; omega) ?_))
        intro v2 w2 hown2 hgrow2 _ hat
        have hp2 := HP1.out.pushAp HROW.out (fun a ha b hb hc2 => by
          obtain ⟨j', h1, h2⟩ := HPQ.out a ha b hb
          exact HH.out.apart j' j h1 hjM b h2 hc2) hown2 hgrow2
        have hpool : ∀ a, a < (L ++ [r]).length → ∀ b, (setAt P L.length (Pc j) a).map Addr.block = some b → ∃ j', j' < j + 1 ∧ (Pc j').map Addr.block = some b := fun a ha b hb => by
          by_cases ea : a = L.length
          · rw [ea, setAt_eq] at hb; exact ⟨j, by omega, hb⟩
          · rw [setAt_ne P _ ea] at hb
            rw [List.length_append, List.length_singleton] at ha
            obtain ⟨j', h1, h2⟩ := HPQ.out a (by omega) b hb
            exact ⟨j', by omega, h2⟩
        rw [← HE.out] at hp2 hpool
        have hgs := hgrow2.size
        have hal : ∀ o : Obj, (wr.alloc o).heap.size = wr.heap.size + 1 := fun o => by simp
        have hsb := b1.size
        have hb2 : Below w.heap.size w w2 := (b1.alloc (by omega) _).grown hgrow2 (by simp; omega) (fun q hq => (HP1.out.out.lt q hq).1)
        have HNX := hid (show Below w.heap.size w w2 ∧ wc.heap.size ≤ w2.heap.size ∧ (∀ b, w.heap.size ≤ b → b < wc.heap.size → w2.heap[b]? = wc.heap[b]?) ∧ ∀ q, v2.ownBlock = some q → wc.heap.size ≤ q from by
          obtain ⟨k1, k2, k3, k4⟩ := HK4.out
          refine ⟨hb2, by rw [hal] at hgs; omega, fun b hb1 hb2 => ?_, fun q hq => ?_⟩
          · rw [hgrow2.block b (by rw [hal]; omega) (fun e => by have := k4 b e.symm; omega), Below.heap_alloc _ _ _ (by omega)]
            exact k3 b hb1 hb2
          · rcases hat with h | h
            · exact k4 q (by rw [← h]; exact hq)
            · rw [h] at hq
              have : wr.heap.size + 1 = q := by simpa [Value.ownBlock] using hq
              omega)
        have HP2 := hid hp2
        have HPOOL := hid hpool
        clear hown2 hgrow2 hat hp2 hpool hgs hal HP1 HPQ
        go_wp2_with fail
        go_roundw
        case rel => exact ⟨j + 1, by omega, by go_num, hid ⟨_, _, HP2.out, HPOOL.out⟩, HNX⟩
        case measure => simp [intOf]; omega
    · have hje : (M.take j).filter dcr = F := by
        rw [List.take_of_length_le (by have := HNN.out; omega)]; exact HCHK.out
      have HJE := hid hje
      have HBB := hid HK4.out.1
      obtain ⟨P, C, hp, _⟩ := HPP.out
      rw [hje] at hp
      obtain ⟨A', c', rfl, ho⟩ := hp.own2
      have HO := hid ho
      clear ho hp hje
      go_wp2_with fail
      go_ret
      exact ⟨A', c', rfl, HO.out, HBB.out⟩
end Go.Proofs.Ytphfmlfojebjkaa
