/-
  Several texts in one.
-/
import Derived.Test.YtkbdlhmkiolegaaR11
import Derived.Test.YtkbdlhmkiolegaaR13
import Derived.Test.YtkbdlhmkiolegaaR14
import Derived.Maps.AppendAt
import Derived.Test.YtkbdlhmkiolegaaR07
import Derived.Deep.RegionLaw
/-
  Contracts: RegularWith of the program and of the model (made by genrw2.py).
-/
namespace Go.Proofs.Ytkbdlhmkiolegaa
open Go.RowKit

def rwB8 (t n : Int) : Bool := inB 2 6 t && inB 0 12 n
def rgL (t n : Nat) : List (List Int) := (lst n n (T n n)).filter fun p => regB p t
def rwF8 (t n : Int) : List (List Int) := if rwB8 t n then rgL t.toNat n.toNat else []
theorem filt_snoc_yes {M : List (List Int)} {f : List Int → Bool} {j : Nat} (h : j < M.length) (hd : f (M.getD j []) = true) : (M.take (j + 1)).filter f = (M.take j).filter f ++ [M.getD j []] := by
  rw [List.take_succ_eq_append_getElem h, List.filter_append, List.getD_eq_getElem?_getD, List.getElem?_eq_getElem h]
  rw [List.getD_eq_getElem?_getD, List.getElem?_eq_getElem h] at hd
  rw [List.filter_cons_of_pos (by simpa using hd)]; rfl
theorem filt_snoc_no {M : List (List Int)} {f : List Int → Bool} {j : Nat} (h : j < M.length) (hd : f (M.getD j []) = false) : (M.take (j + 1)).filter f = (M.take j).filter f := by
  rw [List.take_succ_eq_append_getElem h, List.filter_append]
  rw [List.getD_eq_getElem?_getD, List.getElem?_eq_getElem h] at hd
  rw [List.filter_cons_of_neg (by simpa using hd)]; simp
theorem lst_rows {n : Nat} (hn : n ≤ 30) {r : List Int} (h : r ∈ lst n n (T n n)) : Good r ∧ r.sum = n := by
  obtain ⟨j, hj, rfl⟩ := List.getElem_of_mem h
  have hj2 : j < T n n := by rwa [lst_len] at hj
  have e := lst_get n n (T n n) j hj2
  rw [List.getD_eq_getElem?_getD, List.getElem?_eq_getElem hj] at e
  simp only [Option.getD_some] at e
  rw [e]
  exact pa_good hn hj2
theorem bound_RegularWith (t n : Int) : (rwF8 t n).length ≤ 1048576 ∧ tot (rwF8 t n) ≤ 1048576 := by
  unfold rwF8
  split
  · rename_i h
    simp only [rwB8, Bool.and_eq_true] at h
    have hn := inB_iff.1 h.2
    have h1 : (rgL t.toNat n.toNat).length ≤ 5604 := by
      have := List.length_filter_le (fun p => regB p t.toNat) (lst n.toNat n.toNat (T n.toNat n.toNat))
      rw [lst_len] at this
      have := T_bound n.toNat (by omega) n.toNat (by omega)
      unfold rgL; omega
    have h2 := tot_le (rgL t.toNat n.toNat) 30 fun r hr => (lst_rows (by omega) (List.mem_filter.1 hr).1).1.len
    omega
  · simp [tot]
theorem isReached_any (n : Int) (w : World) : Calls Try.prog 20 #[.int .i64 n] w fun e w' => e = .returned (.bool (inB 0 12 n)) ∧ w = w' := by
  by_cases h1 : 0 ≤ n
  · by_cases h2 : n ≤ 12
    · go_enter Try.func20, Try.ntmps20
      go_wp2
      go_ret
      exact ⟨by simp [inB, h1, h2], rfl⟩
    · go_enter Try.func20, Try.ntmps20
      go_wp2
      go_ret
      exact ⟨by simp [inB]; omega, rfl⟩
  · go_enter Try.func20, Try.ntmps20
    go_wp2
    go_ret
    exact ⟨by simp [inB]; omega, rfl⟩
theorem isReached_b (n : Int) (w : World) (b : Bool) (h : inB 0 12 n = b) : Calls Try.prog 20 #[.int .i64 n] w fun e w' => e = .returned (.bool b) ∧ w = w' := by
  subst h; exact isReached_any n w
theorem arList_any (t n : Int) (w : World) : Calls Try.prog 23 #[.int .i64 t, .int .i64 n] w fun e w' => e = .returned (.bool (rwB8 t n)) ∧ w = w' := by
  unfold rwB8
  cases ht : inB 2 6 t
  · have HT := hid ht
    clear ht
    go_enter Try.func23, Try.ntmps23
    go_wp2_with (go_at_call 33; refine (chRunners_b _ _ _ HT.out).mono ?_; rintro e w' ⟨rfl, rfl⟩)
    go_ret
    exact ⟨rfl, rfl⟩
  · have HT := hid ht
    rw [Bool.true_and]
    clear ht
    obtain ⟨b, hb⟩ : ∃ b, b = inB 0 12 n := ⟨_, rfl⟩
    rw [← hb]
    have HB := hid hb.symm
    clear hb
    go_enter Try.func23, Try.ntmps23
    go_wp2_with (first | (go_at_call 33; refine (chRunners_b _ _ _ HT.out).mono ?_; rintro e w' ⟨rfl, rfl⟩) | (go_at_call 41; refine (l1In_b _ _ _ _ _ HB.out).mono ?_; rintro e w' ⟨rfl, rfl⟩))
    go_ret
    exact ⟨rfl, rfl⟩
theorem arList_b (t n : Int) (w : World) (b : Bool) (h : rwB8 t n = b) : Calls Try.prog 23 #[.int .i64 t, .int .i64 n] w fun e w' => e = .returned (.bool b) ∧ w = w' := by
  subst h; exact arList_any t n w

set_option maxRecDepth 100000 in
set_option maxHeartbeats 4000000 in
theorem impl_RegularWith (t n : Int) (w : World) (_ : I64 t) (_ : I64 n) :
    Calls Try.prog 4 #[.int .i64 t, .int .i64 n] w fun e w' => ∃ A' c', e = .returned (.tuple #[.slice A' (rwF8 t n).length c', .bool (rwB8 t n)]) ∧ Own2 w' w.heap.size w'.heap.size A' c' (rwF8 t n) ∧ Below w.heap.size w w' := by
  obtain ⟨i1, hj, hy0, hy1, hy2⟩ := info_parts Try.infoInts
  cases ht : inB 2 6 t
  · rw [show rwF8 t n = [] by simp [rwF8, rwB8, ht], show rwB8 t n = false by simp [rwB8, ht]]
    have HT := hid ht
    clear ht
    go_enter Try.func4, Try.ntmps4
    go_wp2_with (go_at_call 19; refine (hasRunners_b _ _ _ HT.out).mono ?_; rintro e w' ⟨rfl, rfl⟩)
    go_ret2
    exact ⟨none, 0, rfl, own2_nil _ _ _, Below.refl _ _⟩
  cases hn : inB 0 12 n
  · rw [show rwF8 t n = [] by simp [rwF8, rwB8, hn], show rwB8 t n = false by simp [rwB8, hn]]
    have HT := hid ht
    have HN := hid hn
    clear ht hn
    go_enter Try.func4, Try.ntmps4
    go_wp2_with (first | (go_at_call 19; refine (hasRunners_b _ _ _ HT.out).mono ?_; rintro e w' ⟨rfl, rfl⟩) | (go_at_call 20; refine (isReached_b _ _ _ HN.out).mono ?_; rintro e w' ⟨rfl, rfl⟩))
    go_ret2
    exact ⟨none, 0, rfl, own2_nil _ _ _, Below.refl _ _⟩
  have HT := hid ht
  have HN0 := hid hn
  have hB : rwB8 t n = true := by simp [rwB8, ht, hn]
  have htb := inB_iff.1 (show inB 2 6 t = true by simp only [rwB8, Bool.and_eq_true] at hB; exact hB.1)
  have hnb := inB_iff.1 (show inB 0 12 n = true by simp only [rwB8, Bool.and_eq_true] at hB; exact hB.2)
  obtain ⟨k, rfl⟩ : ∃ k : Nat, t = k := ⟨t.toNat, by omega⟩
  obtain ⟨m, rfl⟩ : ∃ m : Nat, n = m := ⟨n.toNat, by omega⟩
  have hm : m ≤ 12 := by omega
  rw [show rwF8 k m = rgL k m by simp [rwF8, hB]]
  rw [hB]
  have hTb := T_bound m (by omega) m (by omega)
  have HLP := hid (listPartitions_any m w (by omega))
  rw [show allR m (T m m) = lst m m (T m m) from rfl] at HLP
  have hgd : ∀ r ∈ lst m m (T m m), Good r := fun r hr => (lst_rows (by omega) hr).1
  have hll := lst_len m m (T m m)
  have hFd : rgL k m = (lst m m (T m m)).filter fun p => regB p k := rfl
  obtain ⟨M, hM⟩ : ∃ M, M = lst m m (T m m) := ⟨_, rfl⟩
  rw [← hM] at HLP hll hgd hFd
  have HG := hid fun j (h : j < M.length) => hgd (M.getD j []) (by rw [List.getD_eq_getElem?_getD, List.getElem?_eq_getElem h]; exact List.getElem_mem h)
  have hMb : M.length ≤ 5604 := by omega
  obtain ⟨F, hF⟩ : ∃ F, F = rgL k m := ⟨_, rfl⟩
  rw [← hF] at hFd ⊢
  have HCHK := hid hFd
  obtain ⟨N, hN⟩ : ∃ N, N = M.length := ⟨_, rfl⟩
  have HNN := hid hN
  rw [← hN] at hMb HLP
  clear hTb hgd hll hM hF hFd hN hB ht hn
  go_enter Try.func4, Try.ntmps4
  go_wp2_with (first | (go_at_call 19; refine (hasRunners_b _ _ _ HT.out).mono ?_; rintro e w' ⟨rfl, rfl⟩) | (go_at_call 20; refine (isReached_b _ _ _ HN0.out).mono ?_; rintro e w' ⟨rfl, rfl⟩))
  refine HLP.out.mono ?_
  rintro e wc ⟨Ac, cc, rfl, ⟨Pc, Cc, oc⟩, bc⟩
  have HOC := hid oc
  have BC := hid bc
  have hszc := bc.size
  clear oc bc
  go_wp2_with fail
  go_loopw [6, 20] (fun v i wr => ∃ j : Nat, j ≤ N ∧ i = .int .i64 j ∧ Hid (∃ P C, Push wr w.heap.size v ((M.take j).filter fun p => regB p k) P C ∧ ∀ a, a < ((M.take j).filter fun p => regB p k).length → ∀ b, (P a).map Addr.block = some b → ∃ j', j' < j ∧ (Pc j').map Addr.block = some b) ∧ Hid (Below w.heap.size w wr ∧ wc.heap.size ≤ wr.heap.size ∧ (∀ b, w.heap.size ≤ b → b < wc.heap.size → wr.heap[b]? = wc.heap[b]?) ∧ ∀ q, v.ownBlock = some q → wc.heap.size ≤ q)) (fun _ i _ => N - (intOf i).toNat)
  case atStart => exact ⟨0, Nat.zero_le _, rfl, hid ⟨_, _, push_nil _ _, fun a ha => absurd ha (by simp)⟩, hid ⟨BC.out, Nat.le_refl _, fun _ _ _ => rfl, fun q hq => by simp [Value.ownBlock] at hq⟩⟩
  case round =>
    obtain ⟨j, hjm, rfl, HPP, HK4⟩ := hrel
    by_cases hjl : j < N
    · obtain ⟨b1, b2, b3, b4⟩ := HK4.out
      have hjM : j < M.length := by have := HNN.out; omega
      have HH := hid (HOC.out.keep (w' := wr) fun b _ hb1 hb2 => b3 b hb1 hb2)
      obtain ⟨tb, rfl, hckr⟩ := HH.out.top1 (j := j) hjM
      have hrow := HH.out.row j hjM
      have hgd := HG.out j hjM
      have HY := hid (filt_snoc_yes (M := M) (f := fun p => regB p k) (j := j) hjM)
      have HN := hid (filt_snoc_no (M := M) (f := fun p => regB p k) (j := j) hjM)
      obtain ⟨r, hr⟩ : ∃ r, r = M.getD j [] := ⟨_, rfl⟩
      rw [← hr] at hckr hrow hgd HY HN
      have HAD := hid fun cr => isRegular_any (Pc j) cr r k wr hgd.len (by omega) hrow.cells
      have HROW := hid hrow
      have hlf : ((M.take j).filter fun p => regB p k).length ≤ 5604 := by
        have := List.length_filter_le (fun p => regB p k) (M.take j)
        rw [List.length_take] at this; omega
      clear hrow hr b2 b3 b4 hgd
      cases hd : regB r k
      · have HE := hid (HN.out hd)
        rw [hd] at HAD
        clear hd HY HN
        go_wp2_with fail
        refine (HAD.out _).mono ?_
        rintro e w' ⟨rfl, q0, rfl⟩
        have HKD := hid (show Below w.heap.size w (wr.drewN q0) ∧ wc.heap.size ≤ (wr.drewN q0).heap.size ∧ (∀ b, w.heap.size ≤ b → b < wc.heap.size → (wr.drewN q0).heap[b]? = wc.heap[b]?) ∧ ∀ q, u6.ownBlock = some q → wc.heap.size ≤ q from by
          obtain ⟨k1, k2, k3, k4⟩ := HK4.out
          exact ⟨below_drewN k1 _, k2, k3, k4⟩)
        have HPD := hid (show ∃ P C, Push (wr.drewN q0) w.heap.size u6 ((M.take (j + 1)).filter fun p => regB p k) P C ∧ ∀ a, a < ((M.take (j + 1)).filter fun p => regB p k).length → ∀ b, (P a).map Addr.block = some b → ∃ j', j' < j + 1 ∧ (Pc j').map Addr.block = some b from by
          rw [HE.out]
          obtain ⟨P, C, hp, hq⟩ := HPP.out
          exact ⟨P, C, ⟨hp.out, hp.row, hp.apart⟩, fun a ha b hb => (by obtain ⟨j', h1, h2⟩ := hq a ha b hb; exact ⟨j', by omega, h2⟩)⟩)
        clear HPP HK4
        go_wp2_with fail
        go_roundw
        case rel => exact ⟨j + 1, by omega, by go_num, HPD, HKD⟩
        case measure => simp [intOf]; omega
      · have HE := hid (HY.out hd)
        rw [hd] at HAD
        obtain ⟨P, C, hp, hq⟩ := HPP.out
        obtain ⟨L, hL⟩ : ∃ L, L = (M.take j).filter fun p => regB p k := ⟨_, rfl⟩
        rw [← hL] at hp hq HE hlf
        have HPQ := hid hq
        clear hd HY HN hq hL
        go_wp2_with fail
        refine (HAD.out _).mono ?_
        rintro e w' ⟨rfl, q0, rfl⟩
        obtain ⟨wd, hwd⟩ : ∃ wd, wd = wr.drewN q0 := ⟨_, rfl⟩
        have HP1 := hid (show Push wd w.heap.size u6 L P C by rw [hwd]; exact ⟨hp.out, hp.row, hp.apart⟩)
        have HROWD := hid (show Own wd w.heap.size (Pc j) (Cc j) r by rw [hwd]; exact HROW.out.drewN q0)
        have HKD := hid (show Below w.heap.size w wd ∧ wc.heap.size ≤ wd.heap.size ∧ (∀ b, w.heap.size ≤ b → b < wc.heap.size → wd.heap[b]? = wc.heap[b]?) ∧ ∀ q, u6.ownBlock = some q → wc.heap.size ≤ q from by
          rw [hwd]
          obtain ⟨k1, k2, k3, k4⟩ := HK4.out
          exact ⟨below_drewN k1 _, k2, k3, k4⟩)
        rw [← hwd]
        have hsb := HKD.out.1.size
        clear hwd hp HK4 HPP b1
        go_wp2_with (at_builtin; refine wpList_append_own_at _ rfl _ _ 23 rfl w.heap.size 22 i1 (.slice none 0 0) 1 24 Try.underlying23 hj hy0 hy1 hy2 rfl (by decide) _ _ _ rfl (HP1.out.out.alloc _) ⟨wd.heap.size, 0, none⟩ 1 1 [.slice (Pc j) r.length (Cc j)] rfl rfl one_at (one_cellS _ _ _) (by unfold maxLen; omega) (by omega) (by simp; omega) ?_)
        intro v2 w2 hown2 hgrow2 _ hat
        have hp2 := HP1.out.pushAp HROWD.out (fun a ha b hb hc2 => by
          obtain ⟨j', h1, h2⟩ := HPQ.out a ha b hb
          exact HH.out.apart j' j h1 hjM b h2 hc2) hown2 hgrow2
        have hpool : ∀ a, a < (L ++ [r]).length → ∀ b, (setAt P L.length (Pc j) a).map Addr.block = some b → ∃ j', j' < j + 1 ∧ (Pc j').map Addr.block = some b := fun a ha b hb => by
          by_cases ea : a = L.length
          · rw [ea, setAt_eq] at hb; exact ⟨j, by omega, hb⟩
          · rw [setAt_ne P _ ea] at hb
            rw [List.length_append, List.length_singleton] at ha
            obtain ⟨j', h1, h2⟩ := HPQ.out a (by omega) b hb
            exact ⟨j', by omega, h2⟩
        rw [← HE.out] at hp2 hpool
        have hgs := hgrow2.size
        have hal : ∀ o : Obj, (wd.alloc o).heap.size = wd.heap.size + 1 := fun o => by simp
        have hb2 : Below w.heap.size w w2 := (HKD.out.1.alloc (by omega) _).grown hgrow2 (by simp; omega) (fun q hq => (HP1.out.out.lt q hq).1)
        have HNX := hid (show Below w.heap.size w w2 ∧ wc.heap.size ≤ w2.heap.size ∧ (∀ b, w.heap.size ≤ b → b < wc.heap.size → w2.heap[b]? = wc.heap[b]?) ∧ ∀ q, v2.ownBlock = some q → wc.heap.size ≤ q from by
          obtain ⟨k1, k2, k3, k4⟩ := HKD.out
          refine ⟨hb2, by rw [hal] at hgs; omega, fun b hb1 hb2 => ?_, fun q hq => ?_⟩
          · rw [hgrow2.block b (by rw [hal]; omega) (fun e => by have := k4 b e.symm; omega), Below.heap_alloc _ _ _ (by omega)]
            exact k3 b hb1 hb2
          · rcases hat with h | h
            · exact k4 q (by rw [← h]; exact hq)
            · rw [h] at hq
              have : wd.heap.size + 1 = q := by simpa [Value.ownBlock] using hq
              omega)
        have HP2 := hid hp2
        have HPOOL := hid hpool
        clear hown2 hgrow2 hat hp2 hpool hgs hal HP1 HPQ
        go_wp2_with fail
        go_roundw
        case rel => exact ⟨j + 1, by omega, by go_num, hid ⟨_, _, HP2.out, HPOOL.out⟩, HNX⟩
        case measure => simp [intOf]; omega
    · have hje : ((M.take j).filter fun p => regB p k) = F := by
        rw [List.take_of_length_le (by have := HNN.out; omega)]; exact HCHK.out.symm
      have HBB := hid HK4.out.1
      obtain ⟨P, C, hp, _⟩ := HPP.out
      rw [hje] at hp
      obtain ⟨A', c', rfl, ho⟩ := hp.own2
      have HO := hid ho
      clear ho hp hje
      go_wp2_with fail
      go_ret2
      exact ⟨A', c', rfl, HO.out, HBB.out⟩

set_option maxRecDepth 100000 in
set_option maxHeartbeats 4000000 in
theorem spec_RegularWith (t n : Int) (w : World) (_ : I64 t) (_ : I64 n) :
    Calls Try.prog 5 #[.int .i64 t, .int .i64 n] w fun e w' => ∃ A' c', e = .returned (.tuple #[.slice A' (rwF8 t n).length c', .bool (rwB8 t n)]) ∧ Own2 w' w.heap.size w'.heap.size A' c' (rwF8 t n) ∧ Below w.heap.size w w' := by
  obtain ⟨i1, hj, hy0, hy1, hy2⟩ := info_parts Try.infoInts
  cases hB0 : rwB8 t n
  · rw [show rwF8 t n = [] by simp [rwF8, hB0]]
    have HB := hid hB0
    clear hB0
    go_enter Try.func5, Try.ntmps5
    go_wp2_with (go_at_call 23; refine (arList_b _ _ _ _ HB.out).mono ?_; rintro e w' ⟨rfl, rfl⟩)
    go_ret2
    exact ⟨none, 0, rfl, own2_nil _ _ _, Below.refl _ _⟩
  have HB := hid hB0
  have hB : rwB8 t n = true := hB0
  have htb := inB_iff.1 (show inB 2 6 t = true by simp only [rwB8, Bool.and_eq_true] at hB; exact hB.1)
  have hnb := inB_iff.1 (show inB 0 12 n = true by simp only [rwB8, Bool.and_eq_true] at hB; exact hB.2)
  obtain ⟨k, rfl⟩ : ∃ k : Nat, t = k := ⟨t.toNat, by omega⟩
  obtain ⟨m, rfl⟩ : ∃ m : Nat, n = m := ⟨n.toNat, by omega⟩
  have hm : m ≤ 12 := by omega
  rw [show rwF8 k m = rgL k m by simp [rwF8, hB]]
  have _ := hB
  have hTb := T_bound m (by omega) m (by omega)
  have HLP := hid (ptAll_any m m m w (Nat.le_refl _) (by omega) (by omega))
  have _ := hm
  have hgd : ∀ r ∈ lst m m (T m m), Good r := fun r hr => (lst_rows (by omega) hr).1
  have hll := lst_len m m (T m m)
  have hFd : rgL k m = (lst m m (T m m)).filter fun p => regB p k := rfl
  obtain ⟨M, hM⟩ : ∃ M, M = lst m m (T m m) := ⟨_, rfl⟩
  rw [← hM] at HLP hll hgd hFd
  have HG := hid fun j (h : j < M.length) => hgd (M.getD j []) (by rw [List.getD_eq_getElem?_getD, List.getElem?_eq_getElem h]; exact List.getElem_mem h)
  have hMb : M.length ≤ 5604 := by omega
  obtain ⟨F, hF⟩ : ∃ F, F = rgL k m := ⟨_, rfl⟩
  rw [← hF] at hFd ⊢
  have HCHK := hid hFd
  obtain ⟨N, hN⟩ : ∃ N, N = M.length := ⟨_, rfl⟩
  have HNN := hid hN
  rw [← hN] at hMb HLP
  clear hTb hgd hll hM hF hFd hN hB hB0
  go_enter Try.func5, Try.ntmps5
  go_wp2_with (go_at_call 23; refine (arList_b _ _ _ _ HB.out).mono ?_; rintro e w' ⟨rfl, rfl⟩)
  refine HLP.out.mono ?_
  rintro e wc ⟨Ac, cc, rfl, ⟨Pc, Cc, oc⟩, bc⟩
  have HOC := hid oc
  have BC := hid bc
  have hszc := bc.size
  clear oc bc
  go_wp2_with fail
  go_loopw [6, 17] (fun v i wr => ∃ j : Nat, j ≤ N ∧ i = .int .i64 j ∧ Hid (∃ P C, Push wr w.heap.size v ((M.take j).filter fun p => regB p k) P C ∧ ∀ a, a < ((M.take j).filter fun p => regB p k).length → ∀ b, (P a).map Addr.block = some b → ∃ j', j' < j ∧ (Pc j').map Addr.block = some b) ∧ Hid (Below w.heap.size w wr ∧ wc.heap.size ≤ wr.heap.size ∧ (∀ b, w.heap.size ≤ b → b < wc.heap.size → wr.heap[b]? = wc.heap[b]?) ∧ ∀ q, v.ownBlock = some q → wc.heap.size ≤ q)) (fun _ i _ => N - (intOf i).toNat)
  case atStart => exact ⟨0, Nat.zero_le _, rfl, hid ⟨_, _, push_nil _ _, fun a ha => absurd ha (by simp)⟩, hid ⟨BC.out, Nat.le_refl _, fun _ _ _ => rfl, fun q hq => by simp [Value.ownBlock] at hq⟩⟩
  case round =>
    obtain ⟨j, hjm, rfl, HPP, HK4⟩ := hrel
    by_cases hjl : j < N
    · obtain ⟨b1, b2, b3, b4⟩ := HK4.out
      have hjM : j < M.length := by have := HNN.out; omega
      have HH := hid (HOC.out.keep (w' := wr) fun b _ hb1 hb2 => b3 b hb1 hb2)
      obtain ⟨tb, rfl, hckr⟩ := HH.out.top1 (j := j) hjM
      have hrow := HH.out.row j hjM
      have hgd := HG.out j hjM
      have HY := hid (filt_snoc_yes (M := M) (f := fun p => regB p k) (j := j) hjM)
      have HN := hid (filt_snoc_no (M := M) (f := fun p => regB p k) (j := j) hjM)
      obtain ⟨r, hr⟩ : ∃ r, r = M.getD j [] := ⟨_, rfl⟩
      rw [← hr] at hckr hrow hgd HY HN
      have HAD := hid fun cr => arRegular_any (Pc j) cr r k wr hgd.len (by omega) hrow.cells
      have HROW := hid hrow
      have hlf : ((M.take j).filter fun p => regB p k).length ≤ 5604 := by
        have := List.length_filter_le (fun p => regB p k) (M.take j)
        rw [List.length_take] at this; omega
      clear hrow hr b2 b3 b4 hgd
      cases hd : regB r k
      · have HE := hid (HN.out hd)
        rw [hd] at HAD
        clear hd HY HN
        go_wp2_with fail
        refine (HAD.out _).mono ?_
        rintro e w' ⟨rfl, q0, rfl⟩
        have HKD := hid (show Below w.heap.size w (wr.drewN q0) ∧ wc.heap.size ≤ (wr.drewN q0).heap.size ∧ (∀ b, w.heap.size ≤ b → b < wc.heap.size → (wr.drewN q0).heap[b]? = wc.heap[b]?) ∧ ∀ q, u6.ownBlock = some q → wc.heap.size ≤ q from by
          obtain ⟨k1, k2, k3, k4⟩ := HK4.out
          exact ⟨below_drewN k1 _, k2, k3, k4⟩)
        have HPD := hid (show ∃ P C, Push (wr.drewN q0) w.heap.size u6 ((M.take (j + 1)).filter fun p => regB p k) P C ∧ ∀ a, a < ((M.take (j + 1)).filter fun p => regB p k).length → ∀ b, (P a).map Addr.block = some b → ∃ j', j' < j + 1 ∧ (Pc j').map Addr.block = some b from by
          rw [HE.out]
          obtain ⟨P, C, hp, hq⟩ := HPP.out
          exact ⟨P, C, ⟨hp.out, hp.row, hp.apart⟩, fun a ha b hb => (by obtain ⟨j', h1, h2⟩ := hq a ha b hb; exact ⟨j', by omega, h2⟩)⟩)
        clear HPP HK4
        go_wp2_with fail
        go_roundw
        case rel => exact ⟨j + 1, by omega, by go_num, HPD, HKD⟩
        case measure => simp [intOf]; omega
      · have HE := hid (HY.out hd)
        rw [hd] at HAD
        obtain ⟨P, C, hp, hq⟩ := HPP.out
        obtain ⟨L, hL⟩ : ∃ L, L = (M.take j).filter fun p => regB p k := ⟨_, rfl⟩
        rw [← hL] at hp hq HE hlf
        have HPQ := hid hq
        clear hd HY HN hq hL
        go_wp2_with fail
        refine (HAD.out _).mono ?_
        rintro e w' ⟨rfl, q0, rfl⟩
        obtain ⟨wd, hwd⟩ : ∃ wd, wd = wr.drewN q0 := ⟨_, rfl⟩
        have HP1 := hid (show Push wd w.heap.size u6 L P C by rw [hwd]; exact ⟨hp.out, hp.row, hp.apart⟩)
        have HROWD := hid (show Own wd w.heap.size (Pc j) (Cc j) r by rw [hwd]; exact HROW.out.drewN q0)
        have HKD := hid (show Below w.heap.size w wd ∧ wc.heap.size ≤ wd.heap.size ∧ (∀ b, w.heap.size ≤ b → b < wc.heap.size → wd.heap[b]? = wc.heap[b]?) ∧ ∀ q, u6.ownBlock = some q → wc.heap.size ≤ q from by
          rw [hwd]
          obtain ⟨k1, k2, k3, k4⟩ := HK4.out
          exact ⟨below_drewN k1 _, k2, k3, k4⟩)
        rw [← hwd]
        have hsb := HKD.out.1.size
        clear hwd hp HK4 HPP b1
        go_wp2_with (at_builtin; refine wpList_append_own_at _ rfl _ _ 23 rfl w.heap.size 22 i1 (.slice none 0 0) 1 24 Try.underlying23 hj hy0 hy1 hy2 rfl (by decide) _ _ _ rfl (HP1.out.out.alloc _) ⟨wd.heap.size, 0, none⟩ 1 1 [.slice (Pc j) r.length (Cc j)] rfl rfl one_at (one_cellS _ _ _) (by unfold maxLen; omega) (by omega) (by simp; omega) ?_)
        intro v2 w2 hown2 hgrow2 _ hat
        have hp2 := HP1.out.pushAp HROWD.out (fun a ha b hb hc2 => by
          obtain ⟨j', h1, h2⟩ := HPQ.out a ha b hb
          exact HH.out.apart j' j h1 hjM b h2 hc2) hown2 hgrow2
        have hpool : ∀ a, a < (L ++ [r]).length → ∀ b, (setAt P L.length (Pc j) a).map Addr.block = some b → ∃ j', j' < j + 1 ∧ (Pc j').map Addr.block = some b := fun a ha b hb => by
          by_cases ea : a = L.length
          · rw [ea, setAt_eq] at hb; exact ⟨j, by omega, hb⟩
          · rw [setAt_ne P _ ea] at hb
            rw [List.length_append, List.length_singleton] at ha
            obtain ⟨j', h1, h2⟩ := HPQ.out a (by omega) b hb
            exact ⟨j', by omega, h2⟩
        rw [← HE.out] at hp2 hpool
        have hgs := hgrow2.size
        have hal : ∀ o : Obj, (wd.alloc o).heap.size = wd.heap.size + 1 := fun o => by simp
        have hb2 : Below w.heap.size w w2 := (HKD.out.1.alloc (by omega) _).grown hgrow2 (by simp; omega) (fun q hq => (HP1.out.out.lt q hq).1)
        have HNX := hid (show Below w.heap.size w w2 ∧ wc.heap.size ≤ w2.heap.size ∧ (∀ b, w.heap.size ≤ b → b < wc.heap.size → w2.heap[b]? = wc.heap[b]?) ∧ ∀ q, v2.ownBlock = some q → wc.heap.size ≤ q from by
          obtain ⟨k1, k2, k3, k4⟩ := HKD.out
          refine ⟨hb2, by rw [hal] at hgs; omega, fun b hb1 hb2 => ?_, fun q hq => ?_⟩
          · rw [hgrow2.block b (by rw [hal]; omega) (fun e => by have := k4 b e.symm; omega), Below.heap_alloc _ _ _ (by omega)]
            exact k3 b hb1 hb2
          · rcases hat with h | h
            · exact k4 q (by rw [← h]; exact hq)
            · rw [h] at hq
              have : wd.heap.size + 1 = q := by simpa [Value.ownBlock] using hq
              omega)
        have HP2 := hid hp2
        have HPOOL := hid hpool
        clear hown2 hgrow2 hat hp2 hpool hgs hal HP1 HPQ
        go_wp2_with fail
        go_roundw
        case rel => exact ⟨j + 1, by omega, by go_num, hid ⟨_, _, HP2.out, HPOOL.out⟩, HNX⟩
        case measure => simp [intOf]; omega
    · have hje : ((M.take j).filter fun p => regB p k) = F := by
        rw [List.take_of_length_le (by have := HNN.out; omega)]; exact HCHK.out.symm
      have HBB := hid HK4.out.1
      obtain ⟨P, C, hp, _⟩ := HPP.out
      rw [hje] at hp
      obtain ⟨A', c', rfl, ho⟩ := hp.own2
      have HO := hid ho
      clear ho hp hje
      go_wp2_with fail
      go_ret2
      exact ⟨A', c', rfl, HO.out, HBB.out⟩
end Go.Proofs.Ytkbdlhmkiolegaa
/-
  An append as one step of a region that draws its order.
-/
namespace Go.Proofs.Ytkbdlhmkiolegaa
open Go.RowKit

theorem step_append_opt {P : Program} (w : World) {ops : Array Oper} {o : Oper} {a : Act} {K : Act → World → Prop} {Q : Exit → Act → World → Prop} {E : Prop} (hgd : o.guard = none) (s x : Operand) (t : TypeId)
    (ho : o.op = .call { callee := .builtin .append, args := #[s, x], argTypes := #[t, t] })
    (base : Nat) (e : TypeId) (i : TypeInfo) (z : Value) (size bytes : Nat) (ht : P.underlying t = some (.slice e)) (hi : P.info? e = some i) (hz : i.zero = some z)
    (hsize : i.size = size) (hby : i.bytes = bytes) (hzs : z.cells.size = size) (hsz : 0 < size)
    (v : Value) (n : Nat) (xs : List Value) (hs : a.eval s = v) (hown : w.ownsRow base e size v n xs)
    (A : Option Addr) (m c : Nat) (news : List Value) (hx : a.eval x = .slice A m c) (hl : news.length = m * size) (hnone : A = none → m = 0 ∧ c = 0) (hnews : ∀ ad, A = some ad → ∀ j u, news[j]? = some u → w.cell? (ad.add j) = some u) (h1 : ∀ u ∈ news, u.oneCell' = true)
    (h63 : n + m ≤ maxLen) (hbytes : (n + m) * bytes ≤ 140737488355328) (hbase : base ≤ w.heap.size)
    (h : ∀ v' w', w'.ownsRow base e size v' (n + m) (xs ++ news) → w.grownBy w' v.ownBlock → K (a.put o.dst v') w') : if Region.wanted o (yielded ops a.tmps) = true then Oper.wp P o a w K Q else E := by
  have hw : Region.wanted o (yielded ops a.tmps) = true := by simp [Region.wanted, hgd]
  rw [if_pos hw]
  cases A with
  | some ad => exact wp_append_own w s x t ho base e i z size bytes ht hi hz hsize hby hzs hsz v n xs hs hown ad m c news hx hl (hnews ad rfl) h1 h63 hbytes hbase fun v' w' a b _ => h v' w' a b
  | none =>
    obtain ⟨rfl, rfl⟩ := hnone rfl
    have hn : news = [] := List.eq_nil_of_length_eq_zero (by omega)
    subst hn
    have hr := run_append_owned_none (P := P) w base t o.type e i size ht hi v n xs hown
    unfold Oper.wp execOp
    simp only [ho, resolve, invoke, builtin, Sem.run_bind, Sem.run_pure, Result.andThen_ok, List.map_toArray, List.map_cons, List.map_nil, hs, hx, hr]
    exact h v w (by rw [List.append_nil]; exact hown) ⟨rfl, rfl, rfl, Nat.le_refl _, fun _ _ _ => rfl⟩
theorem ownsRow_moreA {w : World} {B B' e s n : Nat} {v : Value} {xs : List Value} (h : w.ownsRow B e s v n xs) (hB : B' ≤ B) : w.ownsRow B' e s v n xs := by
  refine ⟨h.1, ?_⟩
  rcases h.2 with hn | ⟨g, cap, cur, hv, hb, rest⟩
  · exact .inl hn
  · exact .inr ⟨g, cap, cur, hv, Nat.le_trans hB hb, rest⟩
end Go.Proofs.Ytkbdlhmkiolegaa
/-
  Contract: the model's insertion of a core into rows (chPut).
-/
namespace Go.Proofs.Ytkbdlhmkiolegaa
open Go.RowKit

def kC : List (List Int) → List Int → Nat
  | [], _ => 0
  | r :: rs, p => if befB r p = true then kC rs p + 1 else 0
theorem kC_eq : ∀ (rows : List (List Int)) (p : List Int) (k : Nat), k ≤ rows.length → (∀ j, j < k → befB (rows.getD j []) p = true) → (k = rows.length ∨ befB (rows.getD k []) p = false) → kC rows p = k
  | [], p, k, h, _, _ => by simp at h; rw [h]; rfl
  | r :: rs, p, 0, _, _, h2 => by
    rcases h2 with h2 | h2
    · simp at h2
    · have h3 : befB r p = false := h2
      rw [kC, if_neg (by rw [h3]; simp)]
  | r :: rs, p, k + 1, h, h1, h2 => by
    have h3 : befB r p = true := h1 0 (by omega)
    rw [kC, if_pos h3, kC_eq rs p k (by simpa using h) (fun j hj => h1 (j + 1) (by omega)) (h2.imp (fun e => by simpa using e) id)]

end Go.Proofs.Ytkbdlhmkiolegaa
