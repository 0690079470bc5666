/-
  Contracts: bars that are searched, all of them and up to an index.
-/
import Derived.Test.YtcgoiddghenkmaaBarI
import Derived.Test.YtcgoiddghenkmaaCC
import Derived.Maps.AppendAt
import Derived.WalkMore
import Derived.Test.YtcgoiddghenkmaaKeep2
namespace Go.Proofs.Ytcgoiddghenkmaa
open Go.RowKit

theorem ownsRow_slice' {w : World} {B e s n : Nat} {v : Value} {xs : List Value} (h : w.ownsRow B e s v n xs) : ∃ A c, v = .slice A n c := by
  rcases h.2 with ⟨hv, h0⟩ | ⟨g, cap, cur, hv, _⟩
  · exact ⟨none, 0, by rw [hv, h0]⟩
  · exact ⟨_, _, hv⟩
theorem over_no (A : Option Addr) (n c : Nat) (w : World) :
    Calls Try.prog 22 #[.slice A n c] w fun e w' => e = .returned (.bool false) ∧ w = w' := by
  go_enter Try.func22, Try.ntmps22
  go_wp2
  go_ret
  exact ⟨rfl, rfl⟩
theorem over_at (A : Option Addr) (n c : Nat) (k : Nat) (K : Nat) (w : World) (hK : w.cell? ⟨K, 0, none⟩ = some (.int .i64 k)) :
    Calls Try.prog 26 #[.slice A n c, .pointer (some ⟨K, 0, none⟩)] w fun e w' => e = .returned (.bool (decide (k < n))) ∧ w = w' := by
  by_cases h : k < n
  · have hi : (k : Int) < n := by omega
    rw [decide_eq_true h]
    go_enter Try.func26, Try.ntmps26
    go_wp2
    go_ret
    exact ⟨rfl, rfl⟩
  · have hi : ¬ (k : Int) < n := by omega
    rw [decide_eq_false h]
    go_enter Try.func26, Try.ntmps26
    go_wp2
    go_ret
    exact ⟨rfl, rfl⟩


set_option maxRecDepth 100000 in
set_option maxHeartbeats 4000000 in
theorem barsAll_any (A : Option Addr) (c : Nat) (xs : List Int) (t : Int) (T Q : Nat) (w : World) (hs : strB xs = true) (ht : 0 ≤ t ∧ t ≤ 1000) (hlc : xs.length ≤ c) (hc : Cells w A xs)
    (hT : w.cell? ⟨T, 0, none⟩ = some (.int .i64 t)) (hQ : w.cell? ⟨Q, 0, none⟩ = some (.slice A xs.length c)) :
    Calls Try.prog 24 #[.agg #[.func (.func 36) #[] #[.pointer (some ⟨T, 0, none⟩), .pointer (some ⟨Q, 0, none⟩)], .func (.func 22) #[] #[]], .slice A xs.length c] w fun e w' => ∃ A' c', e = .returned (.slice A' (brs xs t xs.length).length c') ∧ Own2 w' w.heap.size w'.heap.size A' c' (brs xs t xs.length) ∧ Below w.heap.size w w' := by
  obtain ⟨i1, hj, hy0, hy1, hy2⟩ := info_parts Try.infoInts
  have HS := hid hs; clear hs
  have HG := hid (strB_good HS.out)
  have hlen := HG.out.len
  have HC := hid hc; clear hc
  obtain ⟨w1, hw1⟩ : ∃ w1, w1 = w.alloc (.cells #[.func (.func 36) #[] #[.pointer (some ⟨T, 0, none⟩), .pointer (some ⟨Q, 0, none⟩)], .func (.func 22) #[] #[]] 47) := ⟨_, rfl⟩
  have hbx : w1.cell? ⟨w.heap.size, 0, none⟩ = some (.func (.func 36) #[] #[.pointer (some ⟨T, 0, none⟩), .pointer (some ⟨Q, 0, none⟩)]) ∧ w1.cell? ⟨w.heap.size, 1, none⟩ = some (.func (.func 22) #[] #[]) := by
    rw [hw1]
    exact ⟨by rw [cell_of_row _ w.heap.size 0 #[.func (.func 36) #[] #[.pointer (some ⟨T, 0, none⟩), .pointer (some ⟨Q, 0, none⟩)], .func (.func 22) #[] #[]] 47 (0, 0) (heap_alloc_new w _)]; rfl, by rw [cell_of_row _ w.heap.size 1 #[.func (.func 36) #[] #[.pointer (some ⟨T, 0, none⟩), .pointer (some ⟨Q, 0, none⟩)], .func (.func 22) #[] #[]] 47 (0, 0) (heap_alloc_new w _)]; rfl⟩
  have hb1 : Below w.heap.size w w1 := by rw [hw1]; exact (Below.refl _ _).alloc (Nat.le_refl _) _
  have hz1 : w1.heap.size = w.heap.size + 1 := by rw [hw1]; simp
  have hTl : T < w.heap.size := World.block_lt_of_cell? w _ hT
  have hQl : Q < w.heap.size := World.block_lt_of_cell? w _ hQ
  have HW0 := hid fun W (h : Below w1.heap.size w1 W) => (h.cell (p := ⟨w.heap.size, 0, none⟩) (by show w.heap.size < _; omega)).trans hbx.1
  have HW1 := hid fun W (h : Below w1.heap.size w1 W) => (h.cell (p := ⟨w.heap.size, 1, none⟩) (by show w.heap.size < _; omega)).trans hbx.2
  have HT := hid fun W (h : Below w1.heap.size w1 W) => ((Below.next hb1 h).cell (p := ⟨T, 0, none⟩) hTl).trans hT
  have HQ := hid fun W (h : Below w1.heap.size w1 W) => ((Below.next hb1 h).cell (p := ⟨Q, 0, none⟩) hQl).trans hQ
  have HCW := hid fun W (h : Below w1.heap.size w1 W) => HC.out.later (Below.next hb1 h)

  have HB1 := hid hb1
  have HZ1 := hid hz1
  have HW := hid hw1
  clear hbx hb1 hz1 hT hQ hTl hQl 
  go_enter Try.func24, Try.ntmps24
  go_wp2_with fail
  go_step3
  go_wp2_with fail
  go_step3
  go_wp2_with fail
  rw [← HW.out]
  clear HW hw1
  go_loopw [5, 12] (fun v i wr => ∃ n : Nat, n ≤ xs.length ∧ i = .int .i64 n ∧ (∃ P C, Push wr w1.heap.size v (brs xs t n) P C) ∧ Below w1.heap.size w1 wr) (fun _ i _ => xs.length - (intOf i).toNat)
  case atStart => exact ⟨0, Nat.zero_le _, rfl, ⟨_, _, push_nil _ _⟩, Below.refl _ _⟩
  case round =>
    obtain ⟨n, hn, rfl, ⟨P0, C0, hpush⟩, hbel⟩ := hrel
    have HP0 := hid hpush; clear hpush
    obtain ⟨wo, rfl⟩ : ∃ wo : World, wo = wr := ⟨_, rfl⟩
    have hszo := hbel.size
    by_cases hlt : n < xs.length
    · have hcw := HCW.out wo hbel
      obtain ⟨b, o, e, hcc⟩ := hcw (by omega)
      have hck := hcc n hlt
      have hlds : (xs.drop (n + 1)).length = xs.length - (n + 1) := List.length_drop
      have HAW := hid (aloneAndWith_any (cutI A c (n + 1)) (c - (n + 1)) (xs.drop (n + 1)) (xs.getD n 0) wo (by omega) (hcw.cut c (n + 1) hlc))
      rw [show cand (xs.getD n 0) (xs.drop (n + 1)) = candA xs n from rfl, hlds] at HAW
      have hcl := candA_len xs n hlt
      have HMEM := hid fun r (hr : r ∈ candA xs n) => candA_mem hlt hr
      have HYES := hid fun j => brK_yes (xs := xs) (t := t) (i := n) (c := j)
      have HNO := hid fun j => brK_no (xs := xs) (t := t) (i := n) (c := j)
      have HLEN := hid fun j => brK_len xs t hlen n j hlt
      have HFULL := hid (brK_full xs t n)
      have HZERO := hid (brK_zero xs t n)
      obtain ⟨M, hM⟩ : ∃ M, M = candA xs n := ⟨_, rfl⟩
      rw [← hM] at HAW hcl HMEM HYES HNO HFULL
      obtain ⟨S, hS⟩ : ∃ S, S = brK xs t n := ⟨_, rfl⟩
      rw [← hS] at HYES HNO HFULL HZERO HLEN
      have HCL := hid hcl
      obtain ⟨x, hx⟩ : ∃ x, x = xs.getD n 0 := ⟨_, rfl⟩
      rw [← hx] at HAW hck
      have hcut := fun W => runI_cut_lo1 A xs.length c n (by omega) W
      subst e
      clear hcc hlds hM hS hx hcl hcw
      go_wp2_with fail
      refine HAW.out.mono ?_
      rintro e2 wc ⟨Ac, cc, rfl, oc, bc⟩
      have BC := hid bc
      have hszc := bc.size
      obtain ⟨Pc, Cc, OC⟩ := oc
      have HOC := hid OC
      clear bc OC hck hcut
      obtain ⟨m, hm⟩ : ∃ m, m = M.length := ⟨_, rfl⟩
      rw [← hm] at HFULL HYES HNO ⊢
      have HM := hid hm
      have hm31 : m ≤ 31 := by have := HCL.out; omega
      clear hm
      go_wp2_with fail
      go_loopw [5, 24] (fun v i wr => ∃ j : Nat, j ≤ m ∧ i = .int .i64 j ∧ Hid (∃ P C, Push wr w1.heap.size v (S j) P C ∧ ∀ a, a < (S j).length → ∀ b, (P a).map Addr.block = some b → b < wo.heap.size ∨ ∃ j', j' < j ∧ (Pc j').map Addr.block = some b) ∧ Hid (Below w1.heap.size w1 wr ∧ wc.heap.size ≤ wr.heap.size ∧ (∀ b, wo.heap.size ≤ b → b < wc.heap.size → wr.heap[b]? = wc.heap[b]?) ∧ ∀ q, v.ownBlock = some q → q < wo.heap.size ∨ wc.heap.size ≤ q)) (fun _ i _ => m - (intOf i).toNat)
      case atStart => exact ⟨0, Nat.zero_le _, rfl, hid ⟨P0, C0, by rw [HZERO.out]; exact HP0.out.below BC.out, fun a ha b hb => .inl (((HP0.out.row a (by rw [HZERO.out] at ha; exact ha)).block b hb).2)⟩, hid ⟨hbel.trans (BC.out.mono hszo), Nat.le_refl _, fun _ _ _ => rfl, fun q hq => .inl (HP0.out.out.lt q hq).2⟩⟩
      case round =>
        obtain ⟨j, hjm, rfl, HPP, HK4⟩ := hrel
        obtain ⟨wi, rfl⟩ : ∃ wi : World, wi = wr := ⟨_, rfl⟩
        by_cases hjl : j < m
        · obtain ⟨b1, b2, b3, b4⟩ := HK4.out
          have HH := hid (HOC.out.keep (w' := wi) fun b _ hb1 hb2 => b3 b hb1 hb2)
          obtain ⟨tb, hAc, hckr⟩ := HH.out.top1 (j := j) (by rw [← HM.out]; exact hjl)
          have hrow := HH.out.row j (by rw [← HM.out]; exact hjl)
          have hmem := HMEM.out (M.getD j []) (by rw [List.getD_eq_getElem?_getD, List.getElem?_eq_getElem (by rw [← HM.out]; exact hjl)]; exact List.getElem_mem _)
          have HY := hid (HYES.out j hjl)
          have HN := hid (HNO.out j hjl)
          obtain ⟨r, hr⟩ : ∃ r, r = M.getD j [] := ⟨_, rfl⟩
          rw [← hr] at hckr hrow hmem HY HN
          have hrl : r.length ≤ 30 := by have := hmem.1; omega
          have hrb : ∀ z, z < r.length → 0 ≤ r.getD z 0 ∧ r.getD z 0 ≤ 1000 := fun z hz => by
            have hin := hmem.2 (r.getD z 0) (by rw [List.getD_eq_getElem?_getD, List.getElem?_eq_getElem hz]; exact List.getElem_mem _)
            obtain ⟨y, hy, he⟩ := List.mem_iff_getElem.1 hin
            have h1 := HG.out.pos y hy
            have h2 := HG.out.le y hy
            rw [List.getD_eq_getElem?_getD, List.getElem?_eq_getElem hy] at h1 h2
            rw [← he]
            exact ⟨by have : (1 : Int) ≤ xs[y] := h1; omega, by have : xs[y] ≤ 30 := h2; omega⟩
          have HCO := hid fun cr => barTest1_any _ (Pc j) c cr xs r t T Q wi (by omega) hrl hrb ht (HT.out wi b1) (HQ.out wi b1) (HCW.out wi b1) hrow.cells
          have hf0 := HW0.out wi b1
          have hf0' : wi.cell? ⟨w.heap.size, 0 + 0, none⟩ = _ := hf0
          have HROW := hid hrow
          have HJ := hid hr
          have HAC := hid hAc
          subst hAc
          clear hmem hrb hrow hr b2 b3 b4
          cases hib : isB xs t r
          · have HE := hid (HN.out hib)
            rw [hib] at HCO
            clear hib HY HN
            go_wp2_with (go_at_call 36; refine (HCO.out _).mono ?_; rintro e w' ⟨rfl, nd, rfl⟩)
            have HKK := hid HK4.out
            go_roundw
            case rel => exact ⟨j + 1, by omega, by go_num, hid (by rw [HE.out]; obtain ⟨P, C, hp, hq⟩ := HPP.out; exact ⟨P, C, hp.below (below_drew' _ _), fun a ha b hb => (hq a ha b hb).imp id fun ⟨j', h1, h2⟩ => ⟨j', by omega, h2⟩⟩), hid ⟨below_drewN HKK.out.1 _, HKK.out.2.1, HKK.out.2.2.1, HKK.out.2.2.2⟩⟩
            case measure => simp [intOf]; omega
          · have HE := hid (HY.out hib)
            rw [hib] at HCO
            obtain ⟨P, C, hp, hq⟩ := HPP.out
            have HPS := hid (hp.below (below_drew' wi 0))
            have HPQ := hid hq
            have HLEN' := hid (HLEN.out j)
            have HP1 := hid hp
            clear hib HY HN hp hq
            go_wp2_with (first | (go_at_call 36; refine (HCO.out _).mono ?_; rintro e w' ⟨rfl, nd, rfl⟩) | (at_builtin; refine wpList_append_own_at _ rfl _ _ 27 rfl w1.heap.size 22 i1 (.slice none 0 0) 1 24 Try.underlying27 hj hy0 hy1 hy2 rfl (by decide) _ _ _ rfl ((HP1.out.below (below_drew' wi nd)).out.alloc _) ⟨wi.heap.size, 0, none⟩ 1 1 [.slice (Pc j) r.length (Cc j)] rfl rfl one_at (one_cellS _ _ _) (by have := HLEN'.out; unfold maxLen; omega) (by have := HLEN'.out; omega) (by have := b1.size; simp; omega) ?_))
            intro v2 w2 hown2 hgrow2 _ hat
            have hp2 := (HP1.out.below (below_drew' wi nd)).pushAp (HROW.out.more (show w1.heap.size ≤ wo.heap.size by omega)) (fun a ha b hb hc2 => by
              rcases HPQ.out a ha b hb with h1 | ⟨j', h1, h2⟩
              · have := (HROW.out.block b hc2).1; omega
              · exact HH.out.apart j' j h1 (by rw [← HM.out]; exact hjl) b h2 hc2) hown2 hgrow2
            have hpool : ∀ a, a < (S j ++ [r]).length → ∀ b, (setAt P (S j).length (Pc j) a).map Addr.block = some b → b < wo.heap.size ∨ ∃ j', j' < j + 1 ∧ (Pc j').map Addr.block = some b := fun a ha b hb => by
              by_cases ea : a = (S j).length
              · rw [ea, setAt_eq] at hb; exact .inr ⟨j, by omega, hb⟩
              · rw [setAt_ne P _ ea] at hb
                rw [List.length_append, List.length_singleton] at ha
                exact (HPQ.out a (by omega) b hb).imp id fun ⟨j', h1, h2⟩ => ⟨j', by omega, h2⟩
            rw [← HE.out] at hp2 hpool
            have hgs := hgrow2.size
            have hal : ∀ o : Obj, ((wi.drewN nd).alloc o).heap.size = wi.heap.size + 1 := fun o => by simp
            have hsb := b1.size
            have hb2 : Below w1.heap.size w1 w2 := ((below_drewN b1 nd).alloc (by simp; omega) _).grown hgrow2 (by simp; omega) (fun q hq => (HP1.out.out.lt q hq).1)
            have HNX := hid (show Below w1.heap.size w1 w2 ∧ wc.heap.size ≤ w2.heap.size ∧ (∀ b, wo.heap.size ≤ b → b < wc.heap.size → w2.heap[b]? = wc.heap[b]?) ∧ ∀ q, v2.ownBlock = some q → q < wo.heap.size ∨ wc.heap.size ≤ q from by
              obtain ⟨k1, k2, k3, k4⟩ := HK4.out
              refine ⟨hb2, by rw [hal] at hgs; omega, fun b hb1 hb2 => ?_, fun q hq => ?_⟩
              · rw [hgrow2.block b (by rw [hal]; omega) (fun e => by have := k4 b e.symm; omega), Below.heap_alloc _ _ _ (by simp; omega)]
                exact k3 b hb1 hb2
              · rcases hat with h | h
                · exact k4 q (by rw [← h]; exact hq)
                · rw [h] at hq
                  have : wi.heap.size + 1 = q := by simpa [Value.ownBlock] using hq
                  omega)
            have HP2 := hid hp2
            have HPOOL := hid hpool
            have hf1 := HW1.out w2 hb2
            have hf1' : w2.cell? ⟨w.heap.size, 0 + 1, none⟩ = _ := hf1
            obtain ⟨A2, c2, hv2⟩ := ownsRow_slice' hown2
            subst hv2
            clear hown2 hgrow2 hat hp2 hpool hgs hal HP1 HPS HPQ
            go_wp2_with (go_at_call 22; refine (over_no _ _ _ _).mono ?_; rintro e w' ⟨rfl, rfl⟩)
            go_roundw
            case rel => exact ⟨j + 1, by omega, by go_num, hid ⟨_, _, HP2.out, HPOOL.out⟩, HNX⟩
            case measure => simp [intOf]; omega
        · have hje : j = m := by omega
          subst hje
          rw [HFULL.out] at HPP
          have HBB := hid HK4.out.1
          go_wp2_with fail
          go_roundw
          case rel => exact ⟨n + 1, by omega, by go_num, (by obtain ⟨P, C, hp, _⟩ := HPP.out; exact ⟨P, C, hp⟩), HBB.out⟩
          case measure => simp [intOf]; omega
    · have hnl : n = xs.length := by omega
      subst hnl

      obtain ⟨A', c', rfl, ho⟩ := HP0.out.own2
      have HO := hid (ho.more (show w.heap.size ≤ w1.heap.size by have := HZ1.out; omega))
      clear ho 
      go_wp2_with fail
      try rw [Exit.noGoto_ret]
      go_ret
      exact ⟨A', c', rfl, HO.out, Below.next HB1.out hbel⟩

set_option maxRecDepth 100000 in
set_option maxHeartbeats 4000000 in
theorem barsUpto_any (A : Option Addr) (c : Nat) (xs : List Int) (t : Int) (T Q : Nat) (Kp k : Nat) (w : World) (hs : strB xs = true) (ht : 0 ≤ t ∧ t ≤ 1000) (hlc : xs.length ≤ c) (hc : Cells w A xs)
    (hT : w.cell? ⟨T, 0, none⟩ = some (.int .i64 t)) (hQ : w.cell? ⟨Q, 0, none⟩ = some (.slice A xs.length c)) (hK : w.cell? ⟨Kp, 0, none⟩ = some (.int .i64 k)) :
    Calls Try.prog 24 #[.agg #[.func (.func 36) #[] #[.pointer (some ⟨T, 0, none⟩), .pointer (some ⟨Q, 0, none⟩)], .func (.func 26) #[] #[.pointer (some ⟨Kp, 0, none⟩)]], .slice A xs.length c] w fun e w' => ∃ A' c', e = .returned (.slice A' ((brs xs t xs.length).take (k + 1)).length c') ∧ Own2 w' w.heap.size w'.heap.size A' c' ((brs xs t xs.length).take (k + 1)) ∧ Below w.heap.size w w' := by
  obtain ⟨i1, hj, hy0, hy1, hy2⟩ := info_parts Try.infoInts
  have HS := hid hs; clear hs
  have HG := hid (strB_good HS.out)
  have hlen := HG.out.len
  have HC := hid hc; clear hc
  obtain ⟨w1, hw1⟩ : ∃ w1, w1 = w.alloc (.cells #[.func (.func 36) #[] #[.pointer (some ⟨T, 0, none⟩), .pointer (some ⟨Q, 0, none⟩)], .func (.func 26) #[] #[.pointer (some ⟨Kp, 0, none⟩)]] 47) := ⟨_, rfl⟩
  have hbx : w1.cell? ⟨w.heap.size, 0, none⟩ = some (.func (.func 36) #[] #[.pointer (some ⟨T, 0, none⟩), .pointer (some ⟨Q, 0, none⟩)]) ∧ w1.cell? ⟨w.heap.size, 1, none⟩ = some (.func (.func 26) #[] #[.pointer (some ⟨Kp, 0, none⟩)]) := by
    rw [hw1]
    exact ⟨by rw [cell_of_row _ w.heap.size 0 #[.func (.func 36) #[] #[.pointer (some ⟨T, 0, none⟩), .pointer (some ⟨Q, 0, none⟩)], .func (.func 26) #[] #[.pointer (some ⟨Kp, 0, none⟩)]] 47 (0, 0) (heap_alloc_new w _)]; rfl, by rw [cell_of_row _ w.heap.size 1 #[.func (.func 36) #[] #[.pointer (some ⟨T, 0, none⟩), .pointer (some ⟨Q, 0, none⟩)], .func (.func 26) #[] #[.pointer (some ⟨Kp, 0, none⟩)]] 47 (0, 0) (heap_alloc_new w _)]; rfl⟩
  have hb1 : Below w.heap.size w w1 := by rw [hw1]; exact (Below.refl _ _).alloc (Nat.le_refl _) _
  have hz1 : w1.heap.size = w.heap.size + 1 := by rw [hw1]; simp
  have hTl : T < w.heap.size := World.block_lt_of_cell? w _ hT
  have hQl : Q < w.heap.size := World.block_lt_of_cell? w _ hQ
  have HW0 := hid fun W (h : Below w1.heap.size w1 W) => (h.cell (p := ⟨w.heap.size, 0, none⟩) (by show w.heap.size < _; omega)).trans hbx.1
  have HW1 := hid fun W (h : Below w1.heap.size w1 W) => (h.cell (p := ⟨w.heap.size, 1, none⟩) (by show w.heap.size < _; omega)).trans hbx.2
  have HT := hid fun W (h : Below w1.heap.size w1 W) => ((Below.next hb1 h).cell (p := ⟨T, 0, none⟩) hTl).trans hT
  have HQ := hid fun W (h : Below w1.heap.size w1 W) => ((Below.next hb1 h).cell (p := ⟨Q, 0, none⟩) hQl).trans hQ
  have HCW := hid fun W (h : Below w1.heap.size w1 W) => HC.out.later (Below.next hb1 h)
  have hKl : Kp < w.heap.size := World.block_lt_of_cell? w _ hK
  have HK := hid fun W (h : Below w1.heap.size w1 W) => ((Below.next hb1 h).cell (p := ⟨Kp, 0, none⟩) hKl).trans hK
  have HB1 := hid hb1
  have HZ1 := hid hz1
  have HW := hid hw1
  clear hbx hb1 hz1 hT hQ hTl hQl hK hKl
  go_enter Try.func24, Try.ntmps24
  go_wp2_with fail
  go_step3
  go_wp2_with fail
  go_step3
  go_wp2_with fail
  rw [← HW.out]
  clear HW hw1
  go_loopw [5, 12] (fun v i wr => ∃ n : Nat, n ≤ xs.length ∧ i = .int .i64 n ∧ (∃ P C, Push wr w1.heap.size v (brs xs t n) P C) ∧ Below w1.heap.size w1 wr ∧ (brs xs t n).length ≤ k) (fun _ i _ => xs.length - (intOf i).toNat)
  case atStart => exact ⟨0, Nat.zero_le _, rfl, ⟨_, _, push_nil _ _⟩, Below.refl _ _, by simp [brs]⟩
  case round =>
    obtain ⟨n, hn, rfl, ⟨P0, C0, hpush⟩, hbel, hup⟩ := hrel
    have HP0 := hid hpush; clear hpush
    obtain ⟨wo, rfl⟩ : ∃ wo : World, wo = wr := ⟨_, rfl⟩
    have hszo := hbel.size
    by_cases hlt : n < xs.length
    · have hcw := HCW.out wo hbel
      obtain ⟨b, o, e, hcc⟩ := hcw (by omega)
      have hck := hcc n hlt
      have hlds : (xs.drop (n + 1)).length = xs.length - (n + 1) := List.length_drop
      have HAW := hid (aloneAndWith_any (cutI A c (n + 1)) (c - (n + 1)) (xs.drop (n + 1)) (xs.getD n 0) wo (by omega) (hcw.cut c (n + 1) hlc))
      rw [show cand (xs.getD n 0) (xs.drop (n + 1)) = candA xs n from rfl, hlds] at HAW
      have hcl := candA_len xs n hlt
      have HMEM := hid fun r (hr : r ∈ candA xs n) => candA_mem hlt hr
      have HYES := hid fun j => brK_yes (xs := xs) (t := t) (i := n) (c := j)
      have HNO := hid fun j => brK_no (xs := xs) (t := t) (i := n) (c := j)
      have HLEN := hid fun j => brK_len xs t hlen n j hlt
      have HFULL := hid (brK_full xs t n)
      have HZERO := hid (brK_zero xs t n)
      have HPRE := hid fun j => brK_prefix xs t (i := n) (n := xs.length) j hlt
      obtain ⟨M, hM⟩ : ∃ M, M = candA xs n := ⟨_, rfl⟩
      rw [← hM] at HAW hcl HMEM HYES HNO HFULL
      obtain ⟨S, hS⟩ : ∃ S, S = brK xs t n := ⟨_, rfl⟩
      rw [← hS] at HYES HNO HFULL HZERO HLEN HPRE
      have HCL := hid hcl
      obtain ⟨x, hx⟩ : ∃ x, x = xs.getD n 0 := ⟨_, rfl⟩
      rw [← hx] at HAW hck
      have hcut := fun W => runI_cut_lo1 A xs.length c n (by omega) W
      subst e
      clear hcc hlds hM hS hx hcl hcw
      go_wp2_with fail
      refine HAW.out.mono ?_
      rintro e2 wc ⟨Ac, cc, rfl, oc, bc⟩
      have BC := hid bc
      have hszc := bc.size
      obtain ⟨Pc, Cc, OC⟩ := oc
      have HOC := hid OC
      clear bc OC hck hcut
      obtain ⟨m, hm⟩ : ∃ m, m = M.length := ⟨_, rfl⟩
      rw [← hm] at HFULL HYES HNO ⊢
      have HM := hid hm
      have hm31 : m ≤ 31 := by have := HCL.out; omega
      clear hm
      go_wp2_with fail
      go_loopw [5, 24] (fun v i wr => ∃ j : Nat, j ≤ m ∧ i = .int .i64 j ∧ Hid (∃ P C, Push wr w1.heap.size v (S j) P C ∧ ∀ a, a < (S j).length → ∀ b, (P a).map Addr.block = some b → b < wo.heap.size ∨ ∃ j', j' < j ∧ (Pc j').map Addr.block = some b) ∧ Hid (Below w1.heap.size w1 wr ∧ wc.heap.size ≤ wr.heap.size ∧ (∀ b, wo.heap.size ≤ b → b < wc.heap.size → wr.heap[b]? = wc.heap[b]?) ∧ ∀ q, v.ownBlock = some q → q < wo.heap.size ∨ wc.heap.size ≤ q) ∧ (S j).length ≤ k) (fun _ i _ => m - (intOf i).toNat)
      case atStart => exact ⟨0, Nat.zero_le _, rfl, hid ⟨P0, C0, by rw [HZERO.out]; exact HP0.out.below BC.out, fun a ha b hb => .inl (((HP0.out.row a (by rw [HZERO.out] at ha; exact ha)).block b hb).2)⟩, hid ⟨hbel.trans (BC.out.mono hszo), Nat.le_refl _, fun _ _ _ => rfl, fun q hq => .inl (HP0.out.out.lt q hq).2⟩, by rw [HZERO.out]; exact hup⟩
      case round =>
        obtain ⟨j, hjm, rfl, HPP, HK4, hup⟩ := hrel
        obtain ⟨wi, rfl⟩ : ∃ wi : World, wi = wr := ⟨_, rfl⟩
        by_cases hjl : j < m
        · obtain ⟨b1, b2, b3, b4⟩ := HK4.out
          have HH := hid (HOC.out.keep (w' := wi) fun b _ hb1 hb2 => b3 b hb1 hb2)
          obtain ⟨tb, hAc, hckr⟩ := HH.out.top1 (j := j) (by rw [← HM.out]; exact hjl)
          have hrow := HH.out.row j (by rw [← HM.out]; exact hjl)
          have hmem := HMEM.out (M.getD j []) (by rw [List.getD_eq_getElem?_getD, List.getElem?_eq_getElem (by rw [← HM.out]; exact hjl)]; exact List.getElem_mem _)
          have HY := hid (HYES.out j hjl)
          have HN := hid (HNO.out j hjl)
          obtain ⟨r, hr⟩ : ∃ r, r = M.getD j [] := ⟨_, rfl⟩
          rw [← hr] at hckr hrow hmem HY HN
          have hrl : r.length ≤ 30 := by have := hmem.1; omega
          have hrb : ∀ z, z < r.length → 0 ≤ r.getD z 0 ∧ r.getD z 0 ≤ 1000 := fun z hz => by
            have hin := hmem.2 (r.getD z 0) (by rw [List.getD_eq_getElem?_getD, List.getElem?_eq_getElem hz]; exact List.getElem_mem _)
            obtain ⟨y, hy, he⟩ := List.mem_iff_getElem.1 hin
            have h1 := HG.out.pos y hy
            have h2 := HG.out.le y hy
            rw [List.getD_eq_getElem?_getD, List.getElem?_eq_getElem hy] at h1 h2
            rw [← he]
            exact ⟨by have : (1 : Int) ≤ xs[y] := h1; omega, by have : xs[y] ≤ 30 := h2; omega⟩
          have HCO := hid fun cr => barTest1_any _ (Pc j) c cr xs r t T Q wi (by omega) hrl hrb ht (HT.out wi b1) (HQ.out wi b1) (HCW.out wi b1) hrow.cells
          have hf0 := HW0.out wi b1
          have hf0' : wi.cell? ⟨w.heap.size, 0 + 0, none⟩ = _ := hf0
          have HROW := hid hrow
          have HJ := hid hr
          have HAC := hid hAc
          subst hAc
          clear hmem hrb hrow hr b2 b3 b4
          cases hib : isB xs t r
          · have HE := hid (HN.out hib)
            rw [hib] at HCO
            clear hib HY HN
            go_wp2_with (go_at_call 36; refine (HCO.out _).mono ?_; rintro e w' ⟨rfl, nd, rfl⟩)
            have HKK := hid HK4.out
            go_roundw
            case rel => exact ⟨j + 1, by omega, by go_num, hid (by rw [HE.out]; obtain ⟨P, C, hp, hq⟩ := HPP.out; exact ⟨P, C, hp.below (below_drew' _ _), fun a ha b hb => (hq a ha b hb).imp id fun ⟨j', h1, h2⟩ => ⟨j', by omega, h2⟩⟩), hid ⟨below_drewN HKK.out.1 _, HKK.out.2.1, HKK.out.2.2.1, HKK.out.2.2.2⟩, by rw [HE.out]; exact hup⟩
            case measure => simp [intOf]; omega
          · have HE := hid (HY.out hib)
            rw [hib] at HCO
            obtain ⟨P, C, hp, hq⟩ := HPP.out
            have HPS := hid (hp.below (below_drew' wi 0))
            have HPQ := hid hq
            have HLEN' := hid (HLEN.out j)
            have HP1 := hid hp
            clear hib HY HN hp hq
            go_wp2_with (first | (go_at_call 36; refine (HCO.out _).mono ?_; rintro e w' ⟨rfl, nd, rfl⟩) | (at_builtin; refine wpList_append_own_at _ rfl _ _ 27 rfl w1.heap.size 22 i1 (.slice none 0 0) 1 24 Try.underlying27 hj hy0 hy1 hy2 rfl (by decide) _ _ _ rfl ((HP1.out.below (below_drew' wi nd)).out.alloc _) ⟨wi.heap.size, 0, none⟩ 1 1 [.slice (Pc j) r.length (Cc j)] rfl rfl one_at (one_cellS _ _ _) (by have := HLEN'.out; unfold maxLen; omega) (by have := HLEN'.out; omega) (by have := b1.size; simp; omega) ?_))
            intro v2 w2 hown2 hgrow2 _ hat
            have hp2 := (HP1.out.below (below_drew' wi nd)).pushAp (HROW.out.more (show w1.heap.size ≤ wo.heap.size by omega)) (fun a ha b hb hc2 => by
              rcases HPQ.out a ha b hb with h1 | ⟨j', h1, h2⟩
              · have := (HROW.out.block b hc2).1; omega
              · exact HH.out.apart j' j h1 (by rw [← HM.out]; exact hjl) b h2 hc2) hown2 hgrow2
            have hpool : ∀ a, a < (S j ++ [r]).length → ∀ b, (setAt P (S j).length (Pc j) a).map Addr.block = some b → b < wo.heap.size ∨ ∃ j', j' < j + 1 ∧ (Pc j').map Addr.block = some b := fun a ha b hb => by
              by_cases ea : a = (S j).length
              · rw [ea, setAt_eq] at hb; exact .inr ⟨j, by omega, hb⟩
              · rw [setAt_ne P _ ea] at hb
                rw [List.length_append, List.length_singleton] at ha
                exact (HPQ.out a (by omega) b hb).imp id fun ⟨j', h1, h2⟩ => ⟨j', by omega, h2⟩
            rw [← HE.out] at hp2 hpool
            have hgs := hgrow2.size
            have hal : ∀ o : Obj, ((wi.drewN nd).alloc o).heap.size = wi.heap.size + 1 := fun o => by simp
            have hsb := b1.size
            have hb2 : Below w1.heap.size w1 w2 := ((below_drewN b1 nd).alloc (by simp; omega) _).grown hgrow2 (by simp; omega) (fun q hq => (HP1.out.out.lt q hq).1)
            have HNX := hid (show Below w1.heap.size w1 w2 ∧ wc.heap.size ≤ w2.heap.size ∧ (∀ b, wo.heap.size ≤ b → b < wc.heap.size → w2.heap[b]? = wc.heap[b]?) ∧ ∀ q, v2.ownBlock = some q → q < wo.heap.size ∨ wc.heap.size ≤ q from by
              obtain ⟨k1, k2, k3, k4⟩ := HK4.out
              refine ⟨hb2, by rw [hal] at hgs; omega, fun b hb1 hb2 => ?_, fun q hq => ?_⟩
              · rw [hgrow2.block b (by rw [hal]; omega) (fun e => by have := k4 b e.symm; omega), Below.heap_alloc _ _ _ (by simp; omega)]
                exact k3 b hb1 hb2
              · rcases hat with h | h
                · exact k4 q (by rw [← h]; exact hq)
                · rw [h] at hq
                  have : wi.heap.size + 1 = q := by simpa [Value.ownBlock] using hq
                  omega)
            have HP2 := hid hp2
            have HPOOL := hid hpool
            have hf1 := HW1.out w2 hb2
            have hf1' : w2.cell? ⟨w.heap.size, 0 + 1, none⟩ = _ := hf1
            obtain ⟨A2, c2, hv2⟩ := ownsRow_slice' hown2
            subst hv2
            clear hown2 hgrow2 hat hp2 hpool hgs hal HP1 HPS HPQ
            have HOV := hid (over_at A2 ((S j).length + 1) c2 k Kp w2 (HK.out w2 hb2))
            by_cases hov : k < (S j).length + 1
            · rw [decide_eq_true hov] at HOV
              have hke : (S (j + 1)).length = k + 1 := by rw [HE.out, List.length_append, List.length_singleton]; omega
              have hpre := HPRE.out (j + 1)
              rw [hke] at hpre
              have hown := HP2.out.own2
              rw [← hpre] at hown
              have HL := hid (show ((brs xs t xs.length).take (k + 1)).length = (S j).length + 1 by rw [hpre, hke]; omega)
              obtain ⟨A3, c3, hv3, ho3⟩ := hown
              have HV3 := hid hv3
              have HO3 := hid (ho3.more (show w.heap.size ≤ w1.heap.size by have := HZ1.out; omega))
              have HB2 := hid hb2
              clear hov hke hpre hv3 ho3
              go_wp2_with (go_at_call 26; refine HOV.out.mono ?_; rintro e w' ⟨rfl, rfl⟩)
              try rw [Exit.noGoto_ret]
              go_ret
              exact ⟨A3, c3, by rw [← HV3.out]; rfl, HO3.out, Below.next HB1.out HB2.out⟩
            · rw [decide_eq_false hov] at HOV
              have hle : (S (j + 1)).length ≤ k := by rw [HE.out, List.length_append, List.length_singleton]; omega
              go_wp2_with (go_at_call 26; refine HOV.out.mono ?_; rintro e w' ⟨rfl, rfl⟩)
              go_roundw
              case rel => exact ⟨j + 1, by omega, by go_num, hid ⟨_, _, HP2.out, HPOOL.out⟩, HNX, hle⟩
              case measure => simp [intOf]; omega
        · have hje : j = m := by omega
          subst hje
          rw [HFULL.out] at HPP
          have HBB := hid HK4.out.1
          go_wp2_with fail
          go_roundw
          case rel => exact ⟨n + 1, by omega, by go_num, (by obtain ⟨P, C, hp, _⟩ := HPP.out; exact ⟨P, C, hp⟩), HBB.out, by rw [← HFULL.out]; exact hup⟩
          case measure => simp [intOf]; omega
    · have hnl : n = xs.length := by omega
      subst hnl
      have he : (brs xs t xs.length).take (k + 1) = brs xs t xs.length := List.take_of_length_le (by omega)
      have HEE := hid he
      obtain ⟨A', c', rfl, ho⟩ := HP0.out.own2
      have HO := hid (ho.more (show w.heap.size ≤ w1.heap.size by have := HZ1.out; omega))
      clear ho he
      go_wp2_with fail
      try rw [Exit.noGoto_ret]
      go_ret
      exact ⟨A', c', by rw [HEE.out]; rfl, by rw [HEE.out]; exact HO.out, Below.next HB1.out hbel⟩
end Go.Proofs.Ytcgoiddghenkmaa
