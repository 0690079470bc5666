/-
  Contracts: ArrowByWord and MirrorOf of the model.
-/
import Derived.Test.YtkbdlhmkiolegaaR23
import Derived.Test.YtkbdlhmkiolegaaCX
namespace Go.Proofs.Ytkbdlhmkiolegaa
open Go.RowKit

set_option maxRecDepth 100000 in
set_option maxHeartbeats 4000000 in
theorem arBy_any (t : Nat) (A : Option Addr) (c : Nat) (xs : List Int) (w : World) (ht : 2 ≤ t ∧ t ≤ 6) (hl : xs.length ≤ 30) (hc : Cells w A xs) :
    Calls Try.prog 35 #[.int .i64 t, .slice A xs.length c] w fun e w' => ∃ A' c', e = .returned (.tuple #[.slice A' (byL t xs).length c', .bool (byB t xs)]) ∧ Own w' w.heap.size A' c' (byL t xs) ∧ Below w.heap.size w w' := by
  have HOK := hid fun k m (hk : k ≤ 30) (h : byN t xs k = some m) => byN_ok ht hk h
  have HSUCC := hid fun k m (h : byN t xs k = some m) => (show byN t xs (k + 1) = if auB m t (xs.getD (xs.length - 1 - k) 0) then some (auL m t (xs.getD (xs.length - 1 - k) 0)) else none by rw [byN, h]; rfl)
  have HSOME := hid fun m (h : byN t xs xs.length = some m) => by_some h
  have HNONE := hid fun k (hk : k ≤ xs.length) (h : byN t xs k = none) => by_none hk h
  have HC := hid hc
  obtain ⟨R, hR⟩ : ∃ R, R = byL t xs := ⟨_, rfl⟩
  obtain ⟨S, hS⟩ : ∃ S, S = byB t xs := ⟨_, rfl⟩
  rw [← hR, ← hS] at HSOME HNONE
  rw [← hR, ← hS]
  clear hR hS hc
  go_enter Try.func35, Try.ntmps35
  go_wp2_with fail
  go_loopw [6, 7] (fun mv kv wr => ∃ (j : Nat) (m : List Int) (A1 : Option Addr) (c1 : Nat), j ≤ xs.length ∧ kv = .int .i64 ((xs.length : Int) - 1 - j) ∧ mv = .slice A1 m.length c1 ∧ Hid (byN t xs j = some m) ∧ Hid (Own wr w.heap.size A1 c1 m) ∧ Below w.heap.size w wr) (fun _ kv _ => (intOf kv + 1).toNat)
  case atStart => exact ⟨0, [], none, 0, Nat.zero_le _, by simp, rfl, hid rfl, hid (own_nil _ _), Below.refl _ _⟩
  case round =>
    obtain ⟨j, m, A1, c1, hj, rfl, rfl, HB, HO, hbel⟩ := hrel
    obtain ⟨g, s, _⟩ := HOK.out j m (by omega) HB.out
    by_cases hlt : j < xs.length
    · obtain ⟨b, o, rfl, hcc⟩ := (HC.out.later hbel) (by omega)
      obtain ⟨p, hp⟩ : ∃ p, p = xs.length - 1 - j := ⟨_, rfl⟩
      have hck := hcc p (by omega)
      have hpi : (xs.length : Int) - 1 - j = (p : Int) := by omega
      have hpl : p < xs.length := by omega
      have hsc := HSUCC.out j m HB.out
      rw [← hp] at hsc
      rw [hpi]
      obtain ⟨x, hx⟩ : ∃ x, x = xs.getD p 0 := ⟨_, rfl⟩
      rw [← hx] at hck hsc
      have HU := hid (arUp_any A1 c1 m t x wr g ht (own_hno HO.out) HO.out.cells)
      have hp0 : (0 : Int) ≤ (p : Int) := by omega
      cases ha : auB m t x
      · rw [ha] at HU hsc
        have hN := HNONE.out (j + 1) (by omega) (by rw [hsc]; rfl)
        have HN := hid hN
        obtain ⟨z, hz⟩ : ∃ z, z = auL m t x := ⟨_, rfl⟩
        rw [← hz] at HU
        clear hsc hcc hx ha hz g s hN hp hpi
        go_wp2_with fail
        refine HU.out.mono ?_
        rintro e w2 ⟨A2, c2, rfl, o2, b2⟩
        have HBB := hid (Below.next hbel b2)
        clear o2 b2
        go_wp2_with fail
        go_ret2
        exact ⟨none, 0, by rw [HN.out.1, HN.out.2]; rfl, by rw [HN.out.1]; exact own_nil _ _, HBB.out⟩
      · rw [ha] at HU hsc
        have HN := hid (show byN t xs (j + 1) = some (auL m t x) by rw [hsc]; rfl)
        obtain ⟨z, hz⟩ : ∃ z, z = auL m t x := ⟨_, rfl⟩
        rw [← hz] at HU HN
        have HP := hid hp
        have HP := hid hp
        clear hsc hcc hx ha hz g s hp hpi
        go_wp2_with fail
        refine HU.out.mono ?_
        rintro e w2 ⟨A2, c2, rfl, o2, b2⟩
        have HBB := hid (Below.next hbel b2)
        have HO2 := hid (o2.more hbel.size)
        clear o2 b2
        go_wp2_with fail
        go_roundw
        case rel => exact ⟨j + 1, z, A2, c2, by omega, by congr 1; have := HP.out; omega, rfl, HN, HO2, HBB.out⟩
        case measure => simp [intOf] <;> omega
    · have hje : j = xs.length := by omega
      have hm1 : (xs.length : Int) - 1 - j = -1 := by omega
      have hS := HB.out
      rw [hje] at hS
      have HS := hid (HSOME.out m hS)
      rw [hm1]
      clear hS hje hm1 g s
      go_wp2_with fail
      go_ret2
      exact ⟨A1, c1, by rw [HS.out.1, HS.out.2]; rfl, by rw [HS.out.1]; exact HO.out, hbel⟩

set_option maxRecDepth 100000 in
set_option maxHeartbeats 1000000 in
theorem spec_ArrowByWord (t : Int) (A : Option Addr) (c : Nat) (xs : List Int) (w : World) (_ : I64 t) (hl : xs.length ≤ 1048576) (hc : Cells w A xs) :
    Calls Try.prog 16 #[.int .i64 t, .slice A xs.length c] w fun e w' => ∃ A' c', e = .returned (.tuple #[.slice A' (abwF t xs).length c', .bool (abwB t xs)]) ∧ Own w' w.heap.size A' c' (abwF t xs) ∧ Below w.heap.size w w' := by
  cases ht : inB 2 6 t
  · rw [show abwF t xs = [] by simp [abwF, abwG, ht], show abwB t xs = false by simp [abwB, abwG, ht]]
    have HT := hid ht
    clear ht
    go_enter Try.func16, Try.ntmps16
    go_wp2_with (go_at_call 33; refine (chRunners_b _ _ _ HT.out).mono ?_; rintro e w' ⟨rfl, rfl⟩)
    go_ret2
    exact ⟨none, 0, rfl, own_nil _ _, Below.refl _ _⟩
  by_cases h30 : 30 < xs.length
  · rw [show abwF t xs = [] by simp [abwF, abwG, show ¬ xs.length ≤ 30 by omega], show abwB t xs = false by simp [abwB, abwG, show ¬ xs.length ≤ 30 by omega]]
    have HT := hid ht
    have h30i : (30 : Int) < (xs.length : Int) := by omega
    clear ht h30
    go_enter Try.func16, Try.ntmps16
    go_wp2_with (go_at_call 33; refine (chRunners_b _ _ _ HT.out).mono ?_; rintro e w' ⟨rfl, rfl⟩)
    go_ret2
    exact ⟨none, 0, rfl, own_nil _ _, Below.refl _ _⟩
  have htb := inB_iff.1 ht
  obtain ⟨n, rfl⟩ : ∃ n : Nat, t = n := ⟨t.toNat, by omega⟩
  have hlen : xs.length ≤ 30 := by omega
  have hG : abwG n xs = true := by simp [abwG, ht, hlen]
  rw [show abwF n xs = byL n xs by simp [abwF, hG], show abwB n xs = byB n xs by simp [abwB, hG]]
  have HT := hid ht
  have hn30 : ¬ (30 : Int) < (xs.length : Int) := by omega
  have hw : IntKind.i64.wrap ((n : Int) - 1) = (n : Int) - 1 := IntWalk.i64_in _ (by omega)
  have HBY := hid (arBy_any n A c xs w (by omega) hlen hc)
  cases ha : xs.all (inB 0 ((n : Int) - 1))
  · obtain ⟨e1, e2⟩ := by_bad (t := n) (by omega) hlen ha
    rw [e1, e2]
    have HA := hid ha
    clear ha ht h30 hG e1 e2
    go_enter Try.func16, Try.ntmps16
    go_wp2_with (first | (go_at_call 33; refine (chRunners_b _ _ _ HT.out).mono ?_; rintro e w' ⟨rfl, rfl⟩) | (go_at_call 34; refine (l1All_b _ _ _ _ _ _ hl hc _ HA.out).mono ?_; rintro e w' ⟨rfl, rfl⟩))
    go_ret2
    exact ⟨none, 0, rfl, own_nil _ _, Below.refl _ _⟩
  · have HA := hid ha
    obtain ⟨R, hR⟩ : ∃ R, R = byL n xs := ⟨_, rfl⟩
    obtain ⟨S, hS⟩ : ∃ S, S = byB n xs := ⟨_, rfl⟩
    rw [← hR, ← hS] at HBY
    rw [← hR, ← hS]
    clear ha ht h30 hG hR hS
    go_enter Try.func16, Try.ntmps16
    go_wp2_with (first | (go_at_call 33; refine (chRunners_b _ _ _ HT.out).mono ?_; rintro e w' ⟨rfl, rfl⟩) | (go_at_call 34; refine (l1All_b _ _ _ _ _ _ hl hc _ HA.out).mono ?_; rintro e w' ⟨rfl, rfl⟩))
    refine HBY.out.mono ?_
    rintro e w2 ⟨A2, c2, rfl, o2, b2⟩
    have HO := hid o2
    have HB := hid b2
    clear o2 b2
    go_wp2_with fail
    go_ret2
    exact ⟨A2, c2, rfl, HO.out, HB.out⟩
end Go.Proofs.Ytkbdlhmkiolegaa
