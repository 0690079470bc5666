/-
  Contracts: CoresBySeries of the model.
-/
import Derived.Test.YtabnhmjiegeldaaSer
namespace Go.Proofs.Ytabnhmjiegeldaa
open Go.RowKit

theorem own_drew {w : World} {B : Nat} {A : Option Addr} {c : Nat} {xs : List Int} (h : Own w B A c xs) : Own w.drew B A c xs := h
theorem below_drew {B : Nat} {a w : World} (h : Below B a w) : Below B a w.drew := ⟨h.os, h.tape, h.output, h.size, h.block⟩

theorem own_made1 (w : World) (n : Nat) (hn : n ≤ 1048576) : Own (w.alloc (.cells ((madeCells #[.int .i64 0] n).setIfInBounds 0 (.int .i64 1)) 3)) w.heap.size (some ⟨w.heap.size, 0, none⟩) n ((fnRow n (fun _ => 0)).set 0 1) := by
  have h := World.ownsRow_lit (base := w.heap.size) (e := 3) (size := 1) w ((madeCells #[.int .i64 0] n).setIfInBounds 0 (.int .i64 1)) n (Nat.le_refl _) (by unfold maxLen; omega) (by rw [Array.size_setIfInBounds, size_madeCells]; simp)
  rw [Array.toList_setIfInBounds, toList_madeCells_one] at h
  unfold Own
  rw [List.length_set, fnRow_len, ← IL_set', rowF_zero]
  have e : IL (List.replicate n 0) = List.replicate n (.int .i64 0) := by simp [IL]
  rw [e]
  exact h

theorem own_at_len {w : World} {B : Nat} {A : Option Addr} {c n : Nat} {xs : List Int} (h : Own w B A c xs) (e : xs.length = n) : w.ownsRow B 3 1 (.slice A n c) n (IL xs) := by subst e; exact h
theorem own_of_len {w : World} {B : Nat} {A : Option Addr} {c n : Nat} {xs : List Int} (h : w.ownsRow B 3 1 (.slice A n c) n (IL xs)) (e : xs.length = n) : Own w B A c xs := by subst e; exact h

set_option maxRecDepth 100000 in
set_option maxHeartbeats 4000000 in
theorem spec_CoresBySeries (t0 n0 : Int) (w : World) (_ : I64 t0) (_ : I64 n0) :
    Calls Try.prog 47 #[.int .i64 t0, .int .i64 n0] w fun e w' => ∃ A' c', e = .returned (.tuple #[.slice A' (serF t0 n0).length c', .bool (askB t0 n0)]) ∧ Own w' w.heap.size A' c' (serF t0 n0) ∧ Below w.heap.size w w' := by
  cases hb : askB t0 n0
  · rw [serF_f hb]
    have HB := hid hb; clear hb
    go_enter Try.func47, Try.ntmps47
    go_wp2_with (go_at_call 101; refine (chAsked_b _ _ _ _ HB.out).mono ?_; rintro e w' ⟨rfl, rfl⟩)
    go_ret2
    exact ⟨none, 0, rfl, own_nil _ _, Below.refl _ _⟩
  obtain ⟨t, n, rfl, rfl, ht1, ht2, hn30⟩ := askB_iff hb
  rw [serF_t hb, ser_same ⟨ht1, ht2⟩ hn30, serS_len]
  have HB := hid hb; clear hb
  have hmk := run_make_row' (P := Try.prog) 22 3 (.int .i64 0) 8 Try.underlying22 Try.infoInt rfl .i64 .i64 (n + 1) (by omega) (by omega)
  obtain ⟨w2, hw2⟩ : ∃ w2, w2 = w.alloc (.cells ((madeCells #[.int .i64 0] (n + 1)).setIfInBounds 0 (.int .i64 1)) 3) := ⟨_, rfl⟩
  have o2 : Own w2 w.heap.size (some ⟨w.heap.size, 0, none⟩) (n + 1) (serS t n 0) := by rw [hw2]; exact own_made1 w (n + 1) (by omega)
  have b3 : Below w.heap.size w w2 := by rw [hw2]; exact (Below.refl _ _).alloc (Nat.le_refl _) _
  have hc0 := own_get (own_made w (n + 1) (by omega)) (k := 0) (by rw [fnRow_len]; omega)
  have hf0 := own_froz (own_made w (n + 1) (by omega)) 0
  rw [fnRow_get _ _ _ (by omega)] at hc0
  have hnn : ((n + 1 : Nat) : Int) = (n : Int) + 1 := by omega
  have HW := hid hw2
  rw [hnn] at hmk
  have hlt0 : (0 : Int) < (n : Int) + 1 := by omega
  clear hw2
  go_enter Try.func47, Try.ntmps47
  go_wp2_with (go_at_call 101; refine (chAsked_b _ _ _ _ HB.out).mono ?_; rintro e w' ⟨rfl, rfl⟩)
  rw [← HW.out]
  have HN := hid hnn
  clear hmk HW hnn hlt0 hc0 hf0
  go_loopw [7] (fun i wr => ∃ K : Nat, K ≤ n ∧ i = .int .i64 ((K : Int) + 1) ∧ (∃ S, S = serS t n K ∧ S.length = n + 1 ∧ wr.ownsRow w.heap.size 3 1 (.slice (some ⟨w.heap.size, 0, none⟩) (n + 1) (n + 1)) (n + 1) (IL S)) ∧ Below w.heap.size w wr) (fun i _ => n + 1 - (intOf i).toNat)
  case atStart =>
    refine ⟨0, Nat.zero_le _, rfl, ⟨_, rfl, serS_len t n 0, ?_⟩, b3⟩
    have h := o2
    unfold Own at h
    rw [serS_len] at h
    exact h
  case round =>
    obtain ⟨K, hK, rfl, ⟨S, hS, hSl, hown⟩, hbel⟩ := hrel
    have HS := hid hS; clear hS o2 b3
    obtain ⟨wo, rfl⟩ : ∃ wo : World, wo = wr := ⟨_, rfl⟩
    by_cases hlt : K < n
    · go_wp2_with fail
      go_loopw [8] (fun i wr => ∃ c : Nat, c ≤ n - K ∧ i = .int .i64 ((K : Int) + 1 + c) ∧ (∃ R, R = addP S (K + 1) c ∧ R.length = n + 1 ∧ wr.ownsRow w.heap.size 3 1 (.slice (some ⟨w.heap.size, 0, none⟩) (n + 1) (n + 1)) (n + 1) (IL R)) ∧ Below w.heap.size w wr) (fun i _ => n + 1 - (intOf i).toNat)
      case atStart => exact ⟨0, Nat.zero_le _, by simp, ⟨_, rfl, hSl, hown⟩, hbel⟩
      case round =>
        obtain ⟨c, hcn, rfl, ⟨R, hR, hRl, hown⟩, hbel⟩ := hrel
        by_cases hcl : c < n - K
        · have ho : Own wr w.heap.size (some ⟨w.heap.size, 0, none⟩) (n + 1) R := by unfold Own; rw [hRl]; exact hown
          have hc1 := own_get ho (k := K + 1 + c) (by omega)
          have hc2 := own_get ho (k := c) (by omega)
          have hfz := own_froz ho (K + 1 + c)
          have hst := own_set ho (K + 1 + c) (IntKind.i64.wrap (R.getD (K + 1 + c) 0 + R.getD c 0))
          rw [IntWalk.i64_left] at hst
          have HAS := hid (addP_succ S (K + 1) c)
          rw [← hR, IntWalk.i64_left] at HAS
          have HR := hid hR
          have hk1 : IntKind.i64.wrap ((K : Int) + 1 + (c : Int) - ((K : Int) + 1)) = (c : Int) := by rw [IntWalk.i64_in _ (by omega)]; omega
          have hk2 : ((K : Int) + 1 + (c : Int)).toNat = K + 1 + c := by omega
          have hk3 : (K : Int) + 1 + (c : Int) < (n : Int) + 1 := by omega
          have hk4 : (0 : Int) ≤ (K : Int) + 1 + (c : Int) := by omega
          obtain ⟨x, hx⟩ : ∃ x, x = R.getD (K + 1 + c) 0 := ⟨_, rfl⟩
          obtain ⟨y, hy⟩ : ∃ y, y = R.getD c 0 := ⟨_, rfl⟩
          rw [← hx] at hc1 hst HAS
          rw [← hy] at hc2 hst HAS
          have HST := hid hst
          have HRL := hid hRl
          have HSL := hid hSl
          clear hR hRl hSl hown ho hx hy hst
          go_wp2_with fail
          go_region
          go_wp2_with fail
          go_roundw
          case rel => exact ⟨c + 1, by omega, by go_num, ⟨_, rfl, by rw [addP_len]; exact HSL.out, own_at_len (own_drew (own_len HST.out HAS.out.symm)) (by rw [addP_len]; exact HSL.out)⟩, below_drew (hbel.setCell (Nat.le_refl _) _)⟩
          case measure => simp [intOf]; omega
        · have hce : c = n - K := by omega
          subst hce
          obtain ⟨d, hd⟩ : ∃ d, d = t * (K + 1) := ⟨_, rfl⟩
          have hd1 : 1 ≤ d := by rw [hd]; exact Nat.mul_pos (by omega) (by omega)
          have hd2 : d ≤ 6 * (K + 1) := by rw [hd]; exact Nat.mul_le_mul_right _ ht2
          have hdi : (t : Int) * ((K : Int) + 1) = (d : Int) := by rw [hd, Int.natCast_mul]; rfl
          have HD := hid hd
          have HR := hid hR
          obtain ⟨wo, rfl⟩ : ∃ wo : World, wo = wr := ⟨_, rfl⟩
          clear hd hR
          go_wp2_with fail
          go_loopw [9] (fun i wr => ∃ j : Nat, j ≤ t ∧ i = .int .i64 j ∧ (∃ Q, Q = subT R d n j ∧ Q.length = n + 1 ∧ wr.ownsRow w.heap.size 3 1 (.slice (some ⟨w.heap.size, 0, none⟩) (n + 1) (n + 1)) (n + 1) (IL Q)) ∧ Below w.heap.size w wr) (fun i _ => t - (intOf i).toNat)
          case atStart => exact ⟨0, Nat.zero_le _, rfl, ⟨_, rfl, hRl, hown⟩, hbel⟩
          case round =>
            obtain ⟨j, hj, rfl, ⟨Q, hQ, hQl, hown⟩, hbel⟩ := hrel
            have HQ := hid hQ
            clear hQ
            by_cases hjl : j < t
            · obtain ⟨wo, rfl⟩ : ∃ wo : World, wo = wr := ⟨_, rfl⟩
              go_wp2_with fail
              go_loopw [10] (fun i wr => ∃ c : Nat, c ≤ n + 1 - d ∧ i = .int .i64 ((n : Int) - c) ∧ (∃ Z, Z = subP Q d n c ∧ Z.length = n + 1 ∧ wr.ownsRow w.heap.size 3 1 (.slice (some ⟨w.heap.size, 0, none⟩) (n + 1) (n + 1)) (n + 1) (IL Z)) ∧ Below w.heap.size w wr) (fun i _ => (intOf i).toNat)
              case atStart => exact ⟨0, Nat.zero_le _, by simp, ⟨_, rfl, hQl, hown⟩, hbel⟩
              case round =>
                obtain ⟨c, hc, rfl, ⟨Z, hZ, hZl, hown⟩, hbel⟩ := hrel
                by_cases hcl : c < n + 1 - d
                · have ho := own_of_len hown hZl
                  have hc1 := own_get ho (k := n - c) (by omega)
                  have hc2 := own_get ho (k := n - c - d) (by omega)
                  have hfz := own_froz ho (n - c)
                  have hst := own_set ho (n - c) (IntKind.i64.wrap (Z.getD (n - c) 0 - Z.getD (n - c - d) 0))
                  rw [IntWalk.i64_left] at hst
                  have HAS := hid (subP_succ Q d n c)
                  rw [← hZ, IntWalk.i64_left] at HAS
                  obtain ⟨p, hp⟩ : ∃ p, p = n - c := ⟨_, rfl⟩
                  obtain ⟨q, hq⟩ : ∃ q, q = n - c - d := ⟨_, rfl⟩
                  have hpi : (n : Int) - (c : Int) = p := by omega
                  rw [← hq, ← hp] at hst HAS
                  rw [← hp] at hc1 hfz
                  rw [← hq] at hc2
                  have hwd : IntKind.i64.wrap ((t : Int) * ((K : Int) + 1)) = (d : Int) := by rw [hdi]; exact IntWalk.i64_in _ (by omega)
                  have hwq : IntKind.i64.wrap ((p : Int) - (d : Int)) = (q : Int) := by rw [IntWalk.i64_in _ (by omega)]; omega
                  have hpn : (p : Int) < (n : Int) + 1 := by omega
                  have hqn : (q : Int) < (n : Int) + 1 := by omega
                  have hpd : (d : Int) ≤ (p : Int) := by omega
                  have hdp : d ≤ p := by omega
                  obtain ⟨x, hx⟩ : ∃ x, x = Z.getD p 0 := ⟨_, rfl⟩
                  obtain ⟨y, hy⟩ : ∃ y, y = Z.getD q 0 := ⟨_, rfl⟩
                  rw [← hx] at hc1 hst HAS
                  rw [← hy] at hc2 hst HAS
                  have HST := hid hst
                  have HZL := hid hZl
                  have HQL := hid hQl
                  have HPP := hid (show p = n - c from hp)
                  rw [hpi]
                  clear hZ hZl hQl hown ho hx hy hst hp hq hpi
                  go_wp2_with fail
                  go_region
                  go_wp2_with fail
                  go_roundw
                  case rel => exact ⟨c + 1, by omega, by have := HPP.out; congr 1; omega, ⟨_, rfl, by rw [subP_len]; exact HQL.out, own_at_len (own_drew (own_len HST.out HAS.out.symm)) (by rw [subP_len]; exact HQL.out)⟩, below_drew (hbel.setCell (Nat.le_refl _) _)⟩
                  case measure => simp [intOf]; omega
                · have hce : c = n + 1 - d := by omega
                  subst hce
                  have hnd : ¬ ((d : Int) ≤ (n : Int) - ((n + 1 - d : Nat) : Int)) := by omega
                  have HQT := hid (show subT R d n (j + 1) = subP (subT R d n j) d n (n + 1 - d) from rfl)
                  rw [← HQ.out, ← hZ] at HQT
                  have HZL := hid hZl
                  have HO := hid hown
                  obtain ⟨m, hm⟩ : ∃ m, m = ((n + 1 - d : Nat) : Int) := ⟨_, rfl⟩
                  rw [← hm] at hnd ⊢
                  have hmb : 0 ≤ m ∧ m ≤ 31 := by omega
                  clear hm hZ hZl hown hQl
                  go_wp2_with fail
                  go_roundw
                  case rel => exact ⟨j + 1, by omega, by go_num, ⟨_, rfl, by rw [HQT.out]; exact HZL.out, by rw [HQT.out]; exact HO.out⟩, hbel⟩
                  case measure => simp [intOf]; omega
            · have hje : j = t := by omega
              subst hje
              have HF := hid (show serS j n (K + 1) = subT (addP (serS j n K) (K + 1) (n - K)) (j * (K + 1)) n j from rfl)
              rw [← HS.out, ← HR.out, ← HD.out, ← HQ.out] at HF
              have HO := hid hown
              have HQL := hid hQl
              clear hown hQl hRl hSl hdi
              go_wp2_with fail
              go_roundw
              case rel => exact ⟨K + 1, by omega, by go_num, ⟨_, rfl, by rw [HF.out]; exact HQL.out, by rw [HF.out]; exact HO.out⟩, hbel⟩
              case measure => simp [intOf]; omega
    · have hke : K = n := by omega
      subst hke
      have ho := own_len (own_of_len hown hSl) HS.out
      have HO := hid ho
      clear hown ho hSl
      go_wp2_with fail
      go_ret2
      exact ⟨_, _, rfl, HO.out, hbel⟩
end Go.Proofs.Ytabnhmjiegeldaa
