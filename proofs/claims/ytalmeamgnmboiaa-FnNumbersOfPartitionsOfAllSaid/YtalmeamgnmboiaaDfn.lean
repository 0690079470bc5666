/-
  Contracts: DifferentNumber on both sides.
-/
import Derived.Test.YtalmeamgnmboiaaCsD
import Derived.Test.YtalmeamgnmboiaaNmb
namespace Go.Proofs.Ytalmeamgnmboiaa
open Go.RowKit

def dnF (n : Int) : Int := if nmB n then (csT n.toNat n.toNat).getD n.toNat 0 else 0
theorem dnF_t {n : Nat} (h : nmB n = true) : dnF n = (csT n n).getD n 0 := by simp [dnF, h]
theorem dnF_f {n : Int} (h : nmB n = false) : dnF n = 0 := by simp [dnF, h]

set_option maxHeartbeats 400000 in
theorem impl_DifferentNumber (n : Int) (w : World) (_hn : I64 n) :
    Calls Try.prog 7 #[.int .i64 n] w fun e w' => e = .returned (.tuple #[.int .i64 (dnF n), .bool (nmB n)]) ∧ Below w.heap.size w w' := by
  cases h : nmB n
  · rw [dnF_f h]
    have H := hid h; clear h
    go_enter Try.func7, Try.ntmps7
    go_wp2_with (go_at_call 15; refine (isNumbered_b _ _ _ H.out).mono ?_; rintro e w' ⟨rfl, rfl⟩)
    go_ret2
    exact ⟨rfl, Below.refl _ _⟩
  obtain ⟨m, rfl, hm⟩ := nmB_nat h
  rw [dnF_t h]
  have H := hid h; clear h
  have hCD := countDifferent_any m w hm
  have hl := csT_len m m
  obtain ⟨L, hL⟩ : ∃ L, L = csT m m := ⟨_, rfl⟩
  rw [← hL] at hCD hl ⊢
  have HL := hid hl
  have HCD := hid hCD
  clear hL hl hCD
  go_enter Try.func7, Try.ntmps7
  go_wp2_with (go_at_call 15; refine (isNumbered_b _ _ _ H.out).mono ?_; rintro e w' ⟨rfl, rfl⟩)
  refine HCD.out.mono ?_
  rintro e w2 ⟨A2, c2, rfl, o2, b2⟩
  obtain ⟨b, o, rfl, hcc⟩ := o2.cells (by rw [HL.out]; omega)
  have hck := hcc m (by rw [HL.out]; omega)
  obtain ⟨x, hx⟩ : ∃ x, x = L.getD m 0 := ⟨_, rfl⟩
  rw [← hx] at hck
  have HX := hid hx
  have hlt : (m : Int) < (m : Int) + 1 := by omega
  clear hcc hx
  go_wp2_with fail
  go_ret2
  exact ⟨by rw [HX.out]; rfl, b2⟩

set_option maxRecDepth 100000 in
set_option maxHeartbeats 2000000 in
theorem spec_DifferentNumber (n : Int) (w : World) (_hn : I64 n) :
    Calls Try.prog 8 #[.int .i64 n] w fun e w' => e = .returned (.tuple #[.int .i64 (dnF n), .bool (nmB n)]) ∧ Below w.heap.size w w' := by
  cases h : nmB n
  · rw [dnF_f h]
    have H := hid h; clear h
    go_enter Try.func8, Try.ntmps8
    go_wp2_with (go_at_call 17; refine (rkNumber_b _ _ _ H.out).mono ?_; rintro e w' ⟨rfl, rfl⟩)
    go_ret2
    exact ⟨rfl, Below.refl _ _⟩
  obtain ⟨n, rfl, hn30⟩ := nmB_nat h
  rw [dnF_t h]
  have H := hid h; clear h
  have hmk := run_make_row' (P := Try.prog) 22 3 (.int .i64 0) 8 Try.underlying22 Try.infoInt rfl .i64 .i64 (n + 1) (by omega) (by omega)
  obtain ⟨w2, hw2⟩ : ∃ w2, w2 = w.alloc (.cells ((madeCells #[.int .i64 0] (n + 1)).setIfInBounds 0 (.int .i64 1)) 3) := ⟨_, rfl⟩
  have o2 : Own w2 w.heap.size (some ⟨w.heap.size, 0, none⟩) (n + 1) (csT n 0) := by rw [hw2]; exact own_made1 w (n + 1) (by omega)
  have b3 : Below w.heap.size w w2 := by rw [hw2]; exact (Below.refl _ _).alloc (Nat.le_refl _) _
  have hc0 := own_get (own_made w (n + 1) (by omega)) (k := 0) (by rw [fnRow_len]; omega)
  have hf0 := own_froz (own_made w (n + 1) (by omega)) 0
  rw [fnRow_get _ _ _ (by omega)] at hc0
  have hnn : ((n + 1 : Nat) : Int) = (n : Int) + 1 := by omega
  have HW := hid hw2
  rw [hnn] at hmk
  have hlt0 : (0 : Int) < (n : Int) + 1 := by omega
  clear hw2
  go_enter Try.func8, Try.ntmps8
  go_wp2_with (go_at_call 17; refine (rkNumber_b _ _ _ H.out).mono ?_; rintro e w' ⟨rfl, rfl⟩)
  rw [← HW.out]
  have HN := hid hnn
  clear hmk HW hnn hlt0 hc0 hf0
  go_loopw [5] (fun i wr => ∃ K : Nat, K ≤ n ∧ i = .int .i64 ((K : Int) + 1) ∧ (∃ S, S = csT n K ∧ S.length = n + 1 ∧ wr.ownsRow w.heap.size 3 1 (.slice (some ⟨w.heap.size, 0, none⟩) (n + 1) (n + 1)) (n + 1) (IL S)) ∧ Below w.heap.size w wr) (fun i _ => n + 1 - (intOf i).toNat)
  case atStart =>
    refine ⟨0, Nat.zero_le _, rfl, ⟨_, rfl, csT_len n 0, ?_⟩, b3⟩
    have h := o2
    unfold Own at h
    rw [csT_len] at h
    exact h
  case round =>
    obtain ⟨K, hK, rfl, ⟨S, hS, hSl, hown⟩, hbel⟩ := hrel
    have HS := hid hS; clear hS o2 b3
    obtain ⟨wo, rfl⟩ : ∃ wo : World, wo = wr := ⟨_, rfl⟩
    by_cases hlt : K < n
    · go_wp2_with fail
      go_loopw [6] (fun i wr => ∃ c : Nat, c ≤ n - K ∧ i = .int .i64 ((n : Int) - c) ∧ (∃ Z, Z = addD S (K + 1) n c ∧ Z.length = n + 1 ∧ wr.ownsRow w.heap.size 3 1 (.slice (some ⟨w.heap.size, 0, none⟩) (n + 1) (n + 1)) (n + 1) (IL Z)) ∧ Below w.heap.size w wr) (fun i _ => (intOf i).toNat)
      case atStart => exact ⟨0, Nat.zero_le _, by simp, ⟨_, rfl, hSl, hown⟩, hbel⟩
      case round =>
        obtain ⟨c, hc, rfl, ⟨Z, hZ, hZl, hown⟩, hbel⟩ := hrel
        by_cases hcl : c < n - K
        · have ho := own_of_len hown hZl
          have hc1 := own_get ho (k := n - c) (by omega)
          have hc2 := own_get ho (k := n - c - (K + 1)) (by omega)
          have hfz := own_froz ho (n - c)
          have hst := own_set ho (n - c) (IntKind.i64.wrap (Z.getD (n - c) 0 + Z.getD (n - c - (K + 1)) 0))
          rw [IntWalk.i64_left] at hst
          have HAS := hid (addD_succ S (K + 1) n c)
          rw [← hZ, IntWalk.i64_left] at HAS
          obtain ⟨p, hp⟩ : ∃ p, p = n - c := ⟨_, rfl⟩
          obtain ⟨q, hq⟩ : ∃ q, q = n - c - (K + 1) := ⟨_, rfl⟩
          have hpi : (n : Int) - (c : Int) = p := by omega
          rw [← hq, ← hp] at hst HAS
          rw [← hp] at hc1 hfz
          rw [← hq] at hc2
          have hwq : IntKind.i64.wrap ((p : Int) - ((K : Int) + 1)) = (q : Int) := by rw [IntWalk.i64_in _ (by omega)]; omega
          have hpn : (p : Int) < (n : Int) + 1 := by omega
          have hqn : (q : Int) < (n : Int) + 1 := by omega
          have hpd : (K : Int) + 1 ≤ (p : Int) := by omega
          obtain ⟨x, hx⟩ : ∃ x, x = Z.getD p 0 := ⟨_, rfl⟩
          obtain ⟨y, hy⟩ : ∃ y, y = Z.getD q 0 := ⟨_, rfl⟩
          rw [← hx] at hc1 hst HAS
          rw [← hy] at hc2 hst HAS
          have HST := hid hst
          have HZL := hid hZl
          have HSL := hid hSl
          have HPP := hid (show p = n - c from hp)
          rw [hpi]
          clear hZ hZl hSl hown ho hx hy hst hp hq hpi
          go_wp2_with fail
          go_region
          go_wp2_with fail
          go_roundw
          case rel => exact ⟨c + 1, by omega, by have := HPP.out; congr 1; omega, ⟨_, rfl, by rw [addD_len]; exact HSL.out, own_at_len (own_drew (own_len HST.out HAS.out)) (by rw [addD_len]; exact HSL.out)⟩, below_drew (hbel.setCell (Nat.le_refl _) _)⟩
          case measure => simp [intOf]; omega
        · have hce : c = n - K := by omega
          subst hce
          have hnd : ¬ ((K : Int) + 1 ≤ (n : Int) - ((n - K : Nat) : Int)) := by omega
          have HQT := hid (show csT n (K + 1) = addD (csT n K) (K + 1) n (n - K) from rfl)
          rw [← HS.out, ← hZ] at HQT
          have HZL := hid hZl
          have HO := hid hown
          obtain ⟨m, hm⟩ : ∃ m, m = ((n - K : Nat) : Int) := ⟨_, rfl⟩
          rw [← hm] at hnd ⊢
          have hmb : 0 ≤ m ∧ m ≤ 201 := by omega
          clear hm hZ hZl hown hSl
          go_wp2_with fail
          go_roundw
          case rel => exact ⟨K + 1, by omega, by go_num, ⟨_, rfl, by rw [HQT.out]; exact HZL.out, by rw [HQT.out]; exact HO.out⟩, hbel⟩
          case measure => simp [intOf]; omega
    · have hke : K = n := by omega
      subst hke
      have ho := own_len (own_of_len hown hSl) HS.out
      obtain ⟨g, hg⟩ : ∃ g, g = w.heap.size := ⟨_, rfl⟩
      obtain ⟨b, o, e, hcc⟩ := ho.cells (by rw [csT_len]; omega)
      have hck := hcc K (by rw [csT_len]; omega)
      injection e with e; injection e with e1 e2; subst e1; subst e2
      obtain ⟨x, hx⟩ : ∃ x, x = (csT K K).getD K 0 := ⟨_, rfl⟩
      rw [← hx] at hck
      rw [Nat.zero_add] at hck
      have HX := hid hx
      have hltK : (K : Int) < (K : Int) + 1 := by omega
      clear hown ho hSl hcc hx hg
      go_wp2_with fail
      go_ret2
      exact ⟨by rw [HX.out]; rfl, hbel⟩
end Go.Proofs.Ytalmeamgnmboiaa
