/-
  Contracts: RankCountAt on both sides.
-/
import Derived.Test.YtkdkocpgaalmeaaSpk
import Derived.Test.YtkdkocpgaalmeaaSprR
namespace Go.Proofs.Ytkdkocpgaalmeaa
open Go.RowKit Go.Maps

def rnkV (m : Nat) (k : Nat) : Int := rkV ((prt m).getD k [])
def rctB (n r : Int) : Bool := spB n && inB (-30) 30 r
def rctF (n r : Int) : Int := if rctB n r then (cntV (rnkV n.toNat) r (prt n.toNat).length : Nat) else 0
theorem rctF_f {n r : Int} (h : rctB n r = false) : rctF n r = 0 := by simp [rctF, h]
theorem rctF_t {m : Nat} {r : Int} (h : rctB m r = true) : rctF m r = (cntV (rnkV m) r (prt m).length : Nat) := by simp [rctF, h]
theorem rctB_iff {n r : Int} : rctB n r = true ↔ spB n = true ∧ (-30 ≤ r ∧ r ≤ 30) := by rw [rctB, Bool.and_eq_true, inB_iff]

set_option maxRecDepth 100000 in
set_option maxHeartbeats 2000000 in
theorem impl_RankCountAt (n r : Int) (w : World) (_ : I64 n) (_ : I64 r) :
    Calls Try.prog 62 #[.int .i64 n, .int .i64 r] w fun e w' => e = .returned (.tuple #[.int .i64 (rctF n r), .bool (rctB n r)]) ∧ Below w.heap.size w w' := by
  cases hs : spB n
  · have h : rctB n r = false := by simp [rctB, hs]
    rw [rctF_f h, h]
    have H := hid hs; clear hs h
    go_enter Try.func62, Try.ntmps62
    go_wp2_with (go_at_call 116; refine (isSpread_b _ _ _ H.out).mono ?_; rintro e w' ⟨rfl, rfl⟩)
    go_ret2
    exact ⟨rfl, Below.refl _ _⟩
  have H := hid hs
  by_cases hr1 : -30 ≤ r
  case neg =>
    have h : rctB n r = false := by simp [rctB, inB]; omega
    rw [rctF_f h, h]
    clear hs h
    go_enter Try.func62, Try.ntmps62
    go_wp2_with (go_at_call 116; refine (isSpread_b _ _ _ H.out).mono ?_; rintro e w' ⟨rfl, rfl⟩)
    go_ret2
    exact ⟨rfl, Below.refl _ _⟩
  by_cases hr2 : r ≤ 30
  case neg =>
    have h : rctB n r = false := by simp [rctB, inB]; omega
    rw [rctF_f h, h]
    clear hs h
    go_enter Try.func62, Try.ntmps62
    go_wp2_with (go_at_call 116; refine (isSpread_b _ _ _ H.out).mono ?_; rintro e w' ⟨rfl, rfl⟩)
    go_ret2
    exact ⟨rfl, Below.refl _ _⟩
  have h : rctB n r = true := rctB_iff.2 ⟨hs, hr1, hr2⟩
  obtain ⟨m, rfl, hm1, hm⟩ := spB_nat hs
  rw [rctF_t h, h]
  have HL := hid (listPrt m w hm)
  have hll := prt_len hm
  have hrw : (Lit.int .i64 r).wf = true := WalkArith.wf_i64 (by omega)
  have HSP := hid (fun (A : Option Addr) (c : Nat) (wx : World) (hx : Cells2 wx A (prt m)) => spreadR_any A c (prt m) (rnkV m) wx (by omega) hx
    (fun k hk => by have := rkV_bd (prt_row hm hk).1 (prt_pos hm1 hm hk); unfold rnkV; omega)
    (fun k hk wy A' c' _ hcy => (rankOf_any A' c' _ wy (prt_row hm hk).1 (prt_pos hm1 hm hk) hcy).mono (by rintro e w' ⟨rfl, rfl⟩; exact ⟨rfl, Below.refl _ _⟩)))
  obtain ⟨R, hR⟩ : ∃ R, R = prt m := ⟨_, rfl⟩
  obtain ⟨V, hV⟩ : ∃ V, V = rnkV m := ⟨_, rfl⟩
  rw [← hR] at HL hll
  rw [← hR, ← hV] at HSP ⊢
  clear hR hV hs h
  go_enter Try.func62, Try.ntmps62
  go_wp2_with (first | (go_at_call 116; refine (isSpread_b _ _ _ H.out).mono ?_; rintro e w' ⟨rfl, rfl⟩) | (go_at_call 118; refine HL.out.mono ?_; rintro e w2 ⟨A2, c2, rfl, o2, b2⟩; have HO2 := hid o2.cells; have HB2 := hid b2; clear o2 b2) | (go_at_call 117; refine (HSP.out _ _ _ HO2.out).mono ?_; rintro e w3 ⟨rfl, s3, b3⟩; have hrun := s3.look r hrw; have HB3 := hid (Below.next HB2.out b3); clear s3 b3))
  go_ret2
  exact ⟨rfl, HB3.out⟩

set_option maxRecDepth 100000 in
set_option maxHeartbeats 2000000 in
theorem spec_RankCountAt (n r : Int) (w : World) (_ : I64 n) (_ : I64 r) :
    Calls Try.prog 61 #[.int .i64 n, .int .i64 r] w fun e w' => e = .returned (.tuple #[.int .i64 (rctF n r), .bool (rctB n r)]) ∧ Below w.heap.size w w' := by
  cases hs : spB n
  · have h : rctB n r = false := by simp [rctB, hs]
    rw [rctF_f h, h]
    have H := hid hs; clear hs h
    go_enter Try.func61, Try.ntmps61
    go_wp2_with (go_at_call 104; refine (rkSpread_b _ _ _ H.out).mono ?_; rintro e w' ⟨rfl, rfl⟩)
    go_ret2
    exact ⟨rfl, Below.refl _ _⟩
  have H := hid hs
  cases hi : inB (-30) 30 r
  · have h : rctB n r = false := by simp [rctB, hi]
    rw [rctF_f h, h]
    have HI := hid hi
    clear hs h hi
    go_enter Try.func61, Try.ntmps61
    go_wp2_with (first | (go_at_call 104; refine (rkSpread_b _ _ _ H.out).mono ?_; rintro e w' ⟨rfl, rfl⟩) | (go_at_call 87; refine (l1In_b _ _ _ _ _ HI.out).mono ?_; rintro e w' ⟨rfl, rfl⟩))
    go_ret2
    exact ⟨rfl, Below.refl _ _⟩
  have hri := inB_iff.1 hi
  have HI := hid hi
  have h : rctB n r = true := rctB_iff.2 ⟨hs, hri⟩
  obtain ⟨m, rfl, hm1, hm⟩ := spB_nat hs
  rw [rctF_t h, h]
  have HL := hid (allPrt m w hm)
  have hll := prt_len hm
  have HR := hid (fun k (hk : k < (prt m).length) => (⟨(prt_row hm hk).1, prt_pos hm1 hm hk⟩ : Good ((prt m).getD k []) ∧ 0 < ((prt m).getD k []).length))
  have HV := hid (fun k => (show rnkV m k = rkV ((prt m).getD k []) from rfl))
  obtain ⟨R, hR⟩ : ∃ R, R = prt m := ⟨_, rfl⟩
  obtain ⟨V, hV⟩ : ∃ V, V = rnkV m := ⟨_, rfl⟩
  rw [← hR] at HL HR hll
  rw [← hR, ← hV] at HV ⊢
  clear hR hV hs h hi
  go_enter Try.func61, Try.ntmps61
  go_wp2_with (first | (go_at_call 104; refine (rkSpread_b _ _ _ H.out).mono ?_; rintro e w' ⟨rfl, rfl⟩) | (go_at_call 87; refine (l1In_b _ _ _ _ _ HI.out).mono ?_; rintro e w' ⟨rfl, rfl⟩) | (go_at_call 105; refine HL.out.mono ?_; rintro e w2 ⟨A2, c2, rfl, o2, b2⟩; have HO2 := hid o2.cells; have HB2 := hid b2; clear o2 b2))
  go_loop [6, 21] (fun v i => ∃ k : Nat, k ≤ R.length ∧ i = .int .i64 k ∧ v = .int .i64 (cntV V r k : Nat)) (fun _ i => R.length - (intOf i).toNat)
  case atStart => exact ⟨0, Nat.zero_le _, rfl, rfl⟩
  case round =>
    obtain ⟨k, hk, rfl, rfl⟩ := hrel
    by_cases hlt : k < R.length
    · obtain ⟨P, C, h1, h2⟩ := HO2.out
      obtain ⟨b, o, rfl, hcc⟩ := h1 (by omega)
      have hck := hcc k hlt
      obtain ⟨G, hp⟩ := HR.out k hlt
      have hc0 := h2 k hlt
      have hv := HV.out k
      unfold rkV at hv
      have hln := G.len
      have hx0 := G.le 0 hp
      have hx1 := G.pos 0 hp
      have hcn := cntV_le V r k
      have HY := hid (fun h => cntV_yes (V := V) (x := r) (k := k) h)
      have HN := hid (fun h => cntV_no (V := V) (x := r) (k := k) h)
      obtain ⟨p, hpe⟩ : ∃ p, p = R.getD k [] := ⟨_, rfl⟩
      rw [← hpe] at hck hp hc0 hv hln hx0 hx1
      obtain ⟨b2, o2, he, hcc2⟩ := hc0 hp
      have hcx := hcc2 0 hp
      rw [Nat.add_zero] at hcx
      rw [he] at hck
      obtain ⟨x, hx⟩ : ∃ x, x = p.getD 0 0 := ⟨_, rfl⟩
      rw [← hx] at hcx hv hx0 hx1
      obtain ⟨s, hs⟩ : ∃ s : Nat, s = cntV V r k := ⟨_, rfl⟩
      rw [← hs] at hcn HY HN ⊢
      rw [hv] at HY HN
      obtain ⟨L, hL⟩ : ∃ L, L = p.length := ⟨_, rfl⟩
      rw [← hL] at hck hln HY HN hp
      clear hcc h1 h2 hpe hcc2 hx hs hL hv hc0 G he
      by_cases hq : x - (L : Int) = r
      · have HE := hid (HY.out hq)
        clear HY HN
        go_wp2_with fail
        go_round
        case rel => exact ⟨k + 1, by omega, by go_num, by rw [HE.out]; rfl⟩
        case measure => simp [intOf]; omega
      · have HE := hid (HN.out hq)
        clear HY HN
        go_wp2_with fail
        go_round
        case rel => exact ⟨k + 1, by omega, by go_num, by rw [HE.out]⟩
        case measure => simp [intOf]; omega
    · have hkl : k = R.length := by omega
      subst hkl
      go_wp2_with fail
      go_ret2
      exact ⟨rfl, HB2.out⟩
end Go.Proofs.Ytkdkocpgaalmeaa
