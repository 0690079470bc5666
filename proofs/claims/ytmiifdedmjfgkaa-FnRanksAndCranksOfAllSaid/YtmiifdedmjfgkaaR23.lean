/-
  Several texts in one.
-/
import Derived.Test.YtmiifdedmjfgkaaR22
import Derived.Test.YtmiifdedmjfgkaaR18
/-
  Contract: spreadOf with 21.
-/
namespace Go.Proofs.Ytmiifdedmjfgkaa
open Go.RowKit Go.Maps

set_option maxRecDepth 100000 in
set_option maxHeartbeats 2000000 in
theorem spreadR_any (A : Option Addr) (c : Nat) (R : List (List Int)) (V : Nat → Int) (w : World) (hl : R.length ≤ 10000) (hc : Cells2 w A R) (hV : ∀ k, k < R.length → -1000 ≤ V k ∧ V k ≤ 1000)
    (hcl : ∀ k, k < R.length → ∀ (wx : World) (A' : Option Addr) (c' : Nat), Below w.heap.size w wx → Cells wx A' (R.getD k []) → Calls Try.prog 21 #[.slice A' (R.getD k []).length c'] wx fun e w' => e = .returned (.int .i64 (V k)) ∧ Below wx.heap.size wx w') :
    Calls Try.prog 31 #[.slice A R.length c, .func (.func 21) #[] #[]] w fun e w' => e = .returned (.map (some w.heap.size)) ∧ SpI w' w.heap.size R.length V ∧ Below w.heap.size w w' := by
  have hmm := @run_makeMap Try.prog
  have HCL := hid hcl
  clear hcl
  go_enter Try.func31, Try.ntmps31
  go_wp2_with fail
  go_loopw [11] (fun i wr => ∃ k : Nat, k ≤ R.length ∧ i = .int .i64 k ∧ Hid (SpI wr w.heap.size k V) ∧ Hid (Below w.heap.size w wr)) (fun i _ => R.length - (intOf i).toNat)
  case atStart => exact ⟨0, Nat.zero_le _, rfl, hid ⟨_, World.ownsMap_made _ _ _ _, fun _ _ => rfl⟩, hid ((Below.refl _ _).alloc (Nat.le_refl _) _)⟩
  case round =>
    obtain ⟨k, hk, rfl, HS, HB⟩ := hrel
    clear hmm
    by_cases hlt : k < R.length
    · have hc2 := cells2_below hc HB.out
      obtain ⟨P, C, h1, h2⟩ := hc2
      obtain ⟨b, o, rfl, hcc⟩ := h1 (by omega)
      have hck := hcc k hlt
      have HF := hid (HCL.out k hlt wr (P k) (C k) HB.out (h2 k hlt))
      obtain ⟨r, hr⟩ : ∃ r, r = R.getD k [] := ⟨_, rfl⟩
      rw [← hr] at hck HF
      have hvb := hV k hlt
      obtain ⟨v, hv⟩ : ∃ v, v = V k := ⟨_, rfl⟩
      rw [← hv] at hvb
      have hvw : (Lit.int .i64 v).wf = true := WalkArith.wf_i64 (by omega)
      have hcn := cntV_le V v k
      have HV := hid hv
      rw [← hv] at HF
      clear h1 h2 hcc hr hv
      go_wp2_with (first | (go_at_call 21; refine HF.out.mono ?_; rintro e w2 ⟨rfl, b2⟩; have s2 := HS.out.below b2; have hrun := s2.look v hvw; obtain ⟨D, hown, hat⟩ := s2; have HAT := hid hat; have HBB := hid (HB.out.trans (b2.mono HB.out.size)); clear hat; obtain ⟨n, hn⟩ : ∃ n : Nat, n = cntV V v k := ⟨_, rfl⟩; rw [← hn] at hrun hcn; have HN := hid hn; clear hn) | (at_mapUpdate; refine wpList_mapUpdate_own _ rfl _ _ _ 41 rfl 3 3 Try.spILaw Try.underlying41 _ w.heap.size k _ rfl hown (by unfold maxLen; omega) _ _ _ rfl rfl (keyOf_int_mk Try.underlying3 hvw) _ [] (plainElem_int Try.underlying3 (WalkArith.wf_i64 (by omega))) ?_; intro w3 hown3 hgrow3))
      have hs3 := SpI.put HAT.out (hown.tidy Try.spILaw).isMap hvw HV.out.symm (by rw [← HN.out]; exact hown3)
      have hb3 := HBB.out.grown hgrow3 HBB.out.size (fun j hj => by cases hj; exact Nat.le_refl _)
      have HS3 := hid hs3
      have HB3 := hid hb3
      clear hs3 hb3 hown3 hgrow3 hown
      go_roundw
      case rel => exact ⟨k + 1, by omega, by go_num, HS3, HB3⟩
      case measure => simp [intOf]; omega
    · have hkl : k = R.length := by omega
      subst hkl
      go_wp2_with fail
      go_ret
      exact ⟨rfl, HS.out, HB.out⟩
end Go.Proofs.Ytmiifdedmjfgkaa
/-
  Contracts: RankCountAt on both sides.
-/
namespace Go.Proofs.Ytmiifdedmjfgkaa
open Go.RowKit Go.Maps

def rnkV (m : Nat) (k : Nat) : Int := rkV ((prt m).getD k [])
def rctB (n r : Int) : Bool := spB n && inB (-30) 30 r
def rctF (n r : Int) : Int := if rctB n r then (cntV (rnkV n.toNat) r (prt n.toNat).length : Nat) else 0
theorem rctF_f {n r : Int} (h : rctB n r = false) : rctF n r = 0 := by simp [rctF, h]
theorem rctF_t {m : Nat} {r : Int} (h : rctB m r = true) : rctF m r = (cntV (rnkV m) r (prt m).length : Nat) := by simp [rctF, h]
theorem rctB_iff {n r : Int} : rctB n r = true ↔ spB n = true ∧ (-30 ≤ r ∧ r ≤ 30) := by rw [rctB, Bool.and_eq_true, inB_iff]

set_option maxRecDepth 100000 in
set_option maxHeartbeats 2000000 in
theorem impl_RankCountAt (n r : Int) (w : World) (_ : I64 n) (_ : I64 r) :
    Calls Try.prog 17 #[.int .i64 n, .int .i64 r] w fun e w' => e = .returned (.tuple #[.int .i64 (rctF n r), .bool (rctB n r)]) ∧ Below w.heap.size w w' := by
  cases hs : spB n
  · have h : rctB n r = false := by simp [rctB, hs]
    rw [rctF_f h, h]
    have H := hid hs; clear hs h
    go_enter Try.func17, Try.ntmps17
    go_wp2_with (go_at_call 30; refine (isSpread_b _ _ _ H.out).mono ?_; rintro e w' ⟨rfl, rfl⟩)
    go_ret2
    exact ⟨rfl, Below.refl _ _⟩
  have H := hid hs
  by_cases hr1 : -30 ≤ r
  case neg =>
    have h : rctB n r = false := by simp [rctB, inB]; omega
    rw [rctF_f h, h]
    clear hs h
    go_enter Try.func17, Try.ntmps17
    go_wp2_with (go_at_call 30; refine (isSpread_b _ _ _ H.out).mono ?_; rintro e w' ⟨rfl, rfl⟩)
    go_ret2
    exact ⟨rfl, Below.refl _ _⟩
  by_cases hr2 : r ≤ 30
  case neg =>
    have h : rctB n r = false := by simp [rctB, inB]; omega
    rw [rctF_f h, h]
    clear hs h
    go_enter Try.func17, Try.ntmps17
    go_wp2_with (go_at_call 30; refine (isSpread_b _ _ _ H.out).mono ?_; rintro e w' ⟨rfl, rfl⟩)
    go_ret2
    exact ⟨rfl, Below.refl _ _⟩
  have h : rctB n r = true := rctB_iff.2 ⟨hs, hr1, hr2⟩
  obtain ⟨m, rfl, hm1, hm⟩ := spB_nat hs
  rw [rctF_t h, h]
  have HL := hid (listPrt m w hm)
  have hll := prt_len hm
  have hrw : (Lit.int .i64 r).wf = true := WalkArith.wf_i64 (by omega)
  have HSP := hid (fun (A : Option Addr) (c : Nat) (wx : World) (hx : Cells2 wx A (prt m)) => spreadR_any A c (prt m) (rnkV m) wx (by omega) hx
    (fun k hk => by have := rkV_bd (prt_row hm hk).1 (prt_pos hm1 hm hk); unfold rnkV; omega)
    (fun k hk wy A' c' _ hcy => (rankOf_any A' c' _ wy (prt_row hm hk).1 (prt_pos hm1 hm hk) hcy).mono (by rintro e w' ⟨rfl, rfl⟩; exact ⟨rfl, Below.refl _ _⟩)))
  obtain ⟨R, hR⟩ : ∃ R, R = prt m := ⟨_, rfl⟩
  obtain ⟨V, hV⟩ : ∃ V, V = rnkV m := ⟨_, rfl⟩
  rw [← hR] at HL hll
  rw [← hR, ← hV] at HSP ⊢
  clear hR hV hs h
  go_enter Try.func17, Try.ntmps17
  go_wp2_with (first | (go_at_call 30; refine (isSpread_b _ _ _ H.out).mono ?_; rintro e w' ⟨rfl, rfl⟩) | (go_at_call 32; refine HL.out.mono ?_; rintro e w2 ⟨A2, c2, rfl, o2, b2⟩; have HO2 := hid o2.cells; have HB2 := hid b2; clear o2 b2) | (go_at_call 31; refine (HSP.out _ _ _ HO2.out).mono ?_; rintro e w3 ⟨rfl, s3, b3⟩; have hrun := s3.look r hrw; have HB3 := hid (Below.next HB2.out b3); clear s3 b3))
  go_ret2
  exact ⟨rfl, HB3.out⟩

set_option maxRecDepth 100000 in
set_option maxHeartbeats 2000000 in
theorem spec_RankCountAt (n r : Int) (w : World) (_ : I64 n) (_ : I64 r) :
    Calls Try.prog 18 #[.int .i64 n, .int .i64 r] w fun e w' => e = .returned (.tuple #[.int .i64 (rctF n r), .bool (rctB n r)]) ∧ Below w.heap.size w w' := by
  cases hs : spB n
  · have h : rctB n r = false := by simp [rctB, hs]
    rw [rctF_f h, h]
    have H := hid hs; clear hs h
    go_enter Try.func18, Try.ntmps18
    go_wp2_with (go_at_call 33; refine (rkSpread_b _ _ _ H.out).mono ?_; rintro e w' ⟨rfl, rfl⟩)
    go_ret2
    exact ⟨rfl, Below.refl _ _⟩
  have H := hid hs
  cases hi : inB (-30) 30 r
  · have h : rctB n r = false := by simp [rctB, hi]
    rw [rctF_f h, h]
    have HI := hid hi
    clear hs h hi
    go_enter Try.func18, Try.ntmps18
    go_wp2_with (first | (go_at_call 33; refine (rkSpread_b _ _ _ H.out).mono ?_; rintro e w' ⟨rfl, rfl⟩) | (go_at_call 34; refine (l1In_b _ _ _ _ _ HI.out).mono ?_; rintro e w' ⟨rfl, rfl⟩))
    go_ret2
    exact ⟨rfl, Below.refl _ _⟩
  have hri := inB_iff.1 hi
  have HI := hid hi
  have h : rctB n r = true := rctB_iff.2 ⟨hs, hri⟩
  obtain ⟨m, rfl, hm1, hm⟩ := spB_nat hs
  rw [rctF_t h, h]
  have HL := hid (allPrt m w hm)
  have hll := prt_len hm
  have HR := hid (fun k (hk : k < (prt m).length) => (⟨(prt_row hm hk).1, prt_pos hm1 hm hk⟩ : Good ((prt m).getD k []) ∧ 0 < ((prt m).getD k []).length))
  have HV := hid (fun k => (show rnkV m k = rkV ((prt m).getD k []) from rfl))
  obtain ⟨R, hR⟩ : ∃ R, R = prt m := ⟨_, rfl⟩
  obtain ⟨V, hV⟩ : ∃ V, V = rnkV m := ⟨_, rfl⟩
  rw [← hR] at HL HR hll
  rw [← hR, ← hV] at HV ⊢
  clear hR hV hs h hi
  go_enter Try.func18, Try.ntmps18
  go_wp2_with (first | (go_at_call 33; refine (rkSpread_b _ _ _ H.out).mono ?_; rintro e w' ⟨rfl, rfl⟩) | (go_at_call 34; refine (l1In_b _ _ _ _ _ HI.out).mono ?_; rintro e w' ⟨rfl, rfl⟩) | (go_at_call 23; refine HL.out.mono ?_; rintro e w2 ⟨A2, c2, rfl, o2, b2⟩; have HO2 := hid o2.cells; have HB2 := hid b2; clear o2 b2))
  go_loop [6, 21] (fun v i => ∃ k : Nat, k ≤ R.length ∧ i = .int .i64 k ∧ v = .int .i64 (cntV V r k : Nat)) (fun _ i => R.length - (intOf i).toNat)
  case atStart => exact ⟨0, Nat.zero_le _, rfl, rfl⟩
  case round =>
    obtain ⟨k, hk, rfl, rfl⟩ := hrel
    by_cases hlt : k < R.length
    · obtain ⟨P, C, h1, h2⟩ := HO2.out
      obtain ⟨b, o, rfl, hcc⟩ := h1 (by omega)
      have hck := hcc k hlt
      obtain ⟨G, hp⟩ := HR.out k hlt
      have hc0 := h2 k hlt
      have hv := HV.out k
      unfold rkV at hv
      have hln := G.len
      have hx0 := G.le 0 hp
      have hx1 := G.pos 0 hp
      have hcn := cntV_le V r k
      have HY := hid (fun h => cntV_yes (V := V) (x := r) (k := k) h)
      have HN := hid (fun h => cntV_no (V := V) (x := r) (k := k) h)
      obtain ⟨p, hpe⟩ : ∃ p, p = R.getD k [] := ⟨_, rfl⟩
      rw [← hpe] at hck hp hc0 hv hln hx0 hx1
      obtain ⟨b2, o2, he, hcc2⟩ := hc0 hp
      have hcx := hcc2 0 hp
      rw [Nat.add_zero] at hcx
      rw [he] at hck
      obtain ⟨x, hx⟩ : ∃ x, x = p.getD 0 0 := ⟨_, rfl⟩
      rw [← hx] at hcx hv hx0 hx1
      obtain ⟨s, hs⟩ : ∃ s : Nat, s = cntV V r k := ⟨_, rfl⟩
      rw [← hs] at hcn HY HN ⊢
      rw [hv] at HY HN
      obtain ⟨L, hL⟩ : ∃ L, L = p.length := ⟨_, rfl⟩
      rw [← hL] at hck hln HY HN hp
      clear hcc h1 h2 hpe hcc2 hx hs hL hv hc0 G he
      by_cases hq : x - (L : Int) = r
      · have HE := hid (HY.out hq)
        clear HY HN
        go_wp2_with fail
        go_round
        case rel => exact ⟨k + 1, by omega, by go_num, by rw [HE.out]; rfl⟩
        case measure => simp [intOf]; omega
      · have HE := hid (HN.out hq)
        clear HY HN
        go_wp2_with fail
        go_round
        case rel => exact ⟨k + 1, by omega, by go_num, by rw [HE.out]⟩
        case measure => simp [intOf]; omega
    · have hkl : k = R.length := by omega
      subst hkl
      go_wp2_with fail
      go_ret2
      exact ⟨rfl, HB2.out⟩
end Go.Proofs.Ytmiifdedmjfgkaa
