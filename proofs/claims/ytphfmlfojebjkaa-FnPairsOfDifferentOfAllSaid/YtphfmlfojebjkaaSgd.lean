/-
  Contracts: SignedNumber on both sides.
-/
import Derived.Test.YtphfmlfojebjkaaSpk
import Derived.Test.YtphfmlfojebjkaaLst
import Derived.Test.YtphfmlfojebjkaaRkd
import Derived.Test.YtphfmlfojebjkaaSprE
namespace Go.Proofs.Ytphfmlfojebjkaa
open Go.RowKit Go.Maps

def evB (p : List Int) : Bool := decide (p.length % 2 = 0)
def sg1V (p : List Int) : Int := if dcr p then (if p.length % 2 = 0 then 1 else -1) else 0
def sgS (M : List (List Int)) : Int := (M.map sg1V).sum
theorem cntV_list {α : Type} [DecidableEq α] (g : List Int → α) (x : α) (F : List (List Int)) : ∀ k, k ≤ F.length → cntV (fun k => g (F.getD k [])) x k = (F.take k).countP (fun p => decide (g p = x))
  | 0, _ => rfl
  | k + 1, h => by
    rw [cntV, cntV_list g x F k (by omega), List.take_succ_eq_append_getElem (by omega), List.countP_append, List.countP_singleton]
    have e : F.getD k [] = F[k] := by rw [List.getD_eq_getElem?_getD, List.getElem?_eq_getElem (by omega)]; rfl
    rw [e]
    by_cases hg : g F[k] = x <;> simp [hg]
theorem sg_filter : ∀ M : List (List Int), (((M.filter dcr).countP (fun p => decide (evB p = true)) : Nat) : Int) - ((M.filter dcr).countP (fun p => decide (evB p = false)) : Nat) = sgS M
  | [] => rfl
  | p :: t => by
    have ih := sg_filter t
    have e : sgS (p :: t) = sg1V p + sgS t := by simp [sgS]
    rw [e, ← ih]
    cases hd : dcr p
    · rw [List.filter_cons_of_neg (by simp [hd])]
      simp [sg1V, hd]
    · rw [List.filter_cons_of_pos hd, List.countP_cons, List.countP_cons]
      by_cases h2 : p.length % 2 = 0
      · have h3 : evB p = true := by simp [evB, h2]
        simp [sg1V, hd, h2, h3]; omega
      · have h3 : evB p = false := by simp [evB, h2]
        simp [sg1V, hd, h2, h3]; omega
def sgdB (n : Int) : Bool := inB 0 30 n
def sgdF (n : Int) : Int := if sgdB n then sgS (prt n.toNat) else 0
theorem sgdF_f {n : Int} (h : sgdB n = false) : sgdF n = 0 := by simp [sgdF, h]
theorem sgdF_t {n : Nat} (h : sgdB n = true) : sgdF n = sgS (prt n) := by simp [sgdF, h]
theorem sgdB_nat {n : Int} (h : sgdB n = true) : ∃ m : Nat, n = m ∧ m ≤ 30 := by
  have := inB_iff.1 h
  exact ⟨n.toNat, by omega, by omega⟩
theorem filter_mem {m : Nat} (hm : m ≤ 30) {k : Nat} (hk : k < ((prt m).filter dcr).length) : (((prt m).filter dcr).getD k []).length ≤ 30 := by
  have hmem : ((prt m).filter dcr).getD k [] ∈ (prt m).filter dcr := by
    rw [List.getD_eq_getElem?_getD, List.getElem?_eq_getElem hk]; exact List.getElem_mem _
  have := (List.mem_filter.1 hmem).1
  obtain ⟨j, hj, e⟩ := List.getElem_of_mem this
  have h2 := (prt_row hm hj).1.len
  rw [List.getD_eq_getElem?_getD, List.getElem?_eq_getElem hj] at h2
  rw [← e]; exact h2

set_option maxHeartbeats 400000 in
theorem evens_any (A : Option Addr) (c : Nat) (p : List Int) (w : World) (_ : p.length ≤ 30) :
    Calls Try.prog 22 #[.slice A p.length c] w fun e w' => e = .returned (.bool (evB p)) ∧ w = w' := by
  by_cases h : p.length % 2 = 0
  · have e : evB p = true := by simp [evB, h]
    have ht : Int.tmod (p.length : Int) 2 = 0 := by rw [Int.tmod_eq_emod_of_nonneg (by omega)]; omega
    rw [e]
    go_enter Try.func22, Try.ntmps22
    go_wp2_with fail
    go_ret
    exact ⟨rfl, rfl⟩
  · have e : evB p = false := by simp [evB, h]
    have ht : Int.tmod (p.length : Int) 2 = 1 := by rw [Int.tmod_eq_emod_of_nonneg (by omega)]; omega
    rw [e]
    go_enter Try.func22, Try.ntmps22
    go_wp2_with fail
    go_ret
    exact ⟨rfl, rfl⟩

set_option maxRecDepth 100000 in
set_option maxHeartbeats 2000000 in
theorem impl_SignedNumber (n : Int) (w : World) (_ : I64 n) :
    Calls Try.prog 9 #[.int .i64 n] w fun e w' => e = .returned (.tuple #[.int .i64 (sgdF n), .bool (sgdB n)]) ∧ Below w.heap.size w w' := by
  cases h : sgdB n
  · rw [sgdF_f h]
    have h' : ¬ (0 ≤ n ∧ n ≤ 30) := fun hh => by have := inB_iff.2 hh; unfold sgdB at h; rw [h] at this; cases this
    clear h
    by_cases h0 : n < 0
    · go_enter Try.func9, Try.ntmps9
      go_wp2_with fail
      go_ret2
      exact ⟨rfl, Below.refl _ _⟩
    · have h1 : 30 < n := by omega
      clear h'
      go_enter Try.func9, Try.ntmps9
      go_wp2_with fail
      go_ret2
      exact ⟨rfl, Below.refl _ _⟩
  obtain ⟨m, rfl, hm⟩ := sgdB_nat h
  rw [sgdF_t h]
  have HL := hid (show Calls Try.prog 21 #[.int .i64 m] w fun e w' => ∃ A' c', e = .returned (.slice A' ((prt m).filter dcr).length c') ∧ Own2 w' w.heap.size w'.heap.size A' c' ((prt m).filter dcr) ∧ Below w.heap.size w w' from listStrict_any m w hm)
  have hll := prt_len hm
  have hfl := List.length_filter_le dcr (prt m)
  have HV := hid (fun (k : Nat) (hk : k < ((prt m).filter dcr).length) => filter_mem hm hk)
  have hfin := sg_filter (prt m)
  have hT := cntV_list evB true ((prt m).filter dcr) _ (Nat.le_refl _)
  have hF := cntV_list evB false ((prt m).filter dcr) _ (Nat.le_refl _)
  rw [List.take_length] at hT hF
  rw [← hT, ← hF] at hfin
  obtain ⟨S, hS⟩ : ∃ S, S = sgS (prt m) := ⟨_, rfl⟩
  rw [← hS] at hfin ⊢
  obtain ⟨R, hR⟩ : ∃ R, R = (prt m).filter dcr := ⟨_, rfl⟩
  rw [← hR] at HL hfl HV hfin
  have hRl : R.length ≤ 10000 := by omega
  clear hll hfl hS hR hT hF
  have HSP := hid (fun (A : Option Addr) (c : Nat) (wx : World) (hx : Cells2 wx A R) => spreadE_any A c R (fun k => evB (R.getD k [])) wx hRl hx
    (fun k hk wy A' c' _ _ => (evens_any A' c' _ wy (HV.out k hk)).mono (by rintro e w' ⟨rfl, rfl⟩; exact ⟨rfl, Below.refl _ _⟩)))
  have hb1 := cntV_le (fun k => evB (R.getD k [])) true R.length
  have hb2 := cntV_le (fun k => evB (R.getD k [])) false R.length
  obtain ⟨V, hV⟩ : ∃ V, V = (fun k => evB (R.getD k [])) := ⟨_, rfl⟩
  rw [← hV] at hfin HSP hb1 hb2
  obtain ⟨t, ht⟩ : ∃ t, t = cntV V true R.length := ⟨_, rfl⟩
  obtain ⟨f, hf⟩ : ∃ f, f = cntV V false R.length := ⟨_, rfl⟩
  rw [← ht, ← hf] at hfin
  rw [← ht] at hb1
  rw [← hf] at hb2
  have HT := hid ht
  have HF := hid hf
  clear hV ht hf
  have h0 : (0 : Int) ≤ m := by omega
  have h30 : (m : Int) ≤ 30 := by omega
  subst hfin
  go_enter Try.func9, Try.ntmps9
  go_wp2_with (first | (go_at_call 21; refine HL.out.mono ?_; rintro e w2 ⟨A2, c2, rfl, o2, b2⟩; have HO2 := hid o2.cells; have HB2 := hid b2; clear o2 b2) | (go_at_call 20; refine (HSP.out _ _ _ HO2.out).mono ?_; rintro e w3 ⟨rfl, s3, b3⟩; have hrun1 := s3.look true trivial; have hrun2 := s3.look false trivial; rw [← HT.out] at hrun1; rw [← HF.out] at hrun2; have HB3 := hid (Below.next HB2.out b3); clear s3 b3))
  go_ret2
  exact ⟨rfl, HB3.out⟩

/-- The sum over the first k. -/
def sgK (M : List (List Int)) : Nat → Int
  | 0 => 0
  | k + 1 => sgK M k + sg1V (M.getD k [])
theorem sgK_all : ∀ (M : List (List Int)), sgK M M.length = sgS M := by
  intro M
  have aux : ∀ k, k ≤ M.length → sgK M k = ((M.take k).map sg1V).sum := by
    intro k
    induction k with
    | zero => intro _; rfl
    | succ k ih =>
      intro h
      rw [sgK, ih (by omega), List.take_succ_eq_append_getElem (by omega), List.map_append, List.sum_append]
      have e : M.getD k [] = M[k] := by rw [List.getD_eq_getElem?_getD, List.getElem?_eq_getElem (by omega)]; rfl
      rw [e]; simp
  rw [aux _ (Nat.le_refl _), List.take_length]; rfl
theorem sgK_bd (M : List (List Int)) : ∀ k : Nat, -(k : Int) ≤ sgK M k ∧ sgK M k ≤ k
  | 0 => by simp [sgK]
  | k + 1 => by
    have := sgK_bd M k
    have h : -1 ≤ sg1V (M.getD k []) ∧ sg1V (M.getD k []) ≤ 1 := by unfold sg1V; split <;> (try split) <;> omega
    rw [sgK]; omega

set_option maxRecDepth 100000 in
set_option maxHeartbeats 2000000 in
theorem spec_SignedNumber (n : Int) (w : World) (_ : I64 n) :
    Calls Try.prog 10 #[.int .i64 n] w fun e w' => e = .returned (.tuple #[.int .i64 (sgdF n), .bool (sgdB n)]) ∧ Below w.heap.size w w' := by
  cases h : sgdB n
  · rw [sgdF_f h]
    have h' : ¬ (0 ≤ n ∧ n ≤ 30) := fun hh => by have := inB_iff.2 hh; unfold sgdB at h; rw [h] at this; cases this
    have hs : spB n = false := by
      cases hq : spB n
      · rfl
      · have := inB_iff.1 hq; omega
    have HS := hid hs
    have hn0 : ¬ n = 0 := by omega
    clear h h' hs
    go_enter Try.func10, Try.ntmps10
    go_wp2_with (go_at_call 23; refine (rkSpread_b _ _ _ HS.out).mono ?_; rintro e w' ⟨rfl, rfl⟩)
    go_ret2
    exact ⟨rfl, Below.refl _ _⟩
  obtain ⟨m, rfl, hm⟩ := sgdB_nat h
  rw [sgdF_t h]
  have HL := hid (allPrt m w hm)
  have hll := prt_len hm
  have HR := hid (fun k (hk : k < (prt m).length) => (prt_row hm hk).1)
  have hfin := sgK_all (prt m)
  obtain ⟨S, hS⟩ : ∃ S, S = sgS (prt m) := ⟨_, rfl⟩
  rw [← hS] at hfin ⊢
  obtain ⟨R, hR⟩ : ∃ R, R = prt m := ⟨_, rfl⟩
  rw [← hR] at HL hll HR hfin
  have HFIN := hid hfin
  clear hS hR hfin h
  rcases Nat.eq_zero_or_pos m with hz | hz
  · subst hz
    go_enter Try.func10, Try.ntmps10
    go_wp2_with (first | (go_at_call 24; refine HL.out.mono ?_; rintro e w2 ⟨A2, c2, rfl, o2, b2⟩; have HO2 := hid o2.cells; have HB2 := hid b2; clear o2 b2))
    go_loopw [4, 18] (fun v i wr => ∃ k : Nat, k ≤ R.length ∧ i = .int .i64 k ∧ v = .int .i64 (sgK R k) ∧ ∃ n, wr = w2.drewN n) (fun _ i _ => R.length - (intOf i).toNat)
    case atStart => exact ⟨0, Nat.zero_le _, rfl, rfl, 0, rfl⟩
    case round =>
      obtain ⟨k, hk, rfl, rfl, q, rfl⟩ := hrel
      by_cases hlt : k < R.length
      · obtain ⟨P, C, h1, h2⟩ := HO2.out
        obtain ⟨b, o, rfl, hcc⟩ := h1 (by omega)
        have hck := hcc k hlt
        have G := HR.out k hlt
        have hc0 := h2 k hlt
        have hss : sgK R (k + 1) = sgK R k + sg1V (R.getD k []) := rfl
        have hsb := sgK_bd R k
        have HC := hid (fun wx (h : Cells wx (P k) (R.getD k [])) => rkDifferent_all (P k) _ (C k) wx G h)
        have hln := G.len
        have HSV := hid (show sg1V (R.getD k []) = if dcr (R.getD k []) then (if (R.getD k []).length % 2 = 0 then 1 else -1) else 0 from rfl)
        have HCE := hid hc0
        obtain ⟨p, hpe⟩ : ∃ p, p = R.getD k [] := ⟨_, rfl⟩
        rw [← hpe] at hck hss HC hln HSV HCE
        obtain ⟨s, hs⟩ : ∃ s, s = sgK R k := ⟨_, rfl⟩
        rw [← hs] at hss hsb ⊢
        have HSS := hid hss
        clear hcc h1 h2 hpe hs hc0 G hss
        cases hd : dcr p
        · have hv := HSV.out
          rw [hd, if_neg (by simp)] at hv
          rw [hd] at HC
          have HE := hid (HSS.out.trans (by rw [hv]; omega : s + sg1V p = s))
          clear hv hd
          go_wp2_with (go_at_call 16; refine (HC.out _ (by exact HCE.out)).mono ?_; rintro e w' ⟨rfl, z, rfl⟩)
          go_roundw
          case rel => exact ⟨k + 1, by omega, by go_num, by rw [HE.out], _, rfl⟩
          case measure => simp [intOf]; omega
        · have hv := HSV.out
          rw [hd, if_pos rfl] at hv
          rw [hd] at HC
          by_cases h2 : p.length % 2 = 0
          · have ht : Int.tmod (p.length : Int) 2 = 0 := by rw [Int.tmod_eq_emod_of_nonneg (by omega)]; omega
            rw [if_pos h2] at hv
            have HE := hid (HSS.out.trans (by rw [hv] : s + sg1V p = s + 1))
            clear hv hd h2
            go_wp2_with (go_at_call 16; refine (HC.out _ (by exact HCE.out)).mono ?_; rintro e w' ⟨rfl, z, rfl⟩)
            go_roundw
            case rel => exact ⟨k + 1, by omega, by go_num, by rw [HE.out], _, rfl⟩
            case measure => simp [intOf]; omega
          · have ht : Int.tmod (p.length : Int) 2 = 1 := by rw [Int.tmod_eq_emod_of_nonneg (by omega)]; omega
            rw [if_neg h2] at hv
            have HE := hid (HSS.out.trans (by rw [hv] : s + sg1V p = s + -1))
            clear hv hd h2
            go_wp2_with (go_at_call 16; refine (HC.out _ (by exact HCE.out)).mono ?_; rintro e w' ⟨rfl, z, rfl⟩)
            go_roundw
            case rel => exact ⟨k + 1, by omega, by go_num, by rw [HE.out], _, rfl⟩
            case measure => simp [intOf]; omega
      · have hkl : k = R.length := by omega
        subst hkl
        rw [HFIN.out]
        go_wp2_with fail
        go_ret2
        exact ⟨rfl, below_drewN HB2.out _⟩
  · have HSB := hid (show spB (m : Int) = true from inB_iff.2 (by omega))
    have hm0 : ¬ (m : Int) = 0 := by omega
    go_enter Try.func10, Try.ntmps10
    go_wp2_with (first | (go_at_call 23; refine (rkSpread_b _ _ _ HSB.out).mono ?_; rintro e w' ⟨rfl, rfl⟩) | (go_at_call 24; refine HL.out.mono ?_; rintro e w2 ⟨A2, c2, rfl, o2, b2⟩; have HO2 := hid o2.cells; have HB2 := hid b2; clear o2 b2))
    go_loopw [4, 18] (fun v i wr => ∃ k : Nat, k ≤ R.length ∧ i = .int .i64 k ∧ v = .int .i64 (sgK R k) ∧ ∃ n, wr = w2.drewN n) (fun _ i _ => R.length - (intOf i).toNat)
    case atStart => exact ⟨0, Nat.zero_le _, rfl, rfl, 0, rfl⟩
    case round =>
      obtain ⟨k, hk, rfl, rfl, q, rfl⟩ := hrel
      by_cases hlt : k < R.length
      · obtain ⟨P, C, h1, h2⟩ := HO2.out
        obtain ⟨b, o, rfl, hcc⟩ := h1 (by omega)
        have hck := hcc k hlt
        have G := HR.out k hlt
        have hc0 := h2 k hlt
        have hss : sgK R (k + 1) = sgK R k + sg1V (R.getD k []) := rfl
        have hsb := sgK_bd R k
        have HC := hid (fun wx (h : Cells wx (P k) (R.getD k [])) => rkDifferent_all (P k) _ (C k) wx G h)
        have hln := G.len
        have HSV := hid (show sg1V (R.getD k []) = if dcr (R.getD k []) then (if (R.getD k []).length % 2 = 0 then 1 else -1) else 0 from rfl)
        have HCE := hid hc0
        obtain ⟨p, hpe⟩ : ∃ p, p = R.getD k [] := ⟨_, rfl⟩
        rw [← hpe] at hck hss HC hln HSV HCE
        obtain ⟨s, hs⟩ : ∃ s, s = sgK R k := ⟨_, rfl⟩
        rw [← hs] at hss hsb ⊢
        have HSS := hid hss
        clear hcc h1 h2 hpe hs hc0 G hss
        cases hd : dcr p
        · have hv := HSV.out
          rw [hd, if_neg (by simp)] at hv
          rw [hd] at HC
          have HE := hid (HSS.out.trans (by rw [hv]; omega : s + sg1V p = s))
          clear hv hd
          go_wp2_with (go_at_call 16; refine (HC.out _ (by exact HCE.out)).mono ?_; rintro e w' ⟨rfl, z, rfl⟩)
          go_roundw
          case rel => exact ⟨k + 1, by omega, by go_num, by rw [HE.out], _, rfl⟩
          case measure => simp [intOf]; omega
        · have hv := HSV.out
          rw [hd, if_pos rfl] at hv
          rw [hd] at HC
          by_cases h2 : p.length % 2 = 0
          · have ht : Int.tmod (p.length : Int) 2 = 0 := by rw [Int.tmod_eq_emod_of_nonneg (by omega)]; omega
            rw [if_pos h2] at hv
            have HE := hid (HSS.out.trans (by rw [hv] : s + sg1V p = s + 1))
            clear hv hd h2
            go_wp2_with (go_at_call 16; refine (HC.out _ (by exact HCE.out)).mono ?_; rintro e w' ⟨rfl, z, rfl⟩)
            go_roundw
            case rel => exact ⟨k + 1, by omega, by go_num, by rw [HE.out], _, rfl⟩
            case measure => simp [intOf]; omega
          · have ht : Int.tmod (p.length : Int) 2 = 1 := by rw [Int.tmod_eq_emod_of_nonneg (by omega)]; omega
            rw [if_neg h2] at hv
            have HE := hid (HSS.out.trans (by rw [hv] : s + sg1V p = s + -1))
            clear hv hd h2
            go_wp2_with (go_at_call 16; refine (HC.out _ (by exact HCE.out)).mono ?_; rintro e w' ⟨rfl, z, rfl⟩)
            go_roundw
            case rel => exact ⟨k + 1, by omega, by go_num, by rw [HE.out], _, rfl⟩
            case measure => simp [intOf]; omega
      · have hkl : k = R.length := by omega
        subst hkl
        rw [HFIN.out]
        go_wp2_with fail
        go_ret2
        exact ⟨rfl, below_drewN HB2.out _⟩
end Go.Proofs.Ytphfmlfojebjkaa
