/-
  Contracts: boIs and IsBothCore of the model.
-/
import Derived.Test.YtnpkfndopicdiaaBoth
namespace Go.Proofs.Ytnpkfndopicdiaa
open Go.RowKit

set_option maxRecDepth 100000 in
set_option maxHeartbeats 2000000 in
theorem chIsCore_dn (A : Option Addr) (c : Nat) (xs : List Int) (t : Int) (w : World) (G : Good xs) (ht : 2 ≤ t ∧ t ≤ 7) (hc : Cells w A xs) :
    Calls Try.prog 156 #[.slice A xs.length c, .int .i64 t] w fun e w' => e = .returned (.bool (dnB xs t)) ∧ Below w.heap.size w w' := by
  have HNO : Hid (∀ r c, r < xs.length → c < ((hooksR xs).getD r []).length → Int.tmod (((hooksR xs).getD r []).getD c 0) t = 0 → dnB xs t = false) := fun r c hr hc h => by
    cases e : dnB xs t
    · rfl
    · exact absurd h (hook_dvd_no G (by omega) e hr hc)
  have HYES := hid (hook_dvd_yes G (by omega : 0 < t))
  have hptH := fun W h => ptHooks_any A c xs W G h
  change ∀ W, Cells W A xs → Calls Try.prog 203 #[.slice A xs.length c] W fun e w' => ∃ A' c', e = .returned (.slice A' (hooksR xs).length c') ∧ Own2 w' W.heap.size w'.heap.size A' c' (hooksR xs) ∧ Below W.heap.size W w' at hptH
  have HH := hid hptH
  have HT := hid (hooksR_tot G)
  have hRl := hooksR_len xs
  have h30 := G.len
  rw [← hRl] at HNO HYES
  obtain ⟨R, hR⟩ : ∃ R, R = hooksR xs := ⟨_, rfl⟩
  rw [← hR] at HT hRl HH HNO HYES
  have ht9 : tot R ≤ 900 := HT.out
  have hR30 : R.length ≤ 30 := by omega
  have hne : ¬ t = 0 := by omega
  obtain ⟨b, hb⟩ : ∃ b, b = dnB xs t := ⟨_, rfl⟩
  rw [← hb] at HNO HYES ⊢
  clear hR hRl hptH G hb
  go_enter Try.func156, Try.ntmps156
  go_wp2_with (go_at_call 203; refine (HH.out _ (by exact hc)).mono ?_; rintro e wt ⟨At, ct, rfl, ot, bt⟩)
  obtain ⟨Pt, Ct, hA1, hA2⟩ := ot.cells
  clear ot
  go_loop [12] (fun i => ∃ k : Nat, k ≤ R.length ∧ i = .int .i64 k ∧ Hid (∀ r, r < k → ∀ c, c < (R.getD r []).length → ¬ Int.tmod ((R.getD r []).getD c 0) t = 0)) (fun i => R.length - (intOf i).toNat)
  case atStart => exact ⟨0, Nat.zero_le _, rfl, hid fun r hr => absurd hr (Nat.not_lt_zero _)⟩
  case round =>
    obtain ⟨k, hk, rfl, HP⟩ := hrel
    by_cases hlt : k < R.length
    · obtain ⟨b0, o, rfl, hcc⟩ := hA1 (by omega)
      have hck := hcc k hlt
      have hr0 := hA2 k hlt
      have hrl : (R.getD k []).length ≤ 900 := by have := tot_take_succ R k hlt; have := tot_take_le R (k + 1); omega
      have HNK := hid (HNO.out k)
      have HPK := hid (fun (h : ∀ c, c < (R.getD k []).length → ¬ Int.tmod ((R.getD k []).getD c 0) t = 0) => (show ∀ r, r < k + 1 → ∀ c, c < (R.getD r []).length → ¬ Int.tmod ((R.getD r []).getD c 0) t = 0 from fun r hr c hc => by
        by_cases e : r = k
        · subst e; exact h c hc
        · exact HP.out r (by omega) c hc))
      obtain ⟨r, hre⟩ : ∃ r, r = R.getD k [] := ⟨_, rfl⟩
      obtain ⟨Ar, hAr⟩ : ∃ Ar, Ar = Pt k := ⟨_, rfl⟩
      obtain ⟨Cr, hCr⟩ : ∃ Cr, Cr = Ct k := ⟨_, rfl⟩
      rw [← hre] at hck hr0 hrl HNK HPK
      rw [← hAr, ← hCr] at hck
      rw [← hAr] at hr0
      have HR0 := hid hr0
      clear hcc hre hr0 hAr hCr
      go_wp2_with fail
      go_loop [18] (fun j => ∃ m : Nat, m ≤ r.length ∧ j = .int .i64 m ∧ Hid (∀ c, c < m → ¬ Int.tmod (r.getD c 0) t = 0)) (fun j => r.length - (intOf j).toNat)
      case atStart => exact ⟨0, Nat.zero_le _, rfl, hid fun r hr => absurd hr (Nat.not_lt_zero _)⟩
      case round =>
        obtain ⟨m, hm, rfl, HQ⟩ := hrel
        by_cases hml : m < r.length
        · obtain ⟨b3, o3, rfl, hcr⟩ := HR0.out (by omega)
          have hcm := hcr m hml
          have HNM := hid (HNK.out m hlt hml)
          have HQM := hid (fun (h : ¬ Int.tmod (r.getD m 0) t = 0) => (show ∀ c, c < m + 1 → ¬ Int.tmod (r.getD c 0) t = 0 from fun c hc => by
            by_cases e : c = m
            · subst e; exact h
            · exact HQ.out c (by omega)))
          obtain ⟨x, hx⟩ : ∃ x, x = r.getD m 0 := ⟨_, rfl⟩
          rw [← hx] at hcm HNM HQM
          clear hcr hx
          by_cases hmm : Int.tmod x t = 0
          · have HB := hid (HNM.out hmm)
            go_wp2_with fail
            go_ret
            exact ⟨ret_bool HB.out.symm, bt⟩
          · have HS := hid (HQM.out hmm)
            go_wp2_with fail
            go_round
            case rel => exact ⟨m + 1, by omega, by go_num, HS⟩
            case measure => simp [intOf]; omega
        · have hmr : m = r.length := by omega
          subst hmr
          have HS := hid (HPK.out HQ.out)
          go_wp2_with fail
          go_round
          case rel => exact ⟨k + 1, by omega, by go_num, HS⟩
          case measure => simp [intOf]; omega
    · have hkl : k = R.length := by omega
      subst hkl
      have HB := hid (HYES.out HP.out)
      go_wp2_with fail
      go_ret
      exact ⟨ret_bool HB.out.symm, bt⟩

set_option maxRecDepth 100000 in
set_option maxHeartbeats 2000000 in
theorem boIs_any (A : Option Addr) (c : Nat) (xs : List Int) (a b : Int) (w : World) (hl : xs.length ≤ 1048576) (hc : Cells w A xs) (hs : sz a b = true) :
    Calls Try.prog 91 #[.slice A xs.length c, .int .i64 a, .int .i64 b] w fun e w' => e = .returned (.bool (ibB xs a b)) ∧ Below w.heap.size w w' := by
  obtain ⟨ha, hb, -⟩ := sz_iff.1 hs
  cases hg : good xs
  · rw [show ibB xs a b = false by simp [ibB, hg]]
    have HG := hid hg
    clear hg hs
    go_enter Try.func91, Try.ntmps91
    go_wp2_with (go_at_call 84; refine (ptGood_b _ _ _ _ hl hc _ HG.out).mono ?_; rintro e w' ⟨rfl, n, rfl⟩)
    go_ret
    exact ⟨rfl, below_drew' _ _⟩
  have G := hid ((good_iff xs).1 hg)
  have HA := hid fun W (h : Cells W A xs) => chIsCore_dn A c xs a W G.out ha h
  have HB := hid fun W (h : Cells W A xs) => chIsCore_dn A c xs b W G.out hb h
  rw [show ibB xs a b = (dnB xs a && dnB xs b) by simp [ibB, hg, hs]]
  have HG := hid hg
  clear hg hs
  cases hda : dnB xs a
  · rw [Bool.false_and]
    rw [hda] at HA
    clear hda
    go_enter Try.func91, Try.ntmps91
    go_wp2_with fail
    refine (ptGood_b _ _ _ _ hl hc _ HG.out).mono ?_
    rintro e w' ⟨rfl, n, rfl⟩
    go_wp2_with fail
    refine (HA.out _ (hc.below (below_drew' w n))).mono ?_
    rintro e w2 ⟨rfl, b2⟩
    go_wp2_with fail
    go_ret
    exact ⟨rfl, Below.next (below_drew' w n) b2⟩
  · rw [Bool.true_and]
    rw [hda] at HA
    clear hda
    obtain ⟨d, hd⟩ : ∃ d, d = dnB xs b := ⟨_, rfl⟩
    rw [← hd] at HB ⊢
    clear hd
    go_enter Try.func91, Try.ntmps91
    go_wp2_with fail
    refine (ptGood_b _ _ _ _ hl hc _ HG.out).mono ?_
    rintro e w' ⟨rfl, n, rfl⟩
    go_wp2_with fail
    refine (HA.out _ (hc.below (below_drew' w n))).mono ?_
    rintro e w2 ⟨rfl, b2⟩
    have B2 := Below.next (below_drew' w n) b2
    go_wp2_with fail
    refine (HB.out _ (hc.below B2)).mono ?_
    rintro e w3 ⟨rfl, b3⟩
    go_wp2_with fail
    go_ret
    exact ⟨rfl, Below.next B2 b3⟩
set_option maxRecDepth 100000 in
set_option maxHeartbeats 2000000 in
theorem spec_IsBothCore (A : Option Addr) (c : Nat) (xs : List Int) (a b : Int) (w : World) (hl : xs.length ≤ 1048576) (hc : Cells w A xs) (_ : I64 a) (_ : I64 b) :
    Calls Try.prog 37 #[.slice A xs.length c, .int .i64 a, .int .i64 b] w fun e w' => e = .returned (.tuple #[.bool (ibB xs a b), .bool (ibOk xs a b)]) ∧ Below w.heap.size w w' := by
  cases hg : good xs
  · rw [show ibB xs a b = false by simp [ibB, hg], show ibOk xs a b = false by simp [ibOk, hg]]
    have HG := hid hg
    clear hg
    go_enter Try.func37, Try.ntmps37
    go_wp2_with (go_at_call 84; refine (ptGood_b _ _ _ _ hl hc _ HG.out).mono ?_; rintro e w' ⟨rfl, n, rfl⟩)
    go_ret2
    exact ⟨rfl, below_drew' _ _⟩
  cases ht : sz a b
  · rw [show ibB xs a b = false by simp [ibB, ht], show ibOk xs a b = false by simp [ibOk, ht]]
    have HG := hid hg
    have HT := hid ht
    clear hg ht
    go_enter Try.func37, Try.ntmps37
    go_wp2_with (first | (go_at_call 84; refine (ptGood_b _ _ _ _ hl hc _ HG.out).mono ?_; rintro e w' ⟨rfl, n, rfl⟩) | (go_at_call 78; refine (boSizes_b _ _ _ _ HT.out).mono ?_; rintro e w1 ⟨rfl, rfl⟩))
    go_ret2
    exact ⟨rfl, below_drew' _ _⟩
  · rw [show ibOk xs a b = true by simp [ibOk, ht, hg]]
    have HG := hid hg
    have HT := hid ht
    have HI := hid fun W (h : Cells W A xs) => boIs_any A c xs a b W hl h ht
    obtain ⟨d, hd⟩ : ∃ d, d = ibB xs a b := ⟨_, rfl⟩
    rw [← hd] at HI ⊢
    clear hg ht hd
    go_enter Try.func37, Try.ntmps37
    go_wp2_with (first | (go_at_call 84; refine (ptGood_b _ _ _ _ hl hc _ HG.out).mono ?_; rintro e w' ⟨rfl, n, rfl⟩) | (go_at_call 78; refine (boSizes_b _ _ _ _ HT.out).mono ?_; rintro e w1 ⟨rfl, rfl⟩) | (go_at_call 91; refine (HI.out _ (hc.below (below_drew' w n))).mono ?_; rintro e w2 ⟨rfl, b2⟩))
    go_ret2
    exact ⟨rfl, Below.next (below_drew' w n) b2⟩
end Go.Proofs.Ytnpkfndopicdiaa
