/-
  Several texts in one.
-/
import Derived.Test.YtijfefahogcfmaaGreatR06
import Derived.Test.YtijfefahogcfmaaGreatCB
import Derived.Test.YtijfefahogcfmaaGreatR09
import Derived.Test.YtijfefahogcfmaaGreatCC
/-
  Contracts: what tells whether a list is levels (both sides), the size of their core, turned levels.
-/
namespace Go.Proofs.YtijfefahogcfmaaGreat
open Go.RowKit

set_option maxHeartbeats 400000 in
theorem ptSum_abs (A : Option Addr) (xs : List Int) (c : Nat) (w : World) (hl : xs.length ≤ 100) (hb : ∀ j, j < xs.length → -1000 ≤ xs.getD j 0 ∧ xs.getD j 0 ≤ 1000) (hc : Cells w A xs) :
    Calls Tryz.prog 48 #[.slice A xs.length c] w fun e w' => e = .returned (.int .i64 xs.sum) ∧ w = w' := by
  have HB := hid hb; clear hb
  go_enter Tryz.func48, Tryz.ntmps48
  go_wp2
  go_loop [3, 8] (fun s i => ∃ k : Nat, k ≤ xs.length ∧ i = .int .i64 k ∧ s = .int .i64 (xs.take k).sum) (fun _ i => xs.length - (intOf i).toNat)
  case atStart => exact ⟨0, Nat.zero_le _, rfl, by simp⟩
  case round =>
    obtain ⟨k, hk, rfl, rfl⟩ := hrel
    have hsb := sum_take_abs xs 1000 HB.out (by omega) k
    obtain ⟨s, hs⟩ : ∃ s, s = (xs.take k).sum := ⟨_, rfl⟩
    rw [← hs] at hsb ⊢
    have HS := hid hs; clear hs
    by_cases hlt : k < xs.length
    · obtain ⟨b, o, rfl, hcc⟩ := hc (by omega)
      have hck := hcc k hlt
      have hxb := HB.out k hlt
      clear hcc hc
      obtain ⟨x, hx⟩ : ∃ x, x = xs.getD k 0 := ⟨_, rfl⟩
      rw [← hx] at hck hxb
      have HX := hid hx; clear hx
      go_wp2
      go_round
      case rel => exact ⟨k + 1, by omega, by go_num, by rw [sum_take_succ xs k hlt, ← HS.out, ← HX.out]⟩
      case measure => simp [intOf]; omega
    · go_wp2
      go_ret
      exact ⟨ret_int (by rw [HS.out, List.take_of_length_le (by omega)]), rfl⟩

end Go.Proofs.YtijfefahogcfmaaGreat
/-
  Contracts: chIsCore and chCoreOf of the model.
-/
namespace Go.Proofs.YtijfefahogcfmaaGreat
open Go.RowKit

theorem hitRow_all {row : List Int} {t : Int} {r c : Nat} (h : row.getD c 0 = t) : ∀ m, c < m → (r, c) ∈ hitRow row t r m
  | m + 1, hm => by
    rw [hitRow]
    by_cases e : c = m
    · subst e; rw [if_pos h]; simp
    · have := hitRow_all (r := r) h m (by omega)
      split
      · exact List.mem_append_left _ this
      · exact this
theorem hits_all {R : List (List Int)} {t : Int} {r c : Nat} (hc : c < (R.getD r []).length) (h : (R.getD r []).getD c 0 = t) : ∀ k, r < k → (r, c) ∈ hits R t k
  | k + 1, hk => by
    rw [hits, List.mem_append]
    by_cases e : r = k
    · subst e; exact .inr (hitRow_all h _ hc)
    · exact .inl (hits_all hc h k (by omega))
theorem hook_at {xs : List Int} {r c : Nat} (hr : r < xs.length) (hc : c < ((hooksR xs).getD r []).length) : ((hooksR xs).getD r []).getD c 0 = hookN xs r c ∧ (c : Int) < xs.getD r 0 := by
  unfold hooksR at hc ⊢
  rw [rowsF_get _ _ _ _ hr] at hc ⊢
  rw [rowF_len] at hc
  exact ⟨rowF_get _ _ _ _ hc, by omega⟩
theorem hook_in {xs : List Int} {r c : Nat} (hr : r < xs.length) (hc : (c : Int) < xs.getD r 0) : c < ((hooksR xs).getD r []).length := by
  unfold hooksR
  rw [rowsF_get _ _ _ _ hr, rowF_len]; omega
theorem core_no {xs : List Int} {t : Int} (hg : crB xs t = true) {r c : Nat} (hr : r < xs.length) (hc : c < ((hooksR xs).getD r []).length) (h : Int.tmod (((hooksR xs).getD r []).getD c 0) t = 0) : isCoreF xs t = false := by
  obtain ⟨h1, h2⟩ := crB_good hg
  have G := (good_iff xs).1 h1
  have ht := inB_iff.1 h2
  obtain ⟨e, hlt⟩ := hook_at hr hc
  rw [e] at h
  rw [isCoreF_t hg]
  refine decide_eq_false fun hl => ?_
  rw [show rimCellsF xs t = pairs (rimCs xs t) by unfold rimCellsF; rw [if_pos hg], pairs_len] at hl
  have hnil : rimCs xs t = [] := List.eq_nil_of_length_eq_zero hl
  have hd : Dn xs t := no_hook_dn G (by omega) fun r' c' hr' hc' he => by
    have hin := hook_in hr' hc'
    have : (r', c') ∈ rimCs xs t := by
      unfold rimCs
      exact hits_all hin (by rw [(hook_at hr' hin).1]; exact he) _ hr'
    rw [hnil] at this; cases this
  exact dn_no_div G (by omega) hd r c hr hlt (Int.emod_eq_zero_of_dvd (Int.dvd_of_tmod_eq_zero h))
theorem core_yes {xs : List Int} {t : Int} (hg : crB xs t = true) (h : ∀ r, r < xs.length → ∀ c, c < ((hooksR xs).getD r []).length → ¬ Int.tmod (((hooksR xs).getD r []).getD c 0) t = 0) : isCoreF xs t = true := by
  rw [isCoreF_t hg]
  refine decide_eq_true ?_
  rw [show rimCellsF xs t = pairs (rimCs xs t) by unfold rimCellsF; rw [if_pos hg], pairs_len]
  rcases hh : rimCs xs t with _ | ⟨q, l⟩
  · rfl
  · exfalso
    have hm : q ∈ rimCs xs t := by rw [hh]; exact List.mem_cons_self ..
    obtain ⟨a, b, e⟩ := hits_mem hm
    exact h q.1 a q.2 b (by rw [e, Int.tmod_self])

set_option maxRecDepth 100000 in
set_option maxHeartbeats 2000000 in
theorem chIsCore_any (A : Option Addr) (c : Nat) (xs : List Int) (t : Int) (w : World) (hg : crB xs t = true) (hc : Cells w A xs) :
    Calls Tryz.prog 41 #[.slice A xs.length c, .int .i64 t] w fun e w' => e = .returned (.bool (isCoreF xs t)) ∧ Below w.heap.size w w' := by
  have G := (good_iff xs).1 (crB_good hg).1
  have ht := inB_iff.1 (crB_good hg).2
  have HNO := hid fun r c => core_no (r := r) (c := c) hg
  have HYES := hid (core_yes hg)
  have hptH := fun W h => ptHooks_any A c xs W G h
  change ∀ W, Cells W A xs → Calls Tryz.prog 65 #[.slice A xs.length c] W fun e w' => ∃ A' c', e = .returned (.slice A' (hooksR xs).length c') ∧ Own2 w' W.heap.size w'.heap.size A' c' (hooksR xs) ∧ Below W.heap.size W w' at hptH
  have HH := hid hptH
  have HT := hid (hooksR_tot G)
  have hRl := hooksR_len xs
  have h30 := G.len
  rw [← hRl] at HNO HYES
  obtain ⟨R, hR⟩ : ∃ R, R = hooksR xs := ⟨_, rfl⟩
  rw [← hR] at HT hRl HH HNO HYES
  have ht9 : tot R ≤ 900 := HT.out
  have hR30 : R.length ≤ 30 := by omega
  have hne : ¬ t = 0 := by omega
  obtain ⟨b, hb⟩ : ∃ b, b = isCoreF xs t := ⟨_, rfl⟩
  rw [← hb] at HNO HYES ⊢
  clear hR hRl hptH G hg hb
  go_enter Tryz.func41, Tryz.ntmps41
  go_wp2_with (go_at_call 65; refine (HH.out _ (by exact hc)).mono ?_; rintro e wt ⟨At, ct, rfl, ot, bt⟩)
  obtain ⟨Pt, Ct, hA1, hA2⟩ := ot.cells
  clear ot
  go_loop [12] (fun i => ∃ k : Nat, k ≤ R.length ∧ i = .int .i64 k ∧ Hid (∀ r, r < k → ∀ c, c < (R.getD r []).length → ¬ Int.tmod ((R.getD r []).getD c 0) t = 0)) (fun i => R.length - (intOf i).toNat)
  case atStart => exact ⟨0, Nat.zero_le _, rfl, hid fun r hr => absurd hr (Nat.not_lt_zero _)⟩
  case round =>
    obtain ⟨k, hk, rfl, HP⟩ := hrel
    by_cases hlt : k < R.length
    · obtain ⟨b0, o, rfl, hcc⟩ := hA1 (by omega)
      have hck := hcc k hlt
      have hr0 := hA2 k hlt
      have hrl : (R.getD k []).length ≤ 900 := by have := tot_take_succ R k hlt; have := tot_take_le R (k + 1); omega
      have HNK := hid (HNO.out k)
      have HPK := hid (fun (h : ∀ c, c < (R.getD k []).length → ¬ Int.tmod ((R.getD k []).getD c 0) t = 0) => (show ∀ r, r < k + 1 → ∀ c, c < (R.getD r []).length → ¬ Int.tmod ((R.getD r []).getD c 0) t = 0 from fun r hr c hc => by
        by_cases e : r = k
        · subst e; exact h c hc
        · exact HP.out r (by omega) c hc))
      obtain ⟨r, hre⟩ : ∃ r, r = R.getD k [] := ⟨_, rfl⟩
      obtain ⟨Ar, hAr⟩ : ∃ Ar, Ar = Pt k := ⟨_, rfl⟩
      obtain ⟨Cr, hCr⟩ : ∃ Cr, Cr = Ct k := ⟨_, rfl⟩
      rw [← hre] at hck hr0 hrl HNK HPK
      rw [← hAr, ← hCr] at hck
      rw [← hAr] at hr0
      have HR0 := hid hr0
      clear hcc hre hr0 hAr hCr
      go_wp2_with fail
      go_loop [18] (fun j => ∃ m : Nat, m ≤ r.length ∧ j = .int .i64 m ∧ Hid (∀ c, c < m → ¬ Int.tmod (r.getD c 0) t = 0)) (fun j => r.length - (intOf j).toNat)
      case atStart => exact ⟨0, Nat.zero_le _, rfl, hid fun r hr => absurd hr (Nat.not_lt_zero _)⟩
      case round =>
        obtain ⟨m, hm, rfl, HQ⟩ := hrel
        by_cases hml : m < r.length
        · obtain ⟨b3, o3, rfl, hcr⟩ := HR0.out (by omega)
          have hcm := hcr m hml
          have HNM := hid (HNK.out m hlt hml)
          have HQM := hid (fun (h : ¬ Int.tmod (r.getD m 0) t = 0) => (show ∀ c, c < m + 1 → ¬ Int.tmod (r.getD c 0) t = 0 from fun c hc => by
            by_cases e : c = m
            · subst e; exact h
            · exact HQ.out c (by omega)))
          obtain ⟨x, hx⟩ : ∃ x, x = r.getD m 0 := ⟨_, rfl⟩
          rw [← hx] at hcm HNM HQM
          clear hcr hx
          by_cases hmm : Int.tmod x t = 0
          · have HB := hid (HNM.out hmm)
            go_wp2_with fail
            go_ret
            exact ⟨ret_bool HB.out.symm, bt⟩
          · have HS := hid (HQM.out hmm)
            go_wp2_with fail
            go_round
            case rel => exact ⟨m + 1, by omega, by go_num, HS⟩
            case measure => simp [intOf]; omega
        · have hmr : m = r.length := by omega
          subst hmr
          have HS := hid (HPK.out HQ.out)
          go_wp2_with fail
          go_round
          case rel => exact ⟨k + 1, by omega, by go_num, HS⟩
          case measure => simp [intOf]; omega
    · have hkl : k = R.length := by omega
      subst hkl
      have HB := hid (HYES.out HP.out)
      go_wp2_with fail
      go_ret
      exact ⟨ret_bool HB.out.symm, bt⟩
end Go.Proofs.YtijfefahogcfmaaGreat
