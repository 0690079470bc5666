/-
  Contracts: chIsCore and chCoreOf of the model.
-/
import Derived.Test.YtnjhjdidohdkmaaHkMath
import Derived.Test.YtnjhjdidohdkmaaCC
import Derived.Test.YtnjhjdidohdkmaaLev
namespace Go.Proofs.Ytnjhjdidohdkmaa
open Go.RowKit

theorem hitRow_all {row : List Int} {t : Int} {r c : Nat} (h : row.getD c 0 = t) : ∀ m, c < m → (r, c) ∈ hitRow row t r m
  | m + 1, hm => by
    rw [hitRow]
    by_cases e : c = m
    · subst e; rw [if_pos h]; simp
    · have := hitRow_all (r := r) h m (by omega)
      split
      · exact List.mem_append_left _ this
      · exact this
theorem hits_all {R : List (List Int)} {t : Int} {r c : Nat} (hc : c < (R.getD r []).length) (h : (R.getD r []).getD c 0 = t) : ∀ k, r < k → (r, c) ∈ hits R t k
  | k + 1, hk => by
    rw [hits, List.mem_append]
    by_cases e : r = k
    · subst e; exact .inr (hitRow_all h _ hc)
    · exact .inl (hits_all hc h k (by omega))
theorem hook_at {xs : List Int} {r c : Nat} (hr : r < xs.length) (hc : c < ((hooksR xs).getD r []).length) : ((hooksR xs).getD r []).getD c 0 = hookN xs r c ∧ (c : Int) < xs.getD r 0 := by
  unfold hooksR at hc ⊢
  rw [rowsF_get _ _ _ _ hr] at hc ⊢
  rw [rowF_len] at hc
  exact ⟨rowF_get _ _ _ _ hc, by omega⟩
theorem hook_in {xs : List Int} {r c : Nat} (hr : r < xs.length) (hc : (c : Int) < xs.getD r 0) : c < ((hooksR xs).getD r []).length := by
  unfold hooksR
  rw [rowsF_get _ _ _ _ hr, rowF_len]; omega
theorem core_no {xs : List Int} {t : Int} (hg : crB xs t = true) {r c : Nat} (hr : r < xs.length) (hc : c < ((hooksR xs).getD r []).length) (h : Int.tmod (((hooksR xs).getD r []).getD c 0) t = 0) : isCoreF xs t = false := by
  obtain ⟨h1, h2⟩ := crB_good hg
  have G := (good_iff xs).1 h1
  have ht := inB_iff.1 h2
  obtain ⟨e, hlt⟩ := hook_at hr hc
  rw [e] at h
  rw [isCoreF_t hg]
  refine decide_eq_false fun hl => ?_
  rw [show rimCellsF xs t = pairs (rimCs xs t) by unfold rimCellsF; rw [if_pos hg], pairs_len] at hl
  have hnil : rimCs xs t = [] := List.eq_nil_of_length_eq_zero hl
  have hd : Dn xs t := no_hook_dn G (by omega) fun r' c' hr' hc' he => by
    have hin := hook_in hr' hc'
    have : (r', c') ∈ rimCs xs t := by
      unfold rimCs
      exact hits_all hin (by rw [(hook_at hr' hin).1]; exact he) _ hr'
    rw [hnil] at this; cases this
  exact dn_no_div G (by omega) hd r c hr hlt (Int.emod_eq_zero_of_dvd (Int.dvd_of_tmod_eq_zero h))
theorem core_yes {xs : List Int} {t : Int} (hg : crB xs t = true) (h : ∀ r, r < xs.length → ∀ c, c < ((hooksR xs).getD r []).length → ¬ Int.tmod (((hooksR xs).getD r []).getD c 0) t = 0) : isCoreF xs t = true := by
  rw [isCoreF_t hg]
  refine decide_eq_true ?_
  rw [show rimCellsF xs t = pairs (rimCs xs t) by unfold rimCellsF; rw [if_pos hg], pairs_len]
  rcases hh : rimCs xs t with _ | ⟨q, l⟩
  · rfl
  · exfalso
    have hm : q ∈ rimCs xs t := by rw [hh]; exact List.mem_cons_self ..
    obtain ⟨a, b, e⟩ := hits_mem hm
    exact h q.1 a q.2 b (by rw [e, Int.tmod_self])

end Go.Proofs.Ytnjhjdidohdkmaa
