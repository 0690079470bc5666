/-
  Several texts in one.
-/
import Derived.Test.YthkkiakfmbnfeaaR15
import Derived.Test.YthkkiakfmbnfeaaCC
import Derived.Test.YthkkiakfmbnfeaaR02
import Derived.Test.YthkkiakfmbnfeaaCA
/-
  Contracts: chIsCore and chCoreOf of the model.
-/
namespace Go.Proofs.Ythkkiakfmbnfeaa
open Go.RowKit

theorem hitRow_all {row : List Int} {t : Int} {r c : Nat} (h : row.getD c 0 = t) : ∀ m, c < m → (r, c) ∈ hitRow row t r m
  | m + 1, hm => by
    rw [hitRow]
    by_cases e : c = m
    · subst e; rw [if_pos h]; simp
    · have := hitRow_all (r := r) h m (by omega)
      split
      · exact List.mem_append_left _ this
      · exact this
theorem hits_all {R : List (List Int)} {t : Int} {r c : Nat} (hc : c < (R.getD r []).length) (h : (R.getD r []).getD c 0 = t) : ∀ k, r < k → (r, c) ∈ hits R t k
  | k + 1, hk => by
    rw [hits, List.mem_append]
    by_cases e : r = k
    · subst e; exact .inr (hitRow_all h _ hc)
    · exact .inl (hits_all hc h k (by omega))
theorem hook_at {xs : List Int} {r c : Nat} (hr : r < xs.length) (hc : c < ((hooksR xs).getD r []).length) : ((hooksR xs).getD r []).getD c 0 = hookN xs r c ∧ (c : Int) < xs.getD r 0 := by
  unfold hooksR at hc ⊢
  rw [rowsF_get _ _ _ _ hr] at hc ⊢
  rw [rowF_len] at hc
  exact ⟨rowF_get _ _ _ _ hc, by omega⟩
theorem hook_in {xs : List Int} {r c : Nat} (hr : r < xs.length) (hc : (c : Int) < xs.getD r 0) : c < ((hooksR xs).getD r []).length := by
  unfold hooksR
  rw [rowsF_get _ _ _ _ hr, rowF_len]; omega
theorem core_no {xs : List Int} {t : Int} (hg : crB xs t = true) {r c : Nat} (hr : r < xs.length) (hc : c < ((hooksR xs).getD r []).length) (h : Int.tmod (((hooksR xs).getD r []).getD c 0) t = 0) : isCoreF xs t = false := by
  obtain ⟨h1, h2⟩ := crB_good hg
  have G := (good_iff xs).1 h1
  have ht := inB_iff.1 h2
  obtain ⟨e, hlt⟩ := hook_at hr hc
  rw [e] at h
  rw [isCoreF_t hg]
  refine decide_eq_false fun hl => ?_
  rw [show rimCellsF xs t = pairs (rimCs xs t) by unfold rimCellsF; rw [if_pos hg], pairs_len] at hl
  have hnil : rimCs xs t = [] := List.eq_nil_of_length_eq_zero hl
  have hd : Dn xs t := no_hook_dn G (by omega) fun r' c' hr' hc' he => by
    have hin := hook_in hr' hc'
    have : (r', c') ∈ rimCs xs t := by
      unfold rimCs
      exact hits_all hin (by rw [(hook_at hr' hin).1]; exact he) _ hr'
    rw [hnil] at this; cases this
  exact dn_no_div G (by omega) hd r c hr hlt (Int.emod_eq_zero_of_dvd (Int.dvd_of_tmod_eq_zero h))
theorem core_yes {xs : List Int} {t : Int} (hg : crB xs t = true) (h : ∀ r, r < xs.length → ∀ c, c < ((hooksR xs).getD r []).length → ¬ Int.tmod (((hooksR xs).getD r []).getD c 0) t = 0) : isCoreF xs t = true := by
  rw [isCoreF_t hg]
  refine decide_eq_true ?_
  rw [show rimCellsF xs t = pairs (rimCs xs t) by unfold rimCellsF; rw [if_pos hg], pairs_len]
  rcases hh : rimCs xs t with _ | ⟨q, l⟩
  · rfl
  · exfalso
    have hm : q ∈ rimCs xs t := by rw [hh]; exact List.mem_cons_self ..
    obtain ⟨a, b, e⟩ := hits_mem hm
    exact h q.1 a q.2 b (by rw [e, Int.tmod_self])

set_option maxRecDepth 100000 in
set_option maxHeartbeats 2000000 in
theorem chIsCore_any (A : Option Addr) (c : Nat) (xs : List Int) (t : Int) (w : World) (hg : crB xs t = true) (hc : Cells w A xs) :
    Calls Try.prog 59 #[.slice A xs.length c, .int .i64 t] w fun e w' => e = .returned (.bool (isCoreF xs t)) ∧ Below w.heap.size w w' := by
  have G := (good_iff xs).1 (crB_good hg).1
  have ht := inB_iff.1 (crB_good hg).2
  have HNO := hid fun r c => core_no (r := r) (c := c) hg
  have HYES := hid (core_yes hg)
  have hptH := fun W h => ptHooks_any A c xs W G h
  change ∀ W, Cells W A xs → Calls Try.prog 74 #[.slice A xs.length c] W fun e w' => ∃ A' c', e = .returned (.slice A' (hooksR xs).length c') ∧ Own2 w' W.heap.size w'.heap.size A' c' (hooksR xs) ∧ Below W.heap.size W w' at hptH
  have HH := hid hptH
  have HT := hid (hooksR_tot G)
  have hRl := hooksR_len xs
  have h30 := G.len
  rw [← hRl] at HNO HYES
  obtain ⟨R, hR⟩ : ∃ R, R = hooksR xs := ⟨_, rfl⟩
  rw [← hR] at HT hRl HH HNO HYES
  have ht9 : tot R ≤ 900 := HT.out
  have hR30 : R.length ≤ 30 := by omega
  have hne : ¬ t = 0 := by omega
  obtain ⟨b, hb⟩ : ∃ b, b = isCoreF xs t := ⟨_, rfl⟩
  rw [← hb] at HNO HYES ⊢
  clear hR hRl hptH G hg hb
  go_enter Try.func59, Try.ntmps59
  go_wp2_with (go_at_call 74; refine (HH.out _ (by exact hc)).mono ?_; rintro e wt ⟨At, ct, rfl, ot, bt⟩)
  obtain ⟨Pt, Ct, hA1, hA2⟩ := ot.cells
  clear ot
  go_loop [12] (fun i => ∃ k : Nat, k ≤ R.length ∧ i = .int .i64 k ∧ Hid (∀ r, r < k → ∀ c, c < (R.getD r []).length → ¬ Int.tmod ((R.getD r []).getD c 0) t = 0)) (fun i => R.length - (intOf i).toNat)
  case atStart => exact ⟨0, Nat.zero_le _, rfl, hid fun r hr => absurd hr (Nat.not_lt_zero _)⟩
  case round =>
    obtain ⟨k, hk, rfl, HP⟩ := hrel
    by_cases hlt : k < R.length
    · obtain ⟨b0, o, rfl, hcc⟩ := hA1 (by omega)
      have hck := hcc k hlt
      have hr0 := hA2 k hlt
      have hrl : (R.getD k []).length ≤ 900 := by have := tot_take_succ R k hlt; have := tot_take_le R (k + 1); omega
      have HNK := hid (HNO.out k)
      have HPK := hid (fun (h : ∀ c, c < (R.getD k []).length → ¬ Int.tmod ((R.getD k []).getD c 0) t = 0) => (show ∀ r, r < k + 1 → ∀ c, c < (R.getD r []).length → ¬ Int.tmod ((R.getD r []).getD c 0) t = 0 from fun r hr c hc => by
        by_cases e : r = k
        · subst e; exact h c hc
        · exact HP.out r (by omega) c hc))
      obtain ⟨r, hre⟩ : ∃ r, r = R.getD k [] := ⟨_, rfl⟩
      obtain ⟨Ar, hAr⟩ : ∃ Ar, Ar = Pt k := ⟨_, rfl⟩
      obtain ⟨Cr, hCr⟩ : ∃ Cr, Cr = Ct k := ⟨_, rfl⟩
      rw [← hre] at hck hr0 hrl HNK HPK
      rw [← hAr, ← hCr] at hck
      rw [← hAr] at hr0
      have HR0 := hid hr0
      clear hcc hre hr0 hAr hCr
      go_wp2_with fail
      go_loop [18] (fun j => ∃ m : Nat, m ≤ r.length ∧ j = .int .i64 m ∧ Hid (∀ c, c < m → ¬ Int.tmod (r.getD c 0) t = 0)) (fun j => r.length - (intOf j).toNat)
      case atStart => exact ⟨0, Nat.zero_le _, rfl, hid fun r hr => absurd hr (Nat.not_lt_zero _)⟩
      case round =>
        obtain ⟨m, hm, rfl, HQ⟩ := hrel
        by_cases hml : m < r.length
        · obtain ⟨b3, o3, rfl, hcr⟩ := HR0.out (by omega)
          have hcm := hcr m hml
          have HNM := hid (HNK.out m hlt hml)
          have HQM := hid (fun (h : ¬ Int.tmod (r.getD m 0) t = 0) => (show ∀ c, c < m + 1 → ¬ Int.tmod (r.getD c 0) t = 0 from fun c hc => by
            by_cases e : c = m
            · subst e; exact h
            · exact HQ.out c (by omega)))
          obtain ⟨x, hx⟩ : ∃ x, x = r.getD m 0 := ⟨_, rfl⟩
          rw [← hx] at hcm HNM HQM
          clear hcr hx
          by_cases hmm : Int.tmod x t = 0
          · have HB := hid (HNM.out hmm)
            go_wp2_with fail
            go_ret
            exact ⟨ret_bool HB.out.symm, bt⟩
          · have HS := hid (HQM.out hmm)
            go_wp2_with fail
            go_round
            case rel => exact ⟨m + 1, by omega, by go_num, HS⟩
            case measure => simp [intOf]; omega
        · have hmr : m = r.length := by omega
          subst hmr
          have HS := hid (HPK.out HQ.out)
          go_wp2_with fail
          go_round
          case rel => exact ⟨k + 1, by omega, by go_num, HS⟩
          case measure => simp [intOf]; omega
    · have hkl : k = R.length := by omega
      subst hkl
      have HB := hid (HYES.out HP.out)
      go_wp2_with fail
      go_ret
      exact ⟨ret_bool HB.out.symm, bt⟩
end Go.Proofs.Ythkkiakfmbnfeaa
/-
  Plain facts: a partition with all cells of a residue more, or without them. No program in this text.
-/
namespace Go.Proofs.Ythkkiakfmbnfeaa

theorem mem_filt {f : Nat → Bool} {k : Nat} {x : Int} : x ∈ filt f k ↔ ∃ r, r < k ∧ f r = true ∧ x = (r : Int) := by
  unfold filt
  simp only [List.mem_map, List.mem_filter, List.mem_range]
  constructor
  · rintro ⟨r, ⟨h1, h2⟩, rfl⟩; exact ⟨r, h1, h2, rfl⟩
  · rintro ⟨r, h1, h2, rfl⟩; exact ⟨r, ⟨h1, h2⟩, rfl⟩
theorem filt_nodup (f : Nat → Bool) (k : Nat) : (filt f k).Nodup := by
  unfold filt
  rw [List.nodup_iff_pairwise_ne, List.pairwise_map]
  exact List.Pairwise.imp (fun h e => h (by omega)) (List.Pairwise.filter _ (List.nodup_iff_pairwise_ne.1 List.nodup_range))
theorem filt_at {f : Nat → Bool} {k j : Nat} (h : j < (filt f k).length) : ∃ r : Nat, r < k ∧ f r = true ∧ (filt f k).getD j 0 = (r : Int) := by
  have : (filt f k).getD j 0 ∈ filt f k := by
    rw [List.getD_eq_getElem?_getD, List.getElem?_eq_getElem h]; exact List.getElem_mem h
  exact mem_filt.1 this
theorem take_succ_get {L : List Int} {j : Nat} (h : j < L.length) : L.take (j + 1) = L.take j ++ [L.getD j 0] := by
  rw [List.take_succ_eq_append_getElem h]; simp [List.getD, h]
theorem nodup_not_mem {L : List Int} (nd : L.Nodup) {j : Nat} (h : j < L.length) : L.getD j 0 ∉ L.take j := by
  have h1 : (L.take (j + 1)).Nodup := List.Nodup.sublist (List.take_sublist _ _) nd
  rw [take_succ_get h, List.nodup_append] at h1
  intro hm
  exact h1.2.2 _ hm _ (List.mem_singleton.2 rfl) rfl

/-- A row that is being changed at the places of a list. -/
def stp (m : Nat) (g : Nat → Int) (q : Nat → Bool) (d : Int) (L : List Int) (j : Nat) : List Int := fnRow m fun r => g r + if decide ((r : Int) ∈ L.take j) && q r then d else 0
theorem stp_len (m : Nat) (g : Nat → Int) (q : Nat → Bool) (d : Int) (L : List Int) (j : Nat) : (stp m g q d L j).length = m := fnRow_len _ _
theorem stp_zero (m : Nat) (g : Nat → Int) (q : Nat → Bool) (d : Int) (L : List Int) : stp m g q d L 0 = fnRow m g := rowF_ext _ _ _ fun j _ => by simp
theorem stp_get {m : Nat} {g : Nat → Int} {q : Nat → Bool} {d : Int} {L : List Int} (nd : L.Nodup) {j r : Nat} (hj : j < L.length) (hr : L.getD j 0 = (r : Int)) (hm : r < m) : (stp m g q d L j).getD r 0 = g r := by
  unfold stp
  rw [fnRow_get _ _ _ hm, decide_eq_false (show ¬ (r : Int) ∈ L.take j by rw [← hr]; exact nodup_not_mem nd hj)]
  simp
theorem stp_set {m : Nat} {g : Nat → Int} {q : Nat → Bool} {d : Int} {L : List Int} {j r : Nat} (hj : j < L.length) (hr : L.getD j 0 = (r : Int)) (hq : q r = true) : (stp m g q d L j).set r (g r + d) = stp m g q d L (j + 1) := by
  unfold stp
  rw [fnRow_set]
  refine rowF_ext _ _ _ fun s _ => ?_
  rw [take_succ_get hj, hr]
  by_cases e : s = r
  · subst e; rw [if_pos rfl]; simp [hq]
  · rw [if_neg e]
    have e2 : decide ((s : Int) ∈ L.take j ++ [(r : Int)]) = decide ((s : Int) ∈ L.take j) := by
      rw [decide_eq_decide, List.mem_append, List.mem_singleton]
      exact ⟨fun h => h.resolve_right (by omega), .inl⟩
    rw [e2]
theorem stp_skip {m : Nat} {g : Nat → Int} {q : Nat → Bool} {d : Int} {L : List Int} {j r : Nat} (hj : j < L.length) (hr : L.getD j 0 = (r : Int)) (hq : q r = false) : stp m g q d L j = stp m g q d L (j + 1) := by
  unfold stp
  refine rowF_ext _ _ _ fun s _ => ?_
  rw [take_succ_get hj, hr]
  by_cases e : s = r
  · subst e; simp [hq]
  · have e2 : decide ((s : Int) ∈ L.take j ++ [(r : Int)]) = decide ((s : Int) ∈ L.take j) := by
      rw [decide_eq_decide, List.mem_append, List.mem_singleton]
      exact ⟨fun h => h.resolve_right (by omega), .inl⟩
    rw [e2]
theorem stp_all (m : Nat) (g : Nat → Int) (q : Nat → Bool) (d : Int) (f : Nat → Bool) (k : Nat) (_hk : k ≤ m) : stp m g q d (filt f k) (filt f k).length = fnRow m fun r => g r + if (decide (r < k) && f r) && q r then d else 0 := by
  unfold stp
  rw [List.take_of_length_le (Nat.le_refl _)]
  refine rowF_ext _ _ _ fun s _ => ?_
  have e2 : decide ((s : Int) ∈ filt f k) = (decide (s < k) && f s) := by
    rw [Bool.eq_iff_iff]
    simp only [decide_eq_true_eq, Bool.and_eq_true]
    rw [mem_filt]
    exact ⟨fun ⟨r, h1, h2, h3⟩ => by
      have : s = r := by omega
      subst this; exact ⟨h1, h2⟩, fun ⟨h1, h2⟩ => ⟨s, h1, h2, rfl⟩⟩
  rw [e2]
def anyK (q : Nat → Bool) (L : List Int) (j : Nat) : Bool := (L.take j).any fun x => q x.toNat
theorem anyK_zero (q : Nat → Bool) (L : List Int) : anyK q L 0 = false := by simp [anyK]
theorem anyK_succ {q : Nat → Bool} {L : List Int} {j r : Nat} (hj : j < L.length) (hr : L.getD j 0 = (r : Int)) : anyK q L (j + 1) = (anyK q L j || q r) := by
  unfold anyK; rw [take_succ_get hj, List.any_append, hr]; simp
theorem stp_none {m : Nat} {g : Nat → Int} {q : Nat → Bool} {d : Int} {L : List Int} {j : Nat} (h : anyK q L j = false) : stp m g q d L j = fnRow m g := by
  unfold stp
  refine rowF_ext _ _ _ fun s _ => ?_
  by_cases hm : (s : Int) ∈ L.take j
  · have : q s = false := by
      unfold anyK at h
      rw [List.any_eq_false] at h
      have := h _ hm
      rw [Int.toNat_natCast] at this
      exact Bool.eq_false_iff.2 this
    simp [this]
  · simp [hm]

def qA (p : List Int) (t : Nat) (i : Int) (r : Nat) : Bool := decide ((p.getD r 0 - (r : Int)) % (t : Int) = i)
def qC (p : List Int) (t : Nat) (i : Int) (r : Nat) : Bool := decide ((p.getD r 0 - 1 - (r : Int)) % (t : Int) = i)
def aR (p : List Int) (t : Nat) (i : Int) (r : Nat) : Int := p.getD r 0 + if (decide (r < p.length + 1) && addB p r) && qA p t i r then 1 else 0
def cR (p : List Int) (t : Nat) (i : Int) (r : Nat) : Int := p.getD r 0 + if (decide (r < p.length) && corB p r) && qC p t i r then -1 else 0
def grw (p : List Int) (t : Nat) (i : Int) : Bool := anyK (qA p t i) (filt (addB p) (p.length + 1)) (filt (addB p) (p.length + 1)).length
/-- How many rows are left. -/
def rfK (p : List Int) (t : Nat) (i : Int) : Nat := if grw p t i then (if qA p t i p.length then p.length + 1 else p.length) else (if 0 < p.length ∧ cR p t i (p.length - 1) = 0 then p.length - 1 else p.length)
def rfG (p : List Int) (t : Nat) (i : Int) : Nat → Int := if grw p t i then aR p t i else cR p t i
def rfL (p : List Int) (t : Nat) (i : Int) : List Int := fnRow (rfK p t i) (rfG p t i)
theorem rfK_le (p : List Int) (t : Nat) (i : Int) : rfK p t i ≤ p.length + 1 := by unfold rfK; split <;> split <;> omega
theorem fnRow_take (m k : Nat) (h : k ≤ m) (f : Nat → Int) : (fnRow m f).take k = fnRow k f := by
  unfold fnRow; rw [← List.map_take, List.take_range]; congr 2; omega
theorem rfL_take (p : List Int) (t : Nat) (i : Int) : (fnRow (p.length + 1) (rfG p t i)).take (rfK p t i) = rfL p t i := fnRow_take _ _ (rfK_le p t i) _
theorem cor_out (p : List Int) : corB p p.length = false := by
  unfold corB
  rw [getD_out (show p.length ≤ p.length + 1 by omega), getD_out (Nat.le_refl p.length)]
  simp
theorem cR_out (p : List Int) (t : Nat) (i : Int) : cR p t i p.length = 0 := by
  unfold cR; rw [getD_out (Nat.le_refl _)]; simp
theorem cR_pos {p : List Int} (G : Good p) (t : Nat) (i : Int) {r : Nat} (h : r + 1 < p.length) : 0 < cR p t i r := by
  unfold cR
  have h1 := G.pos r (by omega)
  have h2 := G.pos (r + 1) h
  by_cases hc : corB p r = true
  · unfold corB at hc
    simp only [Bool.or_eq_true, decide_eq_true_eq] at hc
    have h3 : p.getD (r + 1) 0 < p.getD r 0 := hc.resolve_left (by omega)
    split <;> omega
  · rw [Bool.not_eq_true] at hc
    rw [hc, Bool.and_false, Bool.false_and, if_neg (by decide)]; omega
theorem aR_pos {p : List Int} (G : Good p) (t : Nat) (i : Int) {r : Nat} (h : r < p.length) : 0 < aR p t i r := by
  unfold aR
  have h1 := G.pos r h
  split <;> omega
theorem add_top (p : List Int) : addB p p.length = true := by simp [addB]
theorem aR_top (p : List Int) (t : Nat) (i : Int) : aR p t i p.length = if qA p t i p.length then 1 else 0 := by
  unfold aR; rw [getD_out (Nat.le_refl _), add_top]; simp
theorem rf_zero {p : List Int} (t : Nat) (i : Int) {j : Nat} (h1 : rfK p t i ≤ j) (h2 : j < p.length + 1) : rfG p t i j = 0 := by
  unfold rfK at h1
  unfold rfG
  cases hg : grw p t i
  · rw [hg] at h1
    simp only [Bool.false_eq_true, if_false] at h1 ⊢
    by_cases hj : j = p.length
    · subst hj; exact cR_out p t i
    · split at h1
      · rename_i hh
        have : j = p.length - 1 := by omega
        subst this; exact hh.2
      · omega
  · rw [hg] at h1
    simp only [if_true] at h1 ⊢
    cases hq : qA p t i p.length
    · rw [hq] at h1
      simp only [Bool.false_eq_true, if_false] at h1
      have : j = p.length := by omega
      subst this; rw [aR_top, hq]; simp
    · rw [hq] at h1
      simp only [if_true] at h1
      omega
theorem rf_last {p : List Int} (G : Good p) (t : Nat) (i : Int) (h : 0 < rfK p t i) : rfG p t i (rfK p t i - 1) ≠ 0 := by
  unfold rfK at h ⊢
  unfold rfG
  cases hg : grw p t i
  · rw [hg] at h
    simp only [Bool.false_eq_true, if_false] at h ⊢
    by_cases hh : 0 < p.length ∧ cR p t i (p.length - 1) = 0
    · rw [if_pos hh] at h ⊢
      have := cR_pos G t i (r := p.length - 1 - 1) (by omega)
      omega
    · rw [if_neg hh] at h ⊢
      exact fun e => hh ⟨h, e⟩
  · rw [hg] at h
    simp only [if_true] at h ⊢
    cases hq : qA p t i p.length
    · rw [hq] at h
      simp only [Bool.false_eq_true, if_false] at h ⊢
      have := aR_pos G t i (r := p.length - 1) (by omega)
      omega
    · simp only [if_true]
      rw [show p.length + 1 - 1 = p.length by omega, aR_top, hq]; simp
end Go.Proofs.Ythkkiakfmbnfeaa
