/-
  CoresWith: how many levels there are at most; the order of the cores; the model's insertions sort them.
-/
import Derived.Test.YtnpkfndopicdiaaChPut
import Derived.Test.YtnpkfndopicdiaaCmpL
import Derived.Test.YtnpkfndopicdiaaSort
import Derived.Test.YtnpkfndopicdiaaCI
namespace Go.Proofs.Ytnpkfndopicdiaa
open Go.RowKit Go.Shelf Go.Sort

/-! How many. -/
def cnR (t : Nat) : Nat → Int → Nat
  | 0, _ => 1
  | 1, _ => 1
  | r + 2, h => ((lvl 10 21).map fun l => if h - shr t (t - (r + 2)) l < 0 then 0 else cnR t (r + 1) (h - shr t (t - (r + 2)) l)).sum
theorem sum_le {α : Type} {f g : α → Nat} : ∀ L : List α, (∀ x ∈ L, f x ≤ g x) → (L.map f).sum ≤ (L.map g).sum
  | [], _ => Nat.le_refl _
  | x :: L, h => by
    rw [List.map_cons, List.map_cons, List.sum_cons, List.sum_cons]
    have h1 := h x (List.mem_cons_self ..)
    have h2 := sum_le L fun y hy => h y (List.mem_cons_of_mem _ hy)
    omega
theorem lf_one (t : Nat) (s h : Int) : (lf t 1 s h).length ≤ 1 := by
  have h0 : ∀ s h, (lf t 0 s h).length ≤ 1 := fun s h => by rw [lf_zero]; split <;> simp
  unfold lf
  rw [flat_one (s := s) (lvl 10 21) (lvl_nodup _ _) (fun l _ hl => by
    split
    · rfl
    · rw [lf_zero, if_neg (by omega)]; rfl)]
  split
  · split
    · simp
    · rw [List.length_map]; exact h0 _ _
  · simp
theorem cnR_mono (t : Nat) : ∀ (r : Nat) (h h' : Int), h ≤ h' → cnR t r h ≤ cnR t r h'
  | 0, _, _, _ => Nat.le_refl _
  | 1, _, _, _ => Nat.le_refl _
  | r + 2, h, h', hh => by
    unfold cnR
    refine sum_le _ fun l _ => ?_
    by_cases h1 : h - shr t (t - (r + 2)) l < 0
    · rw [if_pos h1]; exact Nat.zero_le _
    · rw [if_neg h1, if_neg (by omega)]
      exact cnR_mono t (r + 1) _ _ (by omega)
theorem lf_cnR (t : Nat) : ∀ (r : Nat) (s h : Int), (lf t r s h).length ≤ cnR t r h
  | 0, s, h => by rw [lf_zero]; unfold cnR; split <;> simp
  | 1, s, h => by unfold cnR; exact lf_one t s h
  | r + 2, s, h => by
    unfold lf cnR
    rw [List.length_flatMap]
    refine sum_le _ fun l _ => ?_
    by_cases h1 : h - shr t (t - (r + 2)) l < 0
    · rw [if_pos h1, if_pos h1]; exact Nat.le_refl _
    · rw [if_neg h1, if_neg h1, List.length_map]
      exact lf_cnR t (r + 1) _ _
theorem cnR_all : ∀ t < 7, 2 ≤ t → cnR t t 60 ≤ 2000 := by decide +kernel
theorem lwF_len (t n : Int) : (lwF t n).length ≤ 2000 := by
  cases h : lwOk t n
  · rw [lw_no h]; exact Nat.zero_le _
  · rw [lw_yes h]
    simp only [lwOk, Bool.and_eq_true] at h
    have h1 := inB_iff.1 h.1
    have h2 : n ≤ 30 := (inB_iff.1 h.2).2
    obtain ⟨m, rfl⟩ : ∃ m : Nat, t = m := ⟨t.toNat, by omega⟩
    rw [Int.toNat_natCast, ← lw_main (by omega) h2]
    exact Nat.le_trans (lf_cnR m m 0 (2 * n)) (Nat.le_trans (cnR_mono m m _ 60 (by omega)) (cnR_all m (by omega) (by omega)))
theorem lwF_lev {t n : Int} {v : List Int} (h : v ∈ lwF t n) : Lev v ∧ sizeL v = n ∧ n ≤ 30 := by
  cases hk : lwOk t n
  · rw [lw_no hk] at h; cases h
  · rw [lw_yes hk] at h
    simp only [lwOk, Bool.and_eq_true] at hk
    have h2 : n ≤ 30 := (inB_iff.1 hk.2).2
    have := mem_chL _ _ h
    exact ⟨this.1, this.2.1, h2⟩

/-! The order. -/
def gcf (p q : List Int) : Int := cmpL q p
theorem gcf_total {p q : List Int} (h1 : ¬ gcf p q < 0) (h2 : ¬ gcf q p < 0) : p = q := by
  unfold gcf at h1 h2
  have h3 := cmpL_anti p q
  exact cmpL_zero p q (by omega)
theorem gcf_irrefl (p : List Int) : ¬ gcf p p < 0 := by unfold gcf; rw [cmpL_refl]; omega
theorem gcf_trans {p q r : List Int} (h1 : gcf p q < 0) (h2 : gcf q r < 0) : gcf p r < 0 := cmpL_trans r q p h2 h1
theorem gcf_ntrans {p q r : List Int} (h1 : ¬ gcf p q < 0) (h2 : ¬ gcf q r < 0) : ¬ gcf p r < 0 := by
  intro h
  by_cases e1 : gcf q p < 0
  · by_cases e2 : gcf r q < 0
    · exact gcf_irrefl p (gcf_trans h (gcf_trans e2 e1))
    · rw [gcf_total h2 e2] at e1
      exact gcf_irrefl p (gcf_trans h e1)
  · rw [gcf_total h1 e1] at h
    exact h2 h
theorem gcf_swo : SWO (ltOf gcf) where
  irrefl p := by simp only [ltOf, decide_eq_false_iff_not]; exact gcf_irrefl p
  trans p q r h1 h2 := by
    simp only [ltOf, decide_eq_true_eq] at *
    exact gcf_trans h1 h2
  ntrans p q r h1 h2 := by
    simp only [ltOf, decide_eq_false_iff_not] at *
    exact gcf_ntrans h1 h2
theorem rows_eqG : ∀ {L M : List (List Int)}, L.Perm M → L.Pairwise (fun x y => ¬ gcf y x < 0) → M.Pairwise (fun x y => ¬ gcf y x < 0) → L = M
  | [], M, h, _, _ => by rw [List.nil_perm.1 h]
  | x :: L, [], h, _, _ => by have := h.length_eq; simp at this
  | x :: L, y :: M, h, h1, h2 => by
    have hxm : x ∈ y :: M := h.mem_iff.1 (List.mem_cons_self ..)
    have hym : y ∈ x :: L := h.mem_iff.2 (List.mem_cons_self ..)
    have e : x = y := by
      rcases List.mem_cons.1 hxm with e | hx
      · exact e
      · rcases List.mem_cons.1 hym with e | hy
        · exact e.symm
        · exact gcf_total (List.rel_of_pairwise_cons h2 hx) (List.rel_of_pairwise_cons h1 hy)
    subst e
    rw [rows_eqG (List.Perm.cons_inv h) h1.of_cons h2.of_cons]
theorem pairs_ofG {L : List (List Int)} (h : ∀ i j, i < j → j < L.length → ltOf gcf (L.getD j []) (L.getD i []) = false) : L.Pairwise (fun x y => ¬ gcf y x < 0) := by
  rw [List.pairwise_iff_getElem]
  intro i j hi hj hij
  have := h i j hij hj
  rw [List.getD_eq_getElem?_getD, List.getElem?_eq_getElem hj, List.getD_eq_getElem?_getD, List.getElem?_eq_getElem hi] at this
  simp only [ltOf, decide_eq_false_iff_not] at this
  exact this
theorem pos_sum : ∀ {p : List Int}, (∀ x ∈ p, 1 ≤ x) → (p.length : Int) ≤ p.sum
  | [], _ => by simp
  | x :: p, h => by
    have h1 := h x (List.mem_cons_self ..)
    have h2 := pos_sum fun y hy => h y (List.mem_cons_of_mem _ hy)
    rw [List.sum_cons, List.length_cons]; omega
theorem bef_gcf : ∀ {p q : List Int}, (∀ x ∈ p, 1 ≤ x) → (∀ x ∈ q, 1 ≤ x) → p.sum = q.sum → (befB p q = true ↔ gcf p q < 0)
  | [], [], _, _, _ => by simp [befB, gcf, cmpL]
  | [], y :: q, _, hq, h => by
    have := pos_sum hq
    rw [List.length_cons] at this
    simp at h this; omega
  | x :: p, [], hp, _, h => by
    have := pos_sum hp
    rw [List.length_cons] at this
    simp at h this; omega
  | x :: p, y :: q, hp, hq, h => by
    rw [List.sum_cons, List.sum_cons] at h
    unfold gcf befB cmpL
    by_cases e : x = y
    · subst e
      rw [if_pos rfl, if_neg (by omega), if_neg (by omega)]
      exact bef_gcf (fun z hz => hp z (List.mem_cons_of_mem _ hz)) (fun z hz => hq z (List.mem_cons_of_mem _ hz)) (by omega)
    · rw [if_neg e]
      by_cases e2 : y < x
      · rw [if_pos e2]; simp [e2]
      · rw [if_neg e2, if_pos (by omega)]; simp; omega

/-! The model's insertions. -/
def insC (rows : List (List Int)) (p : List Int) : List (List Int) := insR rows (kC rows p) p
theorem kC_le : ∀ (rows : List (List Int)) (p : List Int), kC rows p ≤ rows.length
  | [], _ => Nat.le_refl _
  | r :: rs, p => by unfold kC; have := kC_le rs p; split <;> simp <;> omega
theorem insC_perm (rows : List (List Int)) (p : List Int) : (insC rows p).Perm (p :: rows) := by
  unfold insC insR
  refine List.perm_middle.trans ?_
  rw [List.take_append_drop]
theorem insC_sorted (s : Int) : ∀ (rows : List (List Int)) (p : List Int), (∀ r ∈ p :: rows, (∀ x ∈ r, 1 ≤ x) ∧ r.sum = s) → rows.Pairwise (fun x y => ¬ gcf y x < 0) → (insC rows p).Pairwise (fun x y => ¬ gcf y x < 0)
  | [], p, _, _ => by simp [insC, insR, kC]
  | r :: rs, p, h, hp => by
    have hr := h r (by simp)
    have hpp := h p (by simp)
    have hb := bef_gcf hr.1 hpp.1 (by rw [hr.2, hpp.2])
    by_cases hbb : befB r p = true
    · have e : insC (r :: rs) p = r :: insC rs p := by unfold insC insR; rw [kC, if_pos hbb]; simp
      rw [e]
      refine List.Pairwise.cons (fun y hy => ?_) (insC_sorted s rs p (fun q hq => h q (by
        rcases List.mem_cons.1 hq with e | e
        · rw [e]; simp
        · exact List.mem_cons_of_mem _ (List.mem_cons_of_mem _ e))) hp.of_cons)
      rcases List.mem_cons.1 ((insC_perm rs p).mem_iff.1 hy) with e | e
      · rw [e]
        intro h2
        exact gcf_irrefl r (gcf_trans (hb.1 hbb) h2)
      · exact List.rel_of_pairwise_cons hp e
    · have e : insC (r :: rs) p = p :: r :: rs := by unfold insC insR; rw [kC, if_neg hbb]; rfl
      rw [e]
      refine List.Pairwise.cons (fun y hy => ?_) hp
      have h1 : ¬ gcf r p < 0 := fun h2 => hbb (hb.2 h2)
      rcases List.mem_cons.1 hy with e | e
      · rw [e]; exact h1
      · exact gcf_ntrans (List.rel_of_pairwise_cons hp e) h1
def cwK (L : List (List Int)) (m : Nat) : List (List Int) := ((L.take m).map clF).foldl insC []
theorem cwK_succ {L : List (List Int)} {m : Nat} (h : m < L.length) : cwK L (m + 1) = insC (cwK L m) (clF (L.getD m [])) := by
  unfold cwK
  rw [List.take_succ_eq_append_getElem h, List.map_append, List.foldl_append, List.getD_eq_getElem?_getD, List.getElem?_eq_getElem h]; rfl
theorem cwK_perm {L : List (List Int)} : ∀ m, m ≤ L.length → (cwK L m).Perm ((L.take m).map clF)
  | 0, _ => by simp [cwK]
  | m + 1, h => by
    rw [cwK_succ h, List.take_succ_eq_append_getElem h, List.map_append]
    refine (insC_perm _ _).trans ?_
    have ih := cwK_perm (L := L) m (by omega)
    rw [List.getD_eq_getElem?_getD, List.getElem?_eq_getElem h]
    exact (List.Perm.cons _ ih).trans (List.perm_append_comm (l₁ := [_]))
end Go.Proofs.Ytnpkfndopicdiaa
