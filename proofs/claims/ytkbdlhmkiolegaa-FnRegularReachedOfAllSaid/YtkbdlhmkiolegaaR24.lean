/-
  Several texts in one.
-/
import Derived.Test.YtkbdlhmkiolegaaR15
import Derived.Test.YtkbdlhmkiolegaaR16
import Derived.Test.YtkbdlhmkiolegaaCI
import Derived.Test.YtkbdlhmkiolegaaR23
import Derived.Test.YtkbdlhmkiolegaaR07
/-
  CoresWith: how many levels there are at most; the order of the cores; the model's insertions sort them.
-/
namespace Go.Proofs.Ytkbdlhmkiolegaa
open Go.RowKit Go.Shelf Go.Sort

/-! How many. -/
def cnR (t : Nat) : Nat → Int → Nat
  | 0, _ => 1
  | 1, _ => 1
  | r + 2, h => ((lvl 10 21).map fun l => if h - shr t (t - (r + 2)) l < 0 then 0 else cnR t (r + 1) (h - shr t (t - (r + 2)) l)).sum
theorem sum_le {α : Type} {f g : α → Nat} : ∀ L : List α, (∀ x ∈ L, f x ≤ g x) → (L.map f).sum ≤ (L.map g).sum
  | [], _ => Nat.le_refl _
  | x :: L, h => by
    rw [List.map_cons, List.map_cons, List.sum_cons, List.sum_cons]
    have h1 := h x (List.mem_cons_self ..)
    have h2 := sum_le L fun y hy => h y (List.mem_cons_of_mem _ hy)
    omega
theorem lf_one (t : Nat) (s h : Int) : (lf t 1 s h).length ≤ 1 := by
  have h0 : ∀ s h, (lf t 0 s h).length ≤ 1 := fun s h => by rw [lf_zero]; split <;> simp
  unfold lf
  rw [flat_one (s := s) (lvl 10 21) (lvl_nodup _ _) (fun l _ hl => by
    split
    · rfl
    · rw [lf_zero, if_neg (by omega)]; rfl)]
  split
  · split
    · simp
    · rw [List.length_map]; exact h0 _ _
  · simp
theorem cnR_mono (t : Nat) : ∀ (r : Nat) (h h' : Int), h ≤ h' → cnR t r h ≤ cnR t r h'
  | 0, _, _, _ => Nat.le_refl _
  | 1, _, _, _ => Nat.le_refl _
  | r + 2, h, h', hh => by
    unfold cnR
    refine sum_le _ fun l _ => ?_
    by_cases h1 : h - shr t (t - (r + 2)) l < 0
    · rw [if_pos h1]; exact Nat.zero_le _
    · rw [if_neg h1, if_neg (by omega)]
      exact cnR_mono t (r + 1) _ _ (by omega)
theorem lf_cnR (t : Nat) : ∀ (r : Nat) (s h : Int), (lf t r s h).length ≤ cnR t r h
  | 0, s, h => by rw [lf_zero]; unfold cnR; split <;> simp
  | 1, s, h => by unfold cnR; exact lf_one t s h
  | r + 2, s, h => by
    unfold lf cnR
    rw [List.length_flatMap]
    refine sum_le _ fun l _ => ?_
    by_cases h1 : h - shr t (t - (r + 2)) l < 0
    · rw [if_pos h1, if_pos h1]; exact Nat.le_refl _
    · rw [if_neg h1, if_neg h1, List.length_map]
      exact lf_cnR t (r + 1) _ _
theorem cnR_all : ∀ t < 7, 2 ≤ t → cnR t t 60 ≤ 2000 := by decide +kernel
theorem lwF_len (t n : Int) : (lwF t n).length ≤ 2000 := by
  cases h : lwOk t n
  · rw [lw_no h]; exact Nat.zero_le _
  · rw [lw_yes h]
    simp only [lwOk, Bool.and_eq_true] at h
    have h1 := inB_iff.1 h.1
    have h2 : n ≤ 30 := (inB_iff.1 h.2).2
    obtain ⟨m, rfl⟩ : ∃ m : Nat, t = m := ⟨t.toNat, by omega⟩
    rw [Int.toNat_natCast, ← lw_main (by omega) h2]
    exact Nat.le_trans (lf_cnR m m 0 (2 * n)) (Nat.le_trans (cnR_mono m m _ 60 (by omega)) (cnR_all m (by omega) (by omega)))
theorem lwF_lev {t n : Int} {v : List Int} (h : v ∈ lwF t n) : Lev v ∧ sizeL v = n ∧ n ≤ 30 := by
  cases hk : lwOk t n
  · rw [lw_no hk] at h; cases h
  · rw [lw_yes hk] at h
    simp only [lwOk, Bool.and_eq_true] at hk
    have h2 : n ≤ 30 := (inB_iff.1 hk.2).2
    have := mem_chL _ _ h
    exact ⟨this.1, this.2.1, h2⟩

/-! The order. -/
def gcf (p q : List Int) : Int := cmpL q p
theorem gcf_total {p q : List Int} (h1 : ¬ gcf p q < 0) (h2 : ¬ gcf q p < 0) : p = q := by
  unfold gcf at h1 h2
  have h3 := cmpL_anti p q
  exact cmpL_zero p q (by omega)
theorem gcf_irrefl (p : List Int) : ¬ gcf p p < 0 := by unfold gcf; rw [cmpL_refl]; omega
theorem gcf_trans {p q r : List Int} (h1 : gcf p q < 0) (h2 : gcf q r < 0) : gcf p r < 0 := cmpL_trans r q p h2 h1
theorem gcf_ntrans {p q r : List Int} (h1 : ¬ gcf p q < 0) (h2 : ¬ gcf q r < 0) : ¬ gcf p r < 0 := by
  intro h
  by_cases e1 : gcf q p < 0
  · by_cases e2 : gcf r q < 0
    · exact gcf_irrefl p (gcf_trans h (gcf_trans e2 e1))
    · rw [gcf_total h2 e2] at e1
      exact gcf_irrefl p (gcf_trans h e1)
  · rw [gcf_total h1 e1] at h
    exact h2 h
theorem gcf_swo : SWO (ltOf gcf) where
  irrefl p := by simp only [ltOf, decide_eq_false_iff_not]; exact gcf_irrefl p
  trans p q r h1 h2 := by
    simp only [ltOf, decide_eq_true_eq] at *
    exact gcf_trans h1 h2
  ntrans p q r h1 h2 := by
    simp only [ltOf, decide_eq_false_iff_not] at *
    exact gcf_ntrans h1 h2
theorem rows_eqG : ∀ {L M : List (List Int)}, L.Perm M → L.Pairwise (fun x y => ¬ gcf y x < 0) → M.Pairwise (fun x y => ¬ gcf y x < 0) → L = M
  | [], M, h, _, _ => by rw [List.nil_perm.1 h]
  | x :: L, [], h, _, _ => by have := h.length_eq; simp at this
  | x :: L, y :: M, h, h1, h2 => by
    have hxm : x ∈ y :: M := h.mem_iff.1 (List.mem_cons_self ..)
    have hym : y ∈ x :: L := h.mem_iff.2 (List.mem_cons_self ..)
    have e : x = y := by
      rcases List.mem_cons.1 hxm with e | hx
      · exact e
      · rcases List.mem_cons.1 hym with e | hy
        · exact e.symm
        · exact gcf_total (List.rel_of_pairwise_cons h2 hx) (List.rel_of_pairwise_cons h1 hy)
    subst e
    rw [rows_eqG (List.Perm.cons_inv h) h1.of_cons h2.of_cons]
theorem pairs_ofG {L : List (List Int)} (h : ∀ i j, i < j → j < L.length → ltOf gcf (L.getD j []) (L.getD i []) = false) : L.Pairwise (fun x y => ¬ gcf y x < 0) := by
  rw [List.pairwise_iff_getElem]
  intro i j hi hj hij
  have := h i j hij hj
  rw [List.getD_eq_getElem?_getD, List.getElem?_eq_getElem hj, List.getD_eq_getElem?_getD, List.getElem?_eq_getElem hi] at this
  simp only [ltOf, decide_eq_false_iff_not] at this
  exact this
theorem pos_sum : ∀ {p : List Int}, (∀ x ∈ p, 1 ≤ x) → (p.length : Int) ≤ p.sum
  | [], _ => by simp
  | x :: p, h => by
    have h1 := h x (List.mem_cons_self ..)
    have h2 := pos_sum fun y hy => h y (List.mem_cons_of_mem _ hy)
    rw [List.sum_cons, List.length_cons]; omega
theorem bef_gcf : ∀ {p q : List Int}, (∀ x ∈ p, 1 ≤ x) → (∀ x ∈ q, 1 ≤ x) → p.sum = q.sum → (befB p q = true ↔ gcf p q < 0)
  | [], [], _, _, _ => by simp [befB, gcf, cmpL]
  | [], y :: q, _, hq, h => by
    have := pos_sum hq
    rw [List.length_cons] at this
    simp at h this; omega
  | x :: p, [], hp, _, h => by
    have := pos_sum hp
    rw [List.length_cons] at this
    simp at h this; omega
  | x :: p, y :: q, hp, hq, h => by
    rw [List.sum_cons, List.sum_cons] at h
    unfold gcf befB cmpL
    by_cases e : x = y
    · subst e
      rw [if_pos rfl, if_neg (by omega), if_neg (by omega)]
      exact bef_gcf (fun z hz => hp z (List.mem_cons_of_mem _ hz)) (fun z hz => hq z (List.mem_cons_of_mem _ hz)) (by omega)
    · rw [if_neg e]
      by_cases e2 : y < x
      · rw [if_pos e2]; simp [e2]
      · rw [if_neg e2, if_pos (by omega)]; simp; omega

/-! The model's insertions. -/
def insC (rows : List (List Int)) (p : List Int) : List (List Int) := insR rows (kC rows p) p
theorem kC_le : ∀ (rows : List (List Int)) (p : List Int), kC rows p ≤ rows.length
  | [], _ => Nat.le_refl _
  | r :: rs, p => by unfold kC; have := kC_le rs p; split <;> simp <;> omega
theorem insC_perm (rows : List (List Int)) (p : List Int) : (insC rows p).Perm (p :: rows) := by
  unfold insC insR
  refine List.perm_middle.trans ?_
  rw [List.take_append_drop]
theorem insC_sorted (s : Int) : ∀ (rows : List (List Int)) (p : List Int), (∀ r ∈ p :: rows, (∀ x ∈ r, 1 ≤ x) ∧ r.sum = s) → rows.Pairwise (fun x y => ¬ gcf y x < 0) → (insC rows p).Pairwise (fun x y => ¬ gcf y x < 0)
  | [], p, _, _ => by simp [insC, insR, kC]
  | r :: rs, p, h, hp => by
    have hr := h r (by simp)
    have hpp := h p (by simp)
    have hb := bef_gcf hr.1 hpp.1 (by rw [hr.2, hpp.2])
    by_cases hbb : befB r p = true
    · have e : insC (r :: rs) p = r :: insC rs p := by unfold insC insR; rw [kC, if_pos hbb]; simp
      rw [e]
      refine List.Pairwise.cons (fun y hy => ?_) (insC_sorted s rs p (fun q hq => h q (by
        rcases List.mem_cons.1 hq with e | e
        · rw [e]; simp
        · exact List.mem_cons_of_mem _ (List.mem_cons_of_mem _ e))) hp.of_cons)
      rcases List.mem_cons.1 ((insC_perm rs p).mem_iff.1 hy) with e | e
      · rw [e]
        intro h2
        exact gcf_irrefl r (gcf_trans (hb.1 hbb) h2)
      · exact List.rel_of_pairwise_cons hp e
    · have e : insC (r :: rs) p = p :: r :: rs := by unfold insC insR; rw [kC, if_neg hbb]; rfl
      rw [e]
      refine List.Pairwise.cons (fun y hy => ?_) hp
      have h1 : ¬ gcf r p < 0 := fun h2 => hbb (hb.2 h2)
      rcases List.mem_cons.1 hy with e | e
      · rw [e]; exact h1
      · exact gcf_ntrans (List.rel_of_pairwise_cons hp e) h1
def cwK (L : List (List Int)) (m : Nat) : List (List Int) := ((L.take m).map clF).foldl insC []
theorem cwK_succ {L : List (List Int)} {m : Nat} (h : m < L.length) : cwK L (m + 1) = insC (cwK L m) (clF (L.getD m [])) := by
  unfold cwK
  rw [List.take_succ_eq_append_getElem h, List.map_append, List.foldl_append, List.getD_eq_getElem?_getD, List.getElem?_eq_getElem h]; rfl
theorem cwK_perm {L : List (List Int)} : ∀ m, m ≤ L.length → (cwK L m).Perm ((L.take m).map clF)
  | 0, _ => by simp [cwK]
  | m + 1, h => by
    rw [cwK_succ h, List.take_succ_eq_append_getElem h, List.map_append]
    refine (insC_perm _ _).trans ?_
    have ih := cwK_perm (L := L) m (by omega)
    rw [List.getD_eq_getElem?_getD, List.getElem?_eq_getElem h]
    exact (List.Perm.cons _ ih).trans (List.perm_append_comm (l₁ := [_]))
end Go.Proofs.Ytkbdlhmkiolegaa
/-
  What arrows reach: sorted lists without doubles. No program in this text.
-/
namespace Go.Proofs.Ytkbdlhmkiolegaa

/-! Strictly sorted lists. -/
def Sr (L : List (List Int)) : Prop := L.Pairwise fun x y => gcf x y < 0
theorem Sr.weak {L : List (List Int)} (h : Sr L) : L.Pairwise fun x y => ¬ gcf y x < 0 :=
  List.Pairwise.imp (fun {x _} hxy hyx => gcf_irrefl x (gcf_trans hxy hyx)) h
theorem sr_eq : ∀ {L M : List (List Int)}, Sr L → Sr M → (∀ x, x ∈ L ↔ x ∈ M) → L = M
  | [], [], _, _, _ => rfl
  | [], y :: M, _, _, h => absurd ((h y).2 (List.mem_cons_self ..)) (by simp)
  | x :: L, [], _, _, h => absurd ((h x).1 (List.mem_cons_self ..)) (by simp)
  | x :: L, y :: M, h1, h2, h => by
    have e : x = y := by
      rcases List.mem_cons.1 ((h x).1 (List.mem_cons_self ..)) with e | hx
      · exact e
      · rcases List.mem_cons.1 ((h y).2 (List.mem_cons_self ..)) with e | hy
        · exact e.symm
        · exact absurd (gcf_trans (List.rel_of_pairwise_cons h2 hx) (List.rel_of_pairwise_cons h1 hy)) (gcf_irrefl _)
    subst e
    have step : ∀ {L M : List (List Int)}, Sr (x :: L) → (∀ z, z ∈ x :: L → z ∈ x :: M) → ∀ z, z ∈ L → z ∈ M := by
      intro L M hs hh z hz
      rcases List.mem_cons.1 (hh z (List.mem_cons_of_mem _ hz)) with e | h3
      · rw [e] at hz
        exact absurd (List.rel_of_pairwise_cons hs hz) (gcf_irrefl _)
      · exact h3
    rw [sr_eq h1.of_cons h2.of_cons fun z => ⟨step h1 (fun z hz => (h z).1 hz) z, step h2 (fun z hz => (h z).2 hz) z⟩]
theorem sr_of {L : List (List Int)} (h : L.Pairwise fun x y => ¬ gcf y x < 0) (hn : L.Nodup) : Sr L := by
  have := List.Pairwise.and h hn
  refine List.Pairwise.imp (fun {x y} hxy => ?_) this
  apply Classical.byContradiction
  intro hh
  exact hxy.2 (gcf_total hh hxy.1)
theorem Sr.nodup {L : List (List Int)} (h : Sr L) : L.Nodup :=
  List.Pairwise.imp (fun {x y} hxy e => by subst e; exact gcf_irrefl _ hxy) h
/-- Rows of so many cells. -/
def Rk (k : Nat) (L : List (List Int)) : Prop := ∀ r ∈ L, Good r ∧ r.sum = k
theorem Rk.pos {k : Nat} {L : List (List Int)} (h : Rk k L) : ∀ r ∈ L, (∀ x ∈ r, 1 ≤ x) ∧ r.sum = k := fun r hr => by
  obtain ⟨g, s⟩ := h r hr
  refine ⟨fun x hx => ?_, s⟩
  obtain ⟨j, hj, rfl⟩ := List.getElem_of_mem hx
  have := g.pos j hj
  simpa [List.getD, hj] using this

/-! The model's way. -/
def insU (rows : List (List Int)) (q : List Int) : List (List Int) := if q ∈ rows then rows else insC rows q
theorem insU_mem (rows : List (List Int)) (q x : List Int) : x ∈ insU rows q ↔ x = q ∨ x ∈ rows := by
  unfold insU
  split
  · rename_i h
    exact ⟨.inr, fun hh => hh.elim (fun e => e ▸ h) id⟩
  · rw [(insC_perm rows q).mem_iff, List.mem_cons]
theorem insU_ok {k : Nat} {rows : List (List Int)} {q : List Int} (h : Rk k rows) (hs : Sr rows) (hq : Good q ∧ q.sum = k) : Rk k (insU rows q) ∧ Sr (insU rows q) := by
  have hr : Rk k (insU rows q) := fun r hr => by
    rcases (insU_mem rows q r).1 hr with e | e
    · rw [e]; exact hq
    · exact h r e
  refine ⟨hr, ?_⟩
  unfold insU
  split
  · exact hs
  · rename_i hn
    refine sr_of (insC_sorted k rows q (Rk.pos fun r hr => ?_) hs.weak) ?_
    · rcases List.mem_cons.1 hr with e | e
      · rw [e]; exact hq
      · exact h r e
    · exact (insC_perm rows q).nodup_iff.2 (List.nodup_cons.2 ⟨hn, hs.nodup⟩)
def upsL (t : Nat) (p : List Int) : List (List Int) := ((List.range t).filter fun i : Nat => auB p t i).map fun i : Nat => auL p t i
def upsT (t : Nat) (p : List Int) (i : Nat) : List (List Int) := ((List.range i).filter fun i : Nat => auB p t i).map fun i : Nat => auL p t i
theorem upsT_yes {t : Nat} {p : List Int} {i : Nat} (h : auB p t i = true) : upsT t p (i + 1) = upsT t p i ++ [auL p t i] := by
  unfold upsT; rw [List.range_succ, List.filter_append, List.map_append]; simp [h]
theorem upsT_no {t : Nat} {p : List Int} {i : Nat} (h : auB p t i = false) : upsT t p (i + 1) = upsT t p i := by
  unfold upsT; rw [List.range_succ, List.filter_append, List.map_append]; simp [h]
theorem upsT_len (t : Nat) (p : List Int) (i : Nat) : (upsT t p i).length ≤ i := by
  unfold upsT
  rw [List.length_map]
  have := List.length_filter_le (fun i : Nat => auB p t i) (List.range i)
  rwa [List.length_range] at this
/-- What the arrows up make of the first j rows, and of the next one's first i residues. -/
def allU (t : Nat) (S : List (List Int)) (j i : Nat) : List (List Int) := (S.take j).flatMap (upsL t) ++ upsT t (S.getD j []) i
theorem allU_row {t : Nat} {S : List (List Int)} {j : Nat} (h : j < S.length) : allU t S j t = allU t S (j + 1) 0 := by
  unfold allU
  rw [List.take_succ_eq_append_getElem h, List.flatMap_append, List.getD_eq_getElem?_getD, List.getElem?_eq_getElem h]
  simp [upsT, upsL]
theorem allU_zero (t : Nat) (S : List (List Int)) : allU t S 0 0 = [] := by simp [allU, upsT]
theorem allU_len {t : Nat} (S : List (List Int)) : ∀ j i, j ≤ S.length → (allU t S j i).length ≤ t * j + i
  | 0, i, _ => by
    have := upsT_len t (S.getD 0 []) i
    simp only [allU, List.take_zero, List.flatMap_nil, List.nil_append, Nat.mul_zero]
    omega
  | j + 1, i, h => by
    have h1 := allU_len (t := t) S j t (by omega)
    rw [allU_row (by omega)] at h1
    have h2 := upsT_len t (S.getD (j + 1) []) i
    unfold allU at h1 ⊢
    simp only [upsT, List.range_zero, List.filter_nil, List.map_nil, List.append_nil] at h1
    rw [List.length_append, Nat.mul_add]
    omega
theorem allU_ok {t : Nat} (ht : 2 ≤ t ∧ t ≤ 6) {k : Nat} (hk : k ≤ 29) {S : List (List Int)} (h : Rk k S) {j i : Nat} (hji : j < S.length ∨ i = 0) : Rk (k + 1) (allU t S j i) := by
  have one : ∀ p ∈ S, ∀ i, ∀ q ∈ upsT t p i, Good q ∧ q.sum = ((k + 1 : Nat) : Int) := by
    intro p hp i q hq
    obtain ⟨g, s⟩ := h p hp
    simp only [upsT, List.mem_map, List.mem_filter] at hq
    obtain ⟨a, ⟨_, ha⟩, rfl⟩ := hq
    obtain ⟨h1, h2, _⟩ := (up_eq g (by omega) ht a).2.2 ha
    exact ⟨h1, by rw [h2, s]; omega⟩
  intro r hr
  unfold allU at hr
  rcases List.mem_append.1 hr with hr | hr
  · obtain ⟨p, hp, hq⟩ := List.mem_flatMap.1 hr
    exact one p (List.mem_of_mem_take hp) t r hq
  · rcases hji with hji | hji
    · exact one (S.getD j []) (by rw [List.getD_eq_getElem?_getD, List.getElem?_eq_getElem hji]; exact List.getElem_mem hji) i r hr
    · subst hji; simp [upsT] at hr
def stU (t : Nat) (S : List (List Int)) : List (List Int) := (S.flatMap (upsL t)).foldl insU []
def nxU (t : Nat) (S : List (List Int)) (j i : Nat) : List (List Int) := (allU t S j i).foldl insU []
theorem nxU_end (t : Nat) (S : List (List Int)) : nxU t S S.length 0 = stU t S := by
  unfold nxU stU allU; rw [List.take_of_length_le (Nat.le_refl _)]; simp [upsT]
theorem nxU_zero (t : Nat) (S : List (List Int)) : nxU t S 0 0 = [] := by unfold nxU; rw [allU_zero]; rfl
theorem nxU_row {t : Nat} {S : List (List Int)} {j : Nat} (h : j < S.length) : nxU t S j t = nxU t S (j + 1) 0 := by unfold nxU; rw [allU_row h]
theorem nxU_yes {t : Nat} {S : List (List Int)} {j i : Nat} (h : auB (S.getD j []) t i = true) : nxU t S j (i + 1) = insU (nxU t S j i) (auL (S.getD j []) t i) := by
  unfold nxU allU
  rw [upsT_yes h, ← List.append_assoc, List.foldl_append]; rfl
theorem nxU_no {t : Nat} {S : List (List Int)} {j i : Nat} (h : auB (S.getD j []) t i = false) : nxU t S j (i + 1) = nxU t S j i := by
  unfold nxU allU
  rw [upsT_no h]
theorem foldU {k : Nat} : ∀ {U R : List (List Int)}, Rk k U → Rk k R → Sr R → Rk k (U.foldl insU R) ∧ Sr (U.foldl insU R) ∧ ∀ x, x ∈ U.foldl insU R ↔ x ∈ U ∨ x ∈ R
  | [], R, _, h2, h3 => ⟨h2, h3, fun x => by simp⟩
  | q :: U, R, h1, h2, h3 => by
    obtain ⟨a, b⟩ := insU_ok h2 h3 (h1 q (by simp))
    obtain ⟨c, d, e⟩ := foldU (U := U) (R := insU R q) (fun r hr => h1 r (List.mem_cons_of_mem _ hr)) a b
    refine ⟨c, d, fun x => ?_⟩
    rw [List.foldl_cons, e x, insU_mem, List.mem_cons]
    constructor
    · rintro (h | h | h)
      · exact .inl (.inr h)
      · exact .inl (.inl h)
      · exact .inr h
    · rintro ((h | h) | h)
      · exact .inr (.inl h)
      · exact .inl h
      · exact .inr (.inr h)
theorem nxU_ok {t : Nat} (ht : 2 ≤ t ∧ t ≤ 6) {k : Nat} (hk : k ≤ 29) {S : List (List Int)} (h : Rk k S) {j i : Nat} (hji : j < S.length ∨ i = 0) : Rk (k + 1) (nxU t S j i) ∧ Sr (nxU t S j i) ∧ ∀ x, x ∈ nxU t S j i ↔ x ∈ allU t S j i := by
  obtain ⟨a, b, c⟩ := foldU (R := []) (allU_ok ht hk h hji) (fun r hr => absurd hr (by simp)) List.Pairwise.nil
  exact ⟨a, b, fun x => by rw [show nxU t S j i = (allU t S j i).foldl insU [] from rfl, c x]; simp⟩
theorem ins_len (rows : List (List Int)) (q : List Int) : (insU rows q).length ≤ rows.length + 1 := by
  unfold insU; split
  · omega
  · rw [(insC_perm rows q).length_eq]; simp
theorem fold_len : ∀ (U R : List (List Int)), (U.foldl insU R).length ≤ U.length + R.length
  | [], R => by simp
  | q :: U, R => by have := fold_len U (insU R q); have := ins_len R q; rw [List.foldl_cons, List.length_cons]; omega
theorem nxU_len {t : Nat} (S : List (List Int)) (j i : Nat) (hj : j ≤ S.length) : (nxU t S j i).length ≤ t * j + i := by
  have h1 := fold_len (allU t S j i) []
  have h2 := allU_len (t := t) S j i hj
  unfold nxU
  simp at h1; omega
def rcN (t : Nat) : Nat → List (List Int)
  | 0 => [[]]
  | k + 1 => stU t (rcN t k)
theorem rcN_ok {t : Nat} (ht : 2 ≤ t ∧ t ≤ 6) : ∀ k, k ≤ 30 → Rk k (rcN t k) ∧ Sr (rcN t k)
  | 0, _ => ⟨fun r hr => by
      have : r = [] := by simpa [rcN] using hr
      subst this
      exact ⟨Good.nil, by simp⟩, List.pairwise_singleton _ _⟩
  | k + 1, h => by
    obtain ⟨a, _⟩ := rcN_ok ht k (by omega)
    obtain ⟨b, c, _⟩ := nxU_ok ht (k := k) (j := (rcN t k).length) (i := 0) (by omega) a (.inr rfl)
    rw [nxU_end] at b c
    exact ⟨b, c⟩

theorem rc_both : ∀ t, t < 7 → 2 ≤ t → ∀ k, k < 13 → 0 < (rcN t k).length ∧ (rcN t k).length ≤ 80 := by decide +kernel
theorem rc_chk (t : Nat) (h1 : t < 7) (h2 : 2 ≤ t) (k : Nat) (hk : k < 13) : (rcN t k).length ≤ 80 := (rc_both t h1 h2 k hk).2
def raB (t n : Int) : Bool := inB 2 6 t && inB 0 12 n
def raF (t n : Int) : List (List Int) := if raB t n then rcN t.toNat n.toNat else []
theorem bound_ReachedByArrows (t n : Int) : (raF t n).length ≤ 1048576 ∧ tot (raF t n) ≤ 1048576 := by
  unfold raF
  split
  · rename_i h
    simp only [raB, Bool.and_eq_true] at h
    have ht := inB_iff.1 h.1
    have hn := inB_iff.1 h.2
    have h1 := rc_chk t.toNat (by omega) (by omega) n.toNat (by omega)
    have h2 := tot_le (rcN t.toNat n.toNat) 30 fun r hr => ((rcN_ok (t := t.toNat) (by omega) n.toNat (by omega)).1 r hr).1.len
    omega
  · simp [tot]

/-! The program's way: what is sorted is cut to its different rows. -/
def keB (L : List (List Int)) (j : Nat) : Bool := decide (j = 0) || decide (¬ L.getD j [] = L.getD (j - 1) [])
def ki (L : List (List Int)) (m : Nat) : List Nat := (List.range m).filter (keB L)
def kp (L : List (List Int)) (m : Nat) : List (List Int) := (ki L m).map fun j => L.getD j []
theorem ki_yes {L : List (List Int)} {m : Nat} (h : keB L m = true) : ki L (m + 1) = ki L m ++ [m] := by
  unfold ki; rw [List.range_succ, List.filter_append]; simp [h]
theorem ki_no {L : List (List Int)} {m : Nat} (h : keB L m = false) : ki L (m + 1) = ki L m := by
  unfold ki; rw [List.range_succ, List.filter_append]; simp [h]
theorem ki_len (L : List (List Int)) (m : Nat) : (ki L m).length ≤ m := by
  have := List.length_filter_le (keB L) (List.range m)
  rwa [List.length_range] at this
theorem kp_yes {L : List (List Int)} {m : Nat} (h : keB L m = true) : kp L (m + 1) = kp L m ++ [L.getD m []] := by
  unfold kp; rw [ki_yes h, List.map_append]; rfl
theorem kp_no {L : List (List Int)} {m : Nat} (h : keB L m = false) : kp L (m + 1) = kp L m := by
  unfold kp; rw [ki_no h]
theorem kp_sub {L : List (List Int)} {m : Nat} : ∀ x ∈ kp L m, ∃ j, j < m ∧ x = L.getD j [] := by
  intro x hx
  obtain ⟨j, hj, rfl⟩ := List.mem_map.1 hx
  exact ⟨j, List.mem_range.1 (List.mem_filter.1 hj).1, rfl⟩
theorem kp_mem {L : List (List Int)} : ∀ m, ∀ j, j < m → L.getD j [] ∈ kp L m
  | 0, j, h => by omega
  | m + 1, j, h => by
    by_cases e : j = m
    · subst e
      cases hk : keB L j
      · rw [kp_no hk]
        simp only [keB, Bool.or_eq_false_iff, decide_eq_false_iff_not, Classical.not_not] at hk
        rw [hk.2]
        exact kp_mem j (j - 1) (by omega)
      · rw [kp_yes hk]; simp
    · have := kp_mem (L := L) m j (by omega)
      cases hk : keB L m
      · rw [kp_no hk]; exact this
      · rw [kp_yes hk]; exact List.mem_append_left _ this
theorem weak_at {L : List (List Int)} (h : L.Pairwise fun x y => ¬ gcf y x < 0) {i j : Nat} (hij : i ≤ j) (hj : j < L.length) : ¬ gcf (L.getD j []) (L.getD i []) < 0 := by
  by_cases e : i = j
  · subst e; exact gcf_irrefl _
  · have := List.pairwise_iff_getElem.1 h i j (by omega) hj (by omega)
    rw [List.getD_eq_getElem?_getD, List.getElem?_eq_getElem hj, List.getD_eq_getElem?_getD, List.getElem?_eq_getElem (show i < L.length by omega)]
    exact this
theorem kp_sr {L : List (List Int)} (h : L.Pairwise fun x y => ¬ gcf y x < 0) : ∀ m, m ≤ L.length → Sr (kp L m)
  | 0, _ => List.Pairwise.nil
  | m + 1, hm => by
    have ih := kp_sr h m (by omega)
    cases hk : keB L m
    · rw [kp_no hk]; exact ih
    · rw [kp_yes hk]
      refine List.pairwise_append.2 ⟨ih, List.pairwise_singleton _ _, fun x hx y hy => ?_⟩
      obtain ⟨j, hj, rfl⟩ := kp_sub x hx
      have ey : y = L.getD m [] := by simpa using hy
      subst ey
      simp only [keB, Bool.or_eq_true, decide_eq_true_eq] at hk
      have hne : ¬ L.getD m [] = L.getD (m - 1) [] := hk.elim (fun e => by omega) id
      have h1 := weak_at h (show j ≤ m - 1 by omega) (by omega)
      have h2 := weak_at h (show m - 1 ≤ m by omega) (by omega)
      apply Classical.byContradiction
      intro hh
      have h3 := weak_at h (show j ≤ m by omega) (by omega)
      have e := gcf_total hh h3
      rw [e] at h1
      exact hne (gcf_total h2 h1)
/-- The least of the program's: what a sort makes of the rows. -/
theorem sort_ex {k : Nat} : ∀ {U R : List (List Int)}, Rk k U → Rk k R → (R.Pairwise fun x y => ¬ gcf y x < 0) → (U.foldl insC R).Perm (U ++ R) ∧ (U.foldl insC R).Pairwise fun x y => ¬ gcf y x < 0
  | [], R, _, _, h => ⟨List.Perm.refl _, h⟩
  | q :: U, R, h1, h2, h3 => by
    have hq := h1 q (by simp)
    have hR : Rk k (insC R q) := fun r hr => by
      rcases List.mem_cons.1 ((insC_perm R q).mem_iff.1 hr) with e | e
      · rw [e]; exact hq
      · exact h2 r e
    have hs := insC_sorted k R q (Rk.pos (k := k) fun r hr => by
      rcases List.mem_cons.1 hr with e | e
      · rw [e]; exact hq
      · exact h2 r e) h3
    obtain ⟨a, b⟩ := sort_ex (U := U) (R := insC R q) (fun r hr => h1 r (List.mem_cons_of_mem _ hr)) hR hs
    refine ⟨a.trans ?_, b⟩
    refine ((insC_perm R q).append_left U).trans ?_
    rw [List.cons_append]
    exact List.perm_middle
theorem kp_eq {t : Nat} (ht : 2 ≤ t ∧ t ≤ 6) {k : Nat} (hk : k ≤ 29) {S L : List (List Int)} (h : Rk k S) (hp : (allU t S S.length 0).Perm L) (hs : L.Pairwise fun x y => ¬ gcf y x < 0) : kp L L.length = stU t S := by
  obtain ⟨_, b, c⟩ := nxU_ok ht (j := S.length) (i := 0) hk h (.inr rfl)
  rw [nxU_end] at b c
  refine sr_eq (kp_sr hs _ (Nat.le_refl _)) b fun x => ?_
  rw [c x, hp.mem_iff]
  constructor
  · intro hx
    obtain ⟨j, hj, rfl⟩ := kp_sub x hx
    rw [List.getD_eq_getElem?_getD, List.getElem?_eq_getElem hj]
    exact List.getElem_mem hj
  · intro hx
    obtain ⟨j, hj, rfl⟩ := List.getElem_of_mem hx
    have := kp_mem (L := L) L.length j hj
    rwa [List.getD_eq_getElem?_getD, List.getElem?_eq_getElem hj] at this
end Go.Proofs.Ytkbdlhmkiolegaa
/-
  Regular partitions of at most 12 cells are those that arrows reach, and are told in order. No walk in this text.
-/
namespace Go.Proofs.Ytkbdlhmkiolegaa
open Go.RowKit

def chB9 (L : List (List Int)) : Bool := (List.range L.length).all fun m => decide (L.length ≤ m + 1) || befB (L.getD m []) (L.getD (m + 1) [])
theorem rg_chk : ∀ t, t < 7 → 2 ≤ t → ∀ k, k < 13 → rcN t k = rgL t k ∧ chB9 (rgL t k) = true := by decide +kernel
theorem rg_rows (t n : Int) : raF t n = rwF8 t n ∧ raB t n = rwB8 t n ∧ (rwF8 t n).length ≤ 10000 ∧ ∀ k, k < (rwF8 t n).length → rgB ((rwF8 t n).getD k []) t = true ∧ Good ((rwF8 t n).getD k []) ∧ ((rwF8 t n).getD k []).sum = n ∧ ∀ m, m + 1 = k → befB ((rwF8 t n).getD m []) ((rwF8 t n).getD k []) = true := by
  have eb : raB t n = rwB8 t n := rfl
  unfold raF rwF8
  rw [eb]
  cases hb : rwB8 t n
  · exact ⟨rfl, rfl, by simp, fun k hk => absurd hk (by simp)⟩
  have h := hb
  unfold rwB8 at h
  rw [Bool.and_eq_true] at h
  have h1 := inB_iff.1 h.1
  have h2 := inB_iff.1 h.2
  obtain ⟨T, rfl⟩ : ∃ T : Nat, t = (T : Int) := ⟨t.toNat, by omega⟩
  obtain ⟨N, rfl⟩ : ∃ N : Nat, n = (N : Int) := ⟨n.toNat, by omega⟩
  obtain ⟨c1, c2⟩ := rg_chk T (by omega) (by omega) N (by omega)
  rw [if_pos rfl, if_pos rfl, Int.toNat_natCast, Int.toNat_natCast, c1]
  refine ⟨rfl, rfl, ?_, fun k hk => ?_⟩
  · have := rc_chk T (by omega) (by omega) N (by omega)
    rw [c1] at this; omega
  · have hm : (rgL T N).getD k [] ∈ rgL T N := by
      rw [List.getD_eq_getElem?_getD, List.getElem?_eq_getElem hk]; exact List.getElem_mem hk
    unfold rgL at hm
    obtain ⟨m1, m2⟩ := List.mem_filter.1 hm
    obtain ⟨g, s⟩ := lst_rows (by omega) m1
    have g' : Good ((rgL T N).getD k []) := g
    have s' : ((rgL T N).getD k []).sum = N := s
    have r' : regB ((rgL T N).getD k []) T = true := m2
    refine ⟨?_, g', s', fun m hmk => ?_⟩
    · unfold rgB giB
      rw [(good_iff _).2 g', h.1, Int.toNat_natCast, r']; rfl
    · unfold chB9 at c2
      rw [List.all_eq_true] at c2
      have := c2 m (List.mem_range.2 (by omega))
      rw [Bool.or_eq_true, decide_eq_true_eq, hmk] at this
      rcases this with h9 | h9
      · omega
      · exact h9
end Go.Proofs.Ytkbdlhmkiolegaa
