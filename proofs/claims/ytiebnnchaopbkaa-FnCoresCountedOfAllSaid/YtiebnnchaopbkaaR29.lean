/-
  Several texts in one.
-/
import Derived.Test.YtiebnnchaopbkaaR10
import Derived.Test.YtiebnnchaopbkaaR28
import Derived.Test.YtiebnnchaopbkaaR11
import Derived.Test.YtiebnnchaopbkaaCI
import Derived.Test.YtiebnnchaopbkaaR25
import Derived.Test.YtiebnnchaopbkaaR26
import Derived.Shelf.SlSortCmp.Whole1
import Derived.Shelf.SlGeneric
import Derived.Test.YtiebnnchaopbkaaCB
/-
  Levels and cores: a partition has the levels of its core, and the levels make the core; what levels make is a core with these levels and as many cells as their form tells. No walk in this text.
-/
namespace Go.Proofs.Ytiebnnchaopbkaa
open Go.RowKit

theorem core_Good {p : List Int} (G : Good p) {t : Nat} (ht : 2 ≤ t ∧ t ≤ 6) : Good (coreL t p) :=
  (goodB_iff.1 (dw_good ht (goodB_iff.1 (beadsL_goodB G (Nat.le_refl _) (by have := G.len; omega))))).parts
theorem lvL_at {p : List Int} (G : Good p) {t : Nat} (ht : 2 ≤ t ∧ t ≤ 6) : lvL p t = fnRow t fun i => ((rnL t (beadsL p (mulN t 30)) i).length : Int) - (qR t : Nat) := by
  unfold lvL lvK lvN
  refine rowF_ext _ _ _ fun i hi => ?_
  obtain ⟨a, b, c, d⟩ := qR_bd ht
  have hb := mulN_bd (t := t) (n := 30) ht
  have := G.len
  rw [lv_main G (q := qR t) (n := mulN t 30) hi d (by omega) (by omega), rn_cnt]
theorem lv_core {p : List Int} (G : Good p) {t : Nat} (ht : 2 ≤ t ∧ t ≤ 6) : lvL (coreL t p) t = lvL p t := by
  rw [lvL_at (core_Good G ht) ht, lvL_at G ht]
  refine rowF_ext _ _ _ fun i hi => ?_
  have hb := mulN_bd (t := t) (n := 30) ht
  have := G.len
  have e := core_ct G (t := t) (N := mulN t 30) (by omega) (by omega) (by omega) i hi
  unfold ctN at e
  rw [e]
theorem lv_len (p : List Int) (t : Nat) : (lvL p t).length = t := lvK_len _ _ _
theorem kL_core {p : List Int} (G : Good p) {t : Nat} (ht : 2 ≤ t ∧ t ≤ 6) : kL (qR t) (lvL p t) = dwL t (beadsL p (mulN t 30)) := by
  refine pw_ext (kL_pw _ _) (dwL_pw _ _) fun x => ?_
  rw [mem_kL (by rw [lv_len]; omega), lv_len, mem_dwL (by omega)]
  obtain ⟨h1, _⟩ := split_at (t := t) (by omega) x
  rw [lvL_at G ht, fnRow_get _ _ _ h1]
  constructor
  · rintro ⟨a, b⟩; exact ⟨a, by omega⟩
  · rintro ⟨a, b⟩; exact ⟨a, by omega⟩
theorem lv_ge {p : List Int} (G : Good p) {t : Nat} (ht : 2 ≤ t ∧ t ≤ 6) : ∀ i, i < (lvL p t).length → 0 ≤ ((qR t : Nat) : Int) + (lvL p t).getD i 0 := fun i hi => by
  rw [lv_len] at hi
  rw [lvL_at G ht, fnRow_get _ _ _ hi]; omega
theorem cl_lv {p : List Int} (G : Good p) {t : Nat} (ht : 2 ≤ t ∧ t ≤ 6) (hL : levB (lvL p t) = true) : clOk (lvL p t) = true ∧ clF (lvL p t) = coreL t p := by
  have L := levB_iff.1 hL
  obtain ⟨a, b, c, d⟩ := qR_bd ht
  have hb := mulN_bd (t := t) (n := 30) ht
  have hl := G.len
  have hs := kL_sum L (lv_ge G ht)
  have hcg := core_Good G ht
  have hcc := core_cut (p := p) t (by omega)
  have hcs := beads_sumN hcg (n := mulN t 30) (by omega) (by omega)
  rw [core_beads G (by omega) (by omega) (by omega), ← kL_core G ht, hs, lv_len, show t * qR t = mulN t 30 by rw [d, Nat.mul_comm]] at hcs
  have hs30 : sizeL (lvL p t) ≤ 30 := by have := hcg.sum; omega
  have hok : clOk (lvL p t) = true := by unfold clOk; rw [hL, decide_eq_true hs30]; rfl
  refine ⟨hok, ?_⟩
  rw [cl_yes hok, cl_at L hs30 (q := 11) (by omega), ← cl_at L hs30 (q := qR t) a, kL_core G ht, (core_at (by omega) (by omega)).1]
/-- What levels make. -/
theorem lv_cl {xs : List Int} (h : clOk xs = true) : Good (clF xs) ∧ lvL (clF xs) xs.length = xs ∧ (clF xs).sum = sizeL xs ∧ coreL xs.length (clF xs) = clF xs ∧ isCoreF (clF xs) (xs.length : Int) = true ∧ lvOk (clF xs) (xs.length : Int) = true ∧ sizeL xs ≤ 30 := by
  have h' := h
  unfold clOk at h'
  rw [Bool.and_eq_true] at h'
  have hL := h'.1
  have hs : sizeL xs ≤ 30 := of_decide_eq_true h'.2
  have L := levB_iff.1 hL
  obtain ⟨t, et⟩ : ∃ t, t = xs.length := ⟨_, rfl⟩
  have ht : 2 ≤ t ∧ t ≤ 6 := by have := L.lo; have := L.hi; omega
  obtain ⟨a, b, c, d⟩ := qR_bd ht
  have hge : ∀ i, i < xs.length → 0 ≤ ((qR t : Nat) : Int) + xs.getD i 0 := fun i hi => by have := lev_small L hs i hi; omega
  have GB := goodB_iff.1 (kL_good L hs (q := qR t) a (by rw [← et]; exact c))
  have e : clF xs = partsL (kL (qR t) xs) := by rw [cl_yes h, cl_at L hs (q := 11) (by omega), ← cl_at L hs (q := qR t) a]
  have hlen : (kL (qR t) xs).length = mulN t 30 := by
    have := kL_len L hge
    rw [← et, ← Int.natCast_mul] at this
    rw [d, Nat.mul_comm]; omega
  have hb := mulN_bd (t := t) (n := 30) ht
  have hbe : beadsL (clF xs) (mulN t 30) = kL (qR t) xs := by
    have := beadsL_parts GB.rise
    rw [hlen] at this
    rw [e]; exact this
  have G : Good (clF xs) := by rw [e]; exact GB.parts
  have hl := G.len
  have hrn : ∀ i, i < t → (rnL t (kL (qR t) xs) i).length = ((qR t : Int) + xs.getD i 0).toNat := fun i hi => by
    have e2 : rnL t (kL (qR t) xs) i = upTo ((qR t : Int) + xs.getD i 0).toNat := by
      refine pw_ext (rnL_pw (by omega) (kL_pw _ _) i) (upTo_pw _) fun y => ?_
      rw [mem_rn hi, mem_kL (by omega), ← et, mem_upTo]
      have h := lay_div (t := t) (y := y) hi
      rw [h.1, h.2, Int.toNat_natCast]
      have := hge i (by omega)
      constructor
      · rintro ⟨h1, h2⟩
        refine ⟨?_, by omega⟩
        rcases Int.lt_or_le y 0 with h4 | h4
        · have := Int.mul_le_mul_of_nonneg_right (show y ≤ -1 by omega) (show (0 : Int) ≤ t by omega); omega
        · exact h4
      · rintro ⟨h1, h2⟩
        have := Int.mul_nonneg h1 (show (0 : Int) ≤ t by omega)
        exact ⟨by omega, by omega⟩
    rw [e2, upTo_len]
  have hlv : lvL (clF xs) t = xs := by
    rw [lvL_at G ht, hbe]
    have e3 : xs = fnRow t fun i => xs.getD i 0 := list_of et.symm
    conv => rhs; rw [e3]
    refine rowF_ext _ _ _ fun i hi => ?_
    have := hge i (by omega)
    rw [hrn i hi]; omega
  have hdw : dwL t (kL (qR t) xs) = kL (qR t) xs := by
    refine pw_ext (dwL_pw _ _) (kL_pw _ _) fun x => ?_
    obtain ⟨h1, _⟩ := split_at (t := t) (by omega) x
    rw [mem_dwL (by omega), mem_kL (by omega), ← et, hrn _ h1]
    have := hge (x % (t : Int)).toNat (by omega)
    constructor
    · rintro ⟨a, b⟩; exact ⟨a, by omega⟩
    · rintro ⟨a, b⟩; exact ⟨a, by omega⟩
  have hco : coreL t (clF xs) = clF xs := by
    rw [← (core_at (n := mulN t 30) (by omega) (by omega)).1, hbe, hdw, ← e]
  have hcr : crB (clF xs) (t : Int) = true := by
    unfold crB
    rw [(good_iff _).2 G, Bool.true_and]
    exact inB_iff.2 (by omega)
  have hsum : (clF xs).sum = sizeL xs := by
    have h1 := beads_sumN G (n := mulN t 30) (by omega) (by omega)
    have h2 := kL_sum L hge
    rw [hbe, h2, ← et, show t * qR t = mulN t 30 by rw [d, Nat.mul_comm]] at h1
    omega
  have his := core_is hcr (by rw [hco]; exact G)
  rw [hco] at his
  have hlo : lvOk (clF xs) (t : Int) = true := by
    unfold lvOk
    rw [hcr, Int.toNat_natCast, hlv, hL]; rfl
  rw [← et]
  exact ⟨G, hlv, hsum, hco, his, hlo, hs⟩
/-- A partition whose levels are told: its core has them, and they make the core. -/
theorem lac_told {p : List Int} {t : Int} (h : lvOk p t = true) : ∃ T : Nat, t = (T : Int) ∧ (2 ≤ T ∧ T ≤ 6) ∧ Good p ∧ Good (coF p t) ∧ lvOk (coF p t) t = true ∧ lvF (coF p t) t = lvF p t ∧ clOk (lvF p t) = true ∧ clF (lvF p t) = coF p t ∧ crB p t = true := by
  have h' := h
  unfold lvOk at h'
  rw [Bool.and_eq_true] at h'
  have hg := crB_good h'.1
  have G := (good_iff p).1 hg.1
  have hin := inB_iff.1 hg.2
  obtain ⟨T, rfl⟩ : ∃ T : Nat, t = (T : Int) := ⟨t.toNat, by omega⟩
  rw [Int.toNat_natCast] at h'
  have ht : 2 ≤ T ∧ T ≤ 6 := by omega
  have hc : coF p (T : Int) = coreL T p := (co_yes h'.1).1
  have Gc := core_Good G ht
  have hlo : lvOk (coreL T p) (T : Int) = true := by
    unfold lvOk crB
    rw [(good_iff _).2 Gc, hg.2, Int.toNat_natCast, lv_core G ht, h'.2]; rfl
  have h3 := cl_lv G ht h'.2
  rw [hc, lvF_t h, lvF_t hlo, lv_core G ht]
  exact ⟨T, rfl, ht, G, Gc, hlo, rfl, h3.1, h3.2, h'.1⟩
end Go.Proofs.Ytiebnnchaopbkaa
/-
  CoresWith: how many levels there are at most; the order of the cores; the model's insertions sort them.
-/
namespace Go.Proofs.Ytiebnnchaopbkaa
open Go.RowKit Go.Shelf Go.Sort

/-! How many. -/
def cnR (t : Nat) : Nat → Int → Nat
  | 0, _ => 1
  | 1, _ => 1
  | r + 2, h => ((lvl 10 21).map fun l => if h - shr t (t - (r + 2)) l < 0 then 0 else cnR t (r + 1) (h - shr t (t - (r + 2)) l)).sum
theorem sum_le {α : Type} {f g : α → Nat} : ∀ L : List α, (∀ x ∈ L, f x ≤ g x) → (L.map f).sum ≤ (L.map g).sum
  | [], _ => Nat.le_refl _
  | x :: L, h => by
    rw [List.map_cons, List.map_cons, List.sum_cons, List.sum_cons]
    have h1 := h x (List.mem_cons_self ..)
    have h2 := sum_le L fun y hy => h y (List.mem_cons_of_mem _ hy)
    omega
theorem lf_one (t : Nat) (s h : Int) : (lf t 1 s h).length ≤ 1 := by
  have h0 : ∀ s h, (lf t 0 s h).length ≤ 1 := fun s h => by rw [lf_zero]; split <;> simp
  unfold lf
  rw [flat_one (s := s) (lvl 10 21) (lvl_nodup _ _) (fun l _ hl => by
    split
    · rfl
    · rw [lf_zero, if_neg (by omega)]; rfl)]
  split
  · split
    · simp
    · rw [List.length_map]; exact h0 _ _
  · simp
theorem cnR_mono (t : Nat) : ∀ (r : Nat) (h h' : Int), h ≤ h' → cnR t r h ≤ cnR t r h'
  | 0, _, _, _ => Nat.le_refl _
  | 1, _, _, _ => Nat.le_refl _
  | r + 2, h, h', hh => by
    unfold cnR
    refine sum_le _ fun l _ => ?_
    by_cases h1 : h - shr t (t - (r + 2)) l < 0
    · rw [if_pos h1]; exact Nat.zero_le _
    · rw [if_neg h1, if_neg (by omega)]
      exact cnR_mono t (r + 1) _ _ (by omega)
theorem lf_cnR (t : Nat) : ∀ (r : Nat) (s h : Int), (lf t r s h).length ≤ cnR t r h
  | 0, s, h => by rw [lf_zero]; unfold cnR; split <;> simp
  | 1, s, h => by unfold cnR; exact lf_one t s h
  | r + 2, s, h => by
    unfold lf cnR
    rw [List.length_flatMap]
    refine sum_le _ fun l _ => ?_
    by_cases h1 : h - shr t (t - (r + 2)) l < 0
    · rw [if_pos h1, if_pos h1]; exact Nat.le_refl _
    · rw [if_neg h1, if_neg h1, List.length_map]
      exact lf_cnR t (r + 1) _ _
theorem cnR_all : ∀ t < 7, 2 ≤ t → cnR t t 60 ≤ 2000 := by decide +kernel
theorem lwF_len (t n : Int) : (lwF t n).length ≤ 2000 := by
  cases h : lwOk t n
  · rw [lw_no h]; exact Nat.zero_le _
  · rw [lw_yes h]
    simp only [lwOk, Bool.and_eq_true] at h
    have h1 := inB_iff.1 h.1
    have h2 : n ≤ 30 := (inB_iff.1 h.2).2
    obtain ⟨m, rfl⟩ : ∃ m : Nat, t = m := ⟨t.toNat, by omega⟩
    rw [Int.toNat_natCast, ← lw_main (by omega) h2]
    exact Nat.le_trans (lf_cnR m m 0 (2 * n)) (Nat.le_trans (cnR_mono m m _ 60 (by omega)) (cnR_all m (by omega) (by omega)))
theorem lwF_lev {t n : Int} {v : List Int} (h : v ∈ lwF t n) : Lev v ∧ sizeL v = n ∧ n ≤ 30 := by
  cases hk : lwOk t n
  · rw [lw_no hk] at h; cases h
  · rw [lw_yes hk] at h
    simp only [lwOk, Bool.and_eq_true] at hk
    have h2 : n ≤ 30 := (inB_iff.1 hk.2).2
    have := mem_chL _ _ h
    exact ⟨this.1, this.2.1, h2⟩

/-! The order. -/
def gcf (p q : List Int) : Int := cmpL q p
theorem gcf_total {p q : List Int} (h1 : ¬ gcf p q < 0) (h2 : ¬ gcf q p < 0) : p = q := by
  unfold gcf at h1 h2
  have h3 := cmpL_anti p q
  exact cmpL_zero p q (by omega)
theorem gcf_irrefl (p : List Int) : ¬ gcf p p < 0 := by unfold gcf; rw [cmpL_refl]; omega
theorem gcf_trans {p q r : List Int} (h1 : gcf p q < 0) (h2 : gcf q r < 0) : gcf p r < 0 := cmpL_trans r q p h2 h1
theorem gcf_ntrans {p q r : List Int} (h1 : ¬ gcf p q < 0) (h2 : ¬ gcf q r < 0) : ¬ gcf p r < 0 := by
  intro h
  by_cases e1 : gcf q p < 0
  · by_cases e2 : gcf r q < 0
    · exact gcf_irrefl p (gcf_trans h (gcf_trans e2 e1))
    · rw [gcf_total h2 e2] at e1
      exact gcf_irrefl p (gcf_trans h e1)
  · rw [gcf_total h1 e1] at h
    exact h2 h
theorem gcf_swo : SWO (ltOf gcf) where
  irrefl p := by simp only [ltOf, decide_eq_false_iff_not]; exact gcf_irrefl p
  trans p q r h1 h2 := by
    simp only [ltOf, decide_eq_true_eq] at *
    exact gcf_trans h1 h2
  ntrans p q r h1 h2 := by
    simp only [ltOf, decide_eq_false_iff_not] at *
    exact gcf_ntrans h1 h2
theorem rows_eqG : ∀ {L M : List (List Int)}, L.Perm M → L.Pairwise (fun x y => ¬ gcf y x < 0) → M.Pairwise (fun x y => ¬ gcf y x < 0) → L = M
  | [], M, h, _, _ => by rw [List.nil_perm.1 h]
  | x :: L, [], h, _, _ => by have := h.length_eq; simp at this
  | x :: L, y :: M, h, h1, h2 => by
    have hxm : x ∈ y :: M := h.mem_iff.1 (List.mem_cons_self ..)
    have hym : y ∈ x :: L := h.mem_iff.2 (List.mem_cons_self ..)
    have e : x = y := by
      rcases List.mem_cons.1 hxm with e | hx
      · exact e
      · rcases List.mem_cons.1 hym with e | hy
        · exact e.symm
        · exact gcf_total (List.rel_of_pairwise_cons h2 hx) (List.rel_of_pairwise_cons h1 hy)
    subst e
    rw [rows_eqG (List.Perm.cons_inv h) h1.of_cons h2.of_cons]
theorem pairs_ofG {L : List (List Int)} (h : ∀ i j, i < j → j < L.length → ltOf gcf (L.getD j []) (L.getD i []) = false) : L.Pairwise (fun x y => ¬ gcf y x < 0) := by
  rw [List.pairwise_iff_getElem]
  intro i j hi hj hij
  have := h i j hij hj
  rw [List.getD_eq_getElem?_getD, List.getElem?_eq_getElem hj, List.getD_eq_getElem?_getD, List.getElem?_eq_getElem hi] at this
  simp only [ltOf, decide_eq_false_iff_not] at this
  exact this
theorem pos_sum : ∀ {p : List Int}, (∀ x ∈ p, 1 ≤ x) → (p.length : Int) ≤ p.sum
  | [], _ => by simp
  | x :: p, h => by
    have h1 := h x (List.mem_cons_self ..)
    have h2 := pos_sum fun y hy => h y (List.mem_cons_of_mem _ hy)
    rw [List.sum_cons, List.length_cons]; omega
theorem bef_gcf : ∀ {p q : List Int}, (∀ x ∈ p, 1 ≤ x) → (∀ x ∈ q, 1 ≤ x) → p.sum = q.sum → (befB p q = true ↔ gcf p q < 0)
  | [], [], _, _, _ => by simp [befB, gcf, cmpL]
  | [], y :: q, _, hq, h => by
    have := pos_sum hq
    rw [List.length_cons] at this
    simp at h this; omega
  | x :: p, [], hp, _, h => by
    have := pos_sum hp
    rw [List.length_cons] at this
    simp at h this; omega
  | x :: p, y :: q, hp, hq, h => by
    rw [List.sum_cons, List.sum_cons] at h
    unfold gcf befB cmpL
    by_cases e : x = y
    · subst e
      rw [if_pos rfl, if_neg (by omega), if_neg (by omega)]
      exact bef_gcf (fun z hz => hp z (List.mem_cons_of_mem _ hz)) (fun z hz => hq z (List.mem_cons_of_mem _ hz)) (by omega)
    · rw [if_neg e]
      by_cases e2 : y < x
      · rw [if_pos e2]; simp [e2]
      · rw [if_neg e2, if_pos (by omega)]; simp; omega

/-! The model's insertions. -/
def insC (rows : List (List Int)) (p : List Int) : List (List Int) := insR rows (kC rows p) p
theorem kC_le : ∀ (rows : List (List Int)) (p : List Int), kC rows p ≤ rows.length
  | [], _ => Nat.le_refl _
  | r :: rs, p => by unfold kC; have := kC_le rs p; split <;> simp <;> omega
theorem insC_perm (rows : List (List Int)) (p : List Int) : (insC rows p).Perm (p :: rows) := by
  unfold insC insR
  refine List.perm_middle.trans ?_
  rw [List.take_append_drop]
theorem insC_sorted (s : Int) : ∀ (rows : List (List Int)) (p : List Int), (∀ r ∈ p :: rows, (∀ x ∈ r, 1 ≤ x) ∧ r.sum = s) → rows.Pairwise (fun x y => ¬ gcf y x < 0) → (insC rows p).Pairwise (fun x y => ¬ gcf y x < 0)
  | [], p, _, _ => by simp [insC, insR, kC]
  | r :: rs, p, h, hp => by
    have hr := h r (by simp)
    have hpp := h p (by simp)
    have hb := bef_gcf hr.1 hpp.1 (by rw [hr.2, hpp.2])
    by_cases hbb : befB r p = true
    · have e : insC (r :: rs) p = r :: insC rs p := by unfold insC insR; rw [kC, if_pos hbb]; simp
      rw [e]
      refine List.Pairwise.cons (fun y hy => ?_) (insC_sorted s rs p (fun q hq => h q (by
        rcases List.mem_cons.1 hq with e | e
        · rw [e]; simp
        · exact List.mem_cons_of_mem _ (List.mem_cons_of_mem _ e))) hp.of_cons)
      rcases List.mem_cons.1 ((insC_perm rs p).mem_iff.1 hy) with e | e
      · rw [e]
        intro h2
        exact gcf_irrefl r (gcf_trans (hb.1 hbb) h2)
      · exact List.rel_of_pairwise_cons hp e
    · have e : insC (r :: rs) p = p :: r :: rs := by unfold insC insR; rw [kC, if_neg hbb]; rfl
      rw [e]
      refine List.Pairwise.cons (fun y hy => ?_) hp
      have h1 : ¬ gcf r p < 0 := fun h2 => hbb (hb.2 h2)
      rcases List.mem_cons.1 hy with e | e
      · rw [e]; exact h1
      · exact gcf_ntrans (List.rel_of_pairwise_cons hp e) h1
def cwK (L : List (List Int)) (m : Nat) : List (List Int) := ((L.take m).map clF).foldl insC []
theorem cwK_succ {L : List (List Int)} {m : Nat} (h : m < L.length) : cwK L (m + 1) = insC (cwK L m) (clF (L.getD m [])) := by
  unfold cwK
  rw [List.take_succ_eq_append_getElem h, List.map_append, List.foldl_append, List.getD_eq_getElem?_getD, List.getElem?_eq_getElem h]; rfl
theorem cwK_perm {L : List (List Int)} : ∀ m, m ≤ L.length → (cwK L m).Perm ((L.take m).map clF)
  | 0, _ => by simp [cwK]
  | m + 1, h => by
    rw [cwK_succ h, List.take_succ_eq_append_getElem h, List.map_append]
    refine (insC_perm _ _).trans ?_
    have ih := cwK_perm (L := L) m (by omega)
    rw [List.getD_eq_getElem?_getD, List.getElem?_eq_getElem h]
    exact (List.Perm.cons _ ih).trans (List.perm_append_comm (l₁ := [_]))
end Go.Proofs.Ytiebnnchaopbkaa
/-
  The library's contract laid at this program: sortF.
-/
namespace Go.Proofs.Ytiebnnchaopbkaa
open Go.RowKit Go.Shelf Go.Sort

def sortFRen : Go.Shelf.Ren := ⟨fun | 6 => 20 | 15 => 42 | 14 => 41 | 28 => 67 | 29 => 68 | 20 => 59 | 21 => 60 | 22 => 61 | 23 => 62 | 24 => 63 | 25 => 64 | 26 => 65 | 27 => 66 | 46 => 77 | 47 => 78 | 48 => 79 | 49 => 80 | 50 => 81 | 57 => 89 | n => n, fun | 22 => 22 | 24 => 28 | 25 => 40 | 3 => 3 | 39 => 62 | 0 => 0 | 53 => 87 | 55 => 89 | 4 => 4 | 46 => 81 | 45 => 80 | 50 => 25 | 5 => 5 | 9 => 9 | 66 => 94 | 70 => 98 | 76 => 105 | 77 => 106 | n => n, fun | n => n⟩
theorem sortFLays : Go.Proofs.SlLaysF.n6 Try.prog sortFRen := {
  mixed := by kernel_rfl
  f6 := ⟨Try.f20.name, by decide, Try.func20.trans (congrArg some (by kernel_rfl))⟩
  f14 := ⟨Try.f41.name, by decide, Try.func41.trans (congrArg some (by kernel_rfl))⟩
  f15 := Try.func42.trans (congrArg some (by kernel_rfl))
  f20 := ⟨Try.f59.name, by decide, Try.func59.trans (congrArg some (by kernel_rfl))⟩
  f21 := ⟨Try.f60.name, by decide, Try.func60.trans (congrArg some (by kernel_rfl))⟩
  f22 := ⟨Try.f61.name, by decide, Try.func61.trans (congrArg some (by kernel_rfl))⟩
  f23 := ⟨Try.f62.name, by decide, Try.func62.trans (congrArg some (by kernel_rfl))⟩
  f24 := ⟨Try.f63.name, by decide, Try.func63.trans (congrArg some (by kernel_rfl))⟩
  f25 := ⟨Try.f64.name, by decide, Try.func64.trans (congrArg some (by kernel_rfl))⟩
  f26 := ⟨Try.f65.name, by decide, Try.func65.trans (congrArg some (by kernel_rfl))⟩
  f27 := ⟨Try.f66.name, by decide, Try.func66.trans (congrArg some (by kernel_rfl))⟩
  f28 := Try.func67.trans (congrArg some (by kernel_rfl))
  f29 := Try.func68.trans (congrArg some (by kernel_rfl))
  f46 := ⟨Try.f77.name, by decide, Try.func77.trans (congrArg some (by kernel_rfl))⟩
  f47 := Try.func78.trans (congrArg some (by kernel_rfl))
  f48 := Try.func79.trans (congrArg some (by kernel_rfl))
  f49 := ⟨Try.f80.name, by decide, Try.func80.trans (congrArg some (by kernel_rfl))⟩
  f50 := ⟨Try.f81.name, by decide, Try.func81.trans (congrArg some (by kernel_rfl))⟩
  f57 := ⟨Try.f89.name, by decide, Try.func89.trans (congrArg some (by kernel_rfl))⟩
  t0 := Try.underlying0
  a0 := Try.isAgg0
  z0 := Try.sizeOf0
  v0 := Try.zeroValue0
  t3 := Try.underlying3
  a3 := Try.isAgg3
  z3 := Try.sizeOf3
  v3 := Try.zeroValue3
  t4 := Try.underlying4
  a4 := Try.isAgg4
  z4 := Try.sizeOf4
  v4 := Try.zeroValue4
  t5 := Try.underlying5
  a5 := Try.isAgg5
  z5 := Try.sizeOf5
  v5 := Try.zeroValue5
  t9 := Try.underlying9
  a9 := Try.isAgg9
  z9 := Try.sizeOf9
  v9 := Try.zeroValue9
  t22 := Try.underlying22
  a22 := Try.isAgg22
  z22 := Try.sizeOf22
  v22 := Try.zeroValue22
  a24 := Try.isAgg28
  z24 := Try.sizeOf28
  t25 := Try.underlying40
  a25 := Try.isAgg40
  z25 := Try.sizeOf40
  v25 := Try.zeroValue40
  t39 := Try.underlying62
  a39 := Try.isAgg62
  z39 := Try.sizeOf62
  v39 := Try.zeroValue62
  t45 := Try.underlying80
  a45 := Try.isAgg80
  z45 := Try.sizeOf80
  v45 := Try.zeroValue80
  t46 := Try.underlying81
  a46 := Try.isAgg81
  z46 := Try.sizeOf81
  v46 := Try.zeroValue81
  t50 := Try.underlying25
  a50 := Try.isAgg25
  z50 := Try.sizeOf25
  v50 := Try.zeroValue25
  t53 := Try.underlying87
  a53 := Try.isAgg87
  z53 := Try.sizeOf87
  v53 := Try.zeroValue87
  t55 := Try.underlying89
  a55 := Try.isAgg89
  z55 := Try.sizeOf89
  v55 := Try.zeroValue89
  t66 := Try.underlying94
  a66 := Try.isAgg94
  z66 := Try.sizeOf94
  v66 := Try.zeroValue94
  t70 := Try.underlying98
  a70 := Try.isAgg98
  z70 := Try.sizeOf98
  v70 := Try.zeroValue98
  t76 := Try.underlying105
  a76 := Try.isAgg105
  z76 := Try.sizeOf105
  v76 := Try.zeroValue105
  t77 := Try.underlying106
  a77 := Try.isAgg106
  z77 := Try.sizeOf106
  v77 := Try.zeroValue106 }
end Go.Proofs.Ytiebnnchaopbkaa
