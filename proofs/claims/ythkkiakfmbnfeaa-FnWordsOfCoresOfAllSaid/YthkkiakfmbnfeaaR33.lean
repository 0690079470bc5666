/-
  Several texts in one.
-/
import Derived.Test.YthkkiakfmbnfeaaR13
import Derived.Test.YthkkiakfmbnfeaaR31
import Derived.Test.YthkkiakfmbnfeaaR15
import Derived.Test.YthkkiakfmbnfeaaR32
/-
  Levels and cores: a partition has the levels of its core, and the levels make the core; what levels make is a core with these levels and as many cells as their form tells. No walk in this text.
-/
namespace Go.Proofs.Ythkkiakfmbnfeaa
open Go.RowKit

theorem core_Good {p : List Int} (G : Good p) {t : Nat} (ht : 2 ≤ t ∧ t ≤ 6) : Good (coreL t p) :=
  (goodB_iff.1 (dw_good ht (goodB_iff.1 (beadsL_goodB G (Nat.le_refl _) (by have := G.len; omega))))).parts
theorem lvL_at {p : List Int} (G : Good p) {t : Nat} (ht : 2 ≤ t ∧ t ≤ 6) : lvL p t = fnRow t fun i => ((rnL t (beadsL p (mulN t 30)) i).length : Int) - (qR t : Nat) := by
  unfold lvL lvK lvN
  refine rowF_ext _ _ _ fun i hi => ?_
  obtain ⟨a, b, c, d⟩ := qR_bd ht
  have hb := mulN_bd (t := t) (n := 30) ht
  have := G.len
  rw [lv_main G (q := qR t) (n := mulN t 30) hi d (by omega) (by omega), rn_cnt]
theorem lv_core {p : List Int} (G : Good p) {t : Nat} (ht : 2 ≤ t ∧ t ≤ 6) : lvL (coreL t p) t = lvL p t := by
  rw [lvL_at (core_Good G ht) ht, lvL_at G ht]
  refine rowF_ext _ _ _ fun i hi => ?_
  have hb := mulN_bd (t := t) (n := 30) ht
  have := G.len
  have e := core_ct G (t := t) (N := mulN t 30) (by omega) (by omega) (by omega) i hi
  unfold ctN at e
  rw [e]
theorem lv_len (p : List Int) (t : Nat) : (lvL p t).length = t := lvK_len _ _ _
theorem kL_core {p : List Int} (G : Good p) {t : Nat} (ht : 2 ≤ t ∧ t ≤ 6) : kL (qR t) (lvL p t) = dwL t (beadsL p (mulN t 30)) := by
  refine pw_ext (kL_pw _ _) (dwL_pw _ _) fun x => ?_
  rw [mem_kL (by rw [lv_len]; omega), lv_len, mem_dwL (by omega)]
  obtain ⟨h1, _⟩ := split_at (t := t) (by omega) x
  rw [lvL_at G ht, fnRow_get _ _ _ h1]
  constructor
  · rintro ⟨a, b⟩; exact ⟨a, by omega⟩
  · rintro ⟨a, b⟩; exact ⟨a, by omega⟩
theorem lv_ge {p : List Int} (G : Good p) {t : Nat} (ht : 2 ≤ t ∧ t ≤ 6) : ∀ i, i < (lvL p t).length → 0 ≤ ((qR t : Nat) : Int) + (lvL p t).getD i 0 := fun i hi => by
  rw [lv_len] at hi
  rw [lvL_at G ht, fnRow_get _ _ _ hi]; omega
theorem cl_lv {p : List Int} (G : Good p) {t : Nat} (ht : 2 ≤ t ∧ t ≤ 6) (hL : levB (lvL p t) = true) : clOk (lvL p t) = true ∧ clF (lvL p t) = coreL t p := by
  have L := levB_iff.1 hL
  obtain ⟨a, b, c, d⟩ := qR_bd ht
  have hb := mulN_bd (t := t) (n := 30) ht
  have hl := G.len
  have hs := kL_sum L (lv_ge G ht)
  have hcg := core_Good G ht
  have hcc := core_cut (p := p) t (by omega)
  have hcs := beads_sumN hcg (n := mulN t 30) (by omega) (by omega)
  rw [core_beads G (by omega) (by omega) (by omega), ← kL_core G ht, hs, lv_len, show t * qR t = mulN t 30 by rw [d, Nat.mul_comm]] at hcs
  have hs30 : sizeL (lvL p t) ≤ 30 := by have := hcg.sum; omega
  have hok : clOk (lvL p t) = true := by unfold clOk; rw [hL, decide_eq_true hs30]; rfl
  refine ⟨hok, ?_⟩
  rw [cl_yes hok, cl_at L hs30 (q := 11) (by omega), ← cl_at L hs30 (q := qR t) a, kL_core G ht, (core_at (by omega) (by omega)).1]
/-- What levels make. -/
theorem lv_cl {xs : List Int} (h : clOk xs = true) : Good (clF xs) ∧ lvL (clF xs) xs.length = xs ∧ (clF xs).sum = sizeL xs ∧ coreL xs.length (clF xs) = clF xs ∧ isCoreF (clF xs) (xs.length : Int) = true ∧ lvOk (clF xs) (xs.length : Int) = true ∧ sizeL xs ≤ 30 := by
  have h' := h
  unfold clOk at h'
  rw [Bool.and_eq_true] at h'
  have hL := h'.1
  have hs : sizeL xs ≤ 30 := of_decide_eq_true h'.2
  have L := levB_iff.1 hL
  obtain ⟨t, et⟩ : ∃ t, t = xs.length := ⟨_, rfl⟩
  have ht : 2 ≤ t ∧ t ≤ 6 := by have := L.lo; have := L.hi; omega
  obtain ⟨a, b, c, d⟩ := qR_bd ht
  have hge : ∀ i, i < xs.length → 0 ≤ ((qR t : Nat) : Int) + xs.getD i 0 := fun i hi => by have := lev_small L hs i hi; omega
  have GB := goodB_iff.1 (kL_good L hs (q := qR t) a (by rw [← et]; exact c))
  have e : clF xs = partsL (kL (qR t) xs) := by rw [cl_yes h, cl_at L hs (q := 11) (by omega), ← cl_at L hs (q := qR t) a]
  have hlen : (kL (qR t) xs).length = mulN t 30 := by
    have := kL_len L hge
    rw [← et, ← Int.natCast_mul] at this
    rw [d, Nat.mul_comm]; omega
  have hb := mulN_bd (t := t) (n := 30) ht
  have hbe : beadsL (clF xs) (mulN t 30) = kL (qR t) xs := by
    have := beadsL_parts GB.rise
    rw [hlen] at this
    rw [e]; exact this
  have G : Good (clF xs) := by rw [e]; exact GB.parts
  have hl := G.len
  have hrn : ∀ i, i < t → (rnL t (kL (qR t) xs) i).length = ((qR t : Int) + xs.getD i 0).toNat := fun i hi => by
    have e2 : rnL t (kL (qR t) xs) i = upTo ((qR t : Int) + xs.getD i 0).toNat := by
      refine pw_ext (rnL_pw (by omega) (kL_pw _ _) i) (upTo_pw _) fun y => ?_
      rw [mem_rn hi, mem_kL (by omega), ← et, mem_upTo]
      have h := lay_div (t := t) (y := y) hi
      rw [h.1, h.2, Int.toNat_natCast]
      have := hge i (by omega)
      constructor
      · rintro ⟨h1, h2⟩
        refine ⟨?_, by omega⟩
        rcases Int.lt_or_le y 0 with h4 | h4
        · have := Int.mul_le_mul_of_nonneg_right (show y ≤ -1 by omega) (show (0 : Int) ≤ t by omega); omega
        · exact h4
      · rintro ⟨h1, h2⟩
        have := Int.mul_nonneg h1 (show (0 : Int) ≤ t by omega)
        exact ⟨by omega, by omega⟩
    rw [e2, upTo_len]
  have hlv : lvL (clF xs) t = xs := by
    rw [lvL_at G ht, hbe]
    have e3 : xs = fnRow t fun i => xs.getD i 0 := list_of et.symm
    conv => rhs; rw [e3]
    refine rowF_ext _ _ _ fun i hi => ?_
    have := hge i (by omega)
    rw [hrn i hi]; omega
  have hdw : dwL t (kL (qR t) xs) = kL (qR t) xs := by
    refine pw_ext (dwL_pw _ _) (kL_pw _ _) fun x => ?_
    obtain ⟨h1, _⟩ := split_at (t := t) (by omega) x
    rw [mem_dwL (by omega), mem_kL (by omega), ← et, hrn _ h1]
    have := hge (x % (t : Int)).toNat (by omega)
    constructor
    · rintro ⟨a, b⟩; exact ⟨a, by omega⟩
    · rintro ⟨a, b⟩; exact ⟨a, by omega⟩
  have hco : coreL t (clF xs) = clF xs := by
    rw [← (core_at (n := mulN t 30) (by omega) (by omega)).1, hbe, hdw, ← e]
  have hcr : crB (clF xs) (t : Int) = true := by
    unfold crB
    rw [(good_iff _).2 G, Bool.true_and]
    exact inB_iff.2 (by omega)
  have hsum : (clF xs).sum = sizeL xs := by
    have h1 := beads_sumN G (n := mulN t 30) (by omega) (by omega)
    have h2 := kL_sum L hge
    rw [hbe, h2, ← et, show t * qR t = mulN t 30 by rw [d, Nat.mul_comm]] at h1
    omega
  have his := core_is hcr (by rw [hco]; exact G)
  rw [hco] at his
  have hlo : lvOk (clF xs) (t : Int) = true := by
    unfold lvOk
    rw [hcr, Int.toNat_natCast, hlv, hL]; rfl
  rw [← et]
  exact ⟨G, hlv, hsum, hco, his, hlo, hs⟩
/-- A partition whose levels are told: its core has them, and they make the core. -/
theorem lac_told {p : List Int} {t : Int} (h : lvOk p t = true) : ∃ T : Nat, t = (T : Int) ∧ (2 ≤ T ∧ T ≤ 6) ∧ Good p ∧ Good (coF p t) ∧ lvOk (coF p t) t = true ∧ lvF (coF p t) t = lvF p t ∧ clOk (lvF p t) = true ∧ clF (lvF p t) = coF p t ∧ crB p t = true := by
  have h' := h
  unfold lvOk at h'
  rw [Bool.and_eq_true] at h'
  have hg := crB_good h'.1
  have G := (good_iff p).1 hg.1
  have hin := inB_iff.1 hg.2
  obtain ⟨T, rfl⟩ : ∃ T : Nat, t = (T : Int) := ⟨t.toNat, by omega⟩
  rw [Int.toNat_natCast] at h'
  have ht : 2 ≤ T ∧ T ≤ 6 := by omega
  have hc : coF p (T : Int) = coreL T p := (co_yes h'.1).1
  have Gc := core_Good G ht
  have hlo : lvOk (coreL T p) (T : Int) = true := by
    unfold lvOk crB
    rw [(good_iff _).2 Gc, hg.2, Int.toNat_natCast, lv_core G ht, h'.2]; rfl
  have h3 := cl_lv G ht h'.2
  rw [hc, lvF_t h, lvF_t hlo, lv_core G ht]
  exact ⟨T, rfl, ht, G, Gc, hlo, rfl, h3.1, h3.2, h'.1⟩
end Go.Proofs.Ythkkiakfmbnfeaa
/-
  The levels of every partition are levels; those of the conjugate are the levels turned; turned and reflected levels undo themselves. No walk in this text.
-/
namespace Go.Proofs.Ythkkiakfmbnfeaa
open Go.RowKit

theorem smr_sumN (f : Nat → Int) : ∀ n, smr n f = sumN f n
  | 0 => rfl
  | n + 1 => by rw [smr_succ, sumN, smr_sumN f n]
theorem lv_sum0 {p : List Int} (G : Good p) {t : Nat} (ht : 2 ≤ t ∧ t ≤ 6) : (lvL p t).sum = 0 := by
  obtain ⟨a, b, c, d⟩ := qR_bd ht
  have e : lvL p t = fnRow t fun i => cnt t (beadsL p (mulN t 30)) i + (-1) * (fun _ => ((qR t : Nat) : Int)) i := by
    rw [lvL_at G ht]
    exact rowF_ext _ _ _ fun i _ => by rw [rn_cnt]; show _ - _ = _ + -1 * ((qR t : Nat) : Int); omega
  have h1 := cnt_all (t := t) (by omega) (beadsL p (mulN t 30))
  rw [beadsL_len] at h1
  have h2 : ∀ n : Nat, smr n (fun _ => ((qR t : Nat) : Int)) = n * (qR t : Nat) := by
    intro n
    induction n with
    | zero => simp [smr]
    | succ n ih => rw [smr_succ, ih, show ((n + 1 : Nat) : Int) = (n : Int) + 1 by omega, Int.add_mul, Int.one_mul]
  have h3 : smr t (cnt t (beadsL p (mulN t 30))) = (mulN t 30 : Nat) := h1
  rw [e]
  show smr t _ = 0
  rw [smr_add, smr_mul, h3, h2, d, show ((qR t * t : Nat) : Int) = (qR t : Nat) * (t : Int) by simp, Int.mul_comm]
  omega
theorem kL_sum0 {q : Nat} {xs : List Int} (h0 : sumN (fun i => xs.getD i 0) xs.length = 0) (h : ∀ i, i < xs.length → 0 ≤ (q : Int) + xs.getD i 0) :
    2 * (kL q xs).sum = sumN (fun i => shr xs.length i (xs.getD i 0)) xs.length + 2 * tri (xs.length * q) := by
  have h2 := tri_sq (xs.length * q)
  unfold kL
  rw [insF_sum, abfL_sum]
  obtain ⟨t, ht⟩ : ∃ t, t = xs.length := ⟨_, rfl⟩
  rw [← ht] at h0 h2 h ⊢
  have e : ∀ i, i < t → 2 * ((t : Int) * (fillR q xs i).sum + i * (fillR q xs i).length) = shr t i (xs.getD i 0) + (2 * (t : Int) * q - 1) * xs.getD i 0 + (t * (q * q - q) + 2 * i * q) := by
    intro i hi
    have := h i hi
    obtain ⟨n, hn⟩ : ∃ n : Nat, (n : Int) = (q : Int) + xs.getD i 0 := ⟨((q : Int) + xs.getD i 0).toNat, by omega⟩
    have h3 := tri_sq n
    have e1 : (fillR q xs i) = upTo n := by unfold fillR; rw [← hn]; simp
    rw [e1, upTo_sum, upTo_len]
    have e2 : xs.getD i 0 = (n : Int) - q := by omega
    rw [e2]; unfold shr; grind
  have key : ∀ n, n ≤ t → 2 * sumN (fun i => (t : Int) * (fillR q xs i).sum + i * (fillR q xs i).length) n = sumN (fun i => shr t i (xs.getD i 0)) n + (2 * (t : Int) * q - 1) * sumN (fun i => xs.getD i 0) n + ((n : Int) * (t * (q * q - q)) + (n * n - n) * q) := by
    intro n
    induction n with
    | zero => intro _; simp [sumN]
    | succ n ih =>
      intro hn
      have a := ih (by omega)
      have b := e n (by omega)
      simp only [sumN]
      rw [show ((n + 1 : Nat) : Int) = (n : Int) + 1 by omega]
      grind
  have := key t (Nat.le_refl _)
  rw [h0] at this
  rw [show ((t * q : Nat) : Int) = (t : Int) * q by simp] at h2
  grind
/-- The levels of a partition are levels. -/
theorem lev_all {p : List Int} (G : Good p) {t : Nat} (ht : 2 ≤ t ∧ t ≤ 6) : levB (lvL p t) = true := by
  have hs := lv_sum0 G ht
  have h0 : sumN (fun i => (lvL p t).getD i 0) (lvL p t).length = 0 := by
    have := sum_of (lvL p t) _ (Nat.le_refl _)
    rw [List.take_length, hs] at this
    exact this.symm
  have h1 := kL_sum0 h0 (lv_ge G ht)
  obtain ⟨a, b, c, d⟩ := qR_bd ht
  have hb := mulN_bd (t := t) (n := 30) ht
  have hl := G.len
  have hcg := core_Good G ht
  have hcc := core_cut (p := p) t (by omega)
  have hcs := beads_sumN hcg (n := mulN t 30) (by omega) (by omega)
  rw [core_beads G (by omega) (by omega) (by omega), ← kL_core G ht] at hcs
  rw [hcs, lv_len, show t * qR t = mulN t 30 by rw [d, Nat.mul_comm]] at h1
  have hcm := hcg.sum
  rw [levB_iff]
  refine ⟨by rw [lv_len]; omega, by rw [lv_len]; omega, fun i hi => ?_, hs⟩
  rw [lv_len] at hi
  have h2 := sumN_one_le (f := fun i => shr t i ((lvL p t).getD i 0)) t (fun j hj => (shr_ge ht hj _).1) i hi
  have h3 := (shr_ge ht hi ((lvL p t).getD i 0)).2
  have h4 : shr t i ((lvL p t).getD i 0) ≤ 60 := by omega
  omega
theorem lv_ok {p : List Int} {t : Int} (h : crB p t = true) : lvOk p t = true := by
  have hg := crB_good h
  have hin := inB_iff.1 hg.2
  unfold lvOk
  rw [h, lev_all ((good_iff p).1 hg.1) (by omega)]; rfl
/-- Sums over the cells, by rows and by columns. -/
def cel (p : List Int) (r c : Nat) : Prop := r < p.length ∧ (c : Int) < p.getD r 0
instance (p : List Int) (r c : Nat) : Decidable (cel p r c) := by unfold cel; infer_instance
theorem smr_top {f : Nat → Int} {k M : Nat} (hk : k ≤ M) (h : ∀ r, k ≤ r → f r = 0) : smr M f = smr k f := by
  obtain ⟨d, rfl⟩ : ∃ d, M = k + d := ⟨M - k, by omega⟩
  exact smr_cut d h
theorem smr_zeros : ∀ n : Nat, smr n (fun _ => 0) = 0
  | 0 => rfl
  | n + 1 => by rw [smr_succ, smr_zeros n]; rfl
theorem dbl_rect {p : List Int} (G : Good p) (g : Nat → Nat → Int) : dbl p g = smr 30 fun r => smr 30 fun c => if cel p r c then g r c else 0 := by
  unfold dbl
  rw [smr_top (k := p.length) G.len fun r hr => by
    rw [smr_congr 30 (g := fun _ => 0) fun c _ => if_neg fun h => by unfold cel at h; omega, smr_zeros]]
  refine smr_congr _ fun r hr => ?_
  have h1 := G.pos r hr
  have h2 := G.le r hr
  rw [smr_top (k := (p.getD r 0).toNat) (by omega) fun c hc => if_neg fun h => by unfold cel at h; omega]
  exact smr_congr _ fun c hc => (if_pos (by unfold cel; omega)).symm
theorem smr_swap (g : Nat → Nat → Int) (m : Nat) : ∀ n : Nat, smr n (fun r => smr m fun c => g r c) = smr m fun c => smr n fun r => g r c
  | 0 => (smr_zeros m).symm
  | n + 1 => by
    rw [smr_succ, smr_swap g m n, ← smr_add]
    exact smr_congr _ fun c _ => (smr_succ _ _).symm
theorem cel_dual {p : List Int} (G : Good p) (r c : Nat) : cel (cols p) c r ↔ cel p r c := by
  unfold cel
  rw [cols_len]
  constructor
  · rintro ⟨h1, h2⟩
    rw [cols_get p c h1] at h2
    have hr : r < p.length := by have := (colH_bound p c).2; omega
    exact ⟨hr, (dual G hr c).2 h2⟩
  · rintro ⟨h1, h2⟩
    have := anti_d G (Nat.zero_le r) h1
    have h3 : c < (p.getD 0 0).toNat := by omega
    exact ⟨h3, by rw [cols_get p c h3]; exact (dual G h1 c).1 h2⟩
theorem dbl_cols {p : List Int} (G : Good p) (g : Nat → Nat → Int) : dbl (cols p) (fun c r => g r c) = dbl p g := by
  rw [dbl_rect (cols_good G), dbl_rect G, smr_swap]
  refine smr_congr _ fun r _ => smr_congr _ fun c _ => ?_
  by_cases h : cel p r c
  · rw [if_pos h, if_pos ((cel_dual G r c).2 h)]
  · rw [if_neg h, if_neg fun h' => h ((cel_dual G r c).1 h')]
theorem cnt_dbl (t i : Nat) (p : List Int) : cnt t (contL p p.length) i = dbl p fun r c => indP (contN r c % (t : Int) = i) := by
  have key : ∀ k : Nat, cnt t (contL p k) i = smr k fun r => smr (p.getD r 0).toNat fun c => indP (contN r c % (t : Int) = i) := by
    intro k
    induction k with
    | zero => rfl
    | succ k ih =>
      rw [contL_succ, cnt_app, ih, smr_succ]
      congr 1
      show cnt t (fnRow _ _) i = _
      rw [cnt_fn]
  exact key _
theorem neg_mod {t i j : Nat} (ht : 0 < t) (hi : i < t) (hj : j < t) (hij : (i + j) % t = 0) (x : Int) : (-x) % (t : Int) = i ↔ x % (t : Int) = j := by
  have h1 := Int.emod_nonneg x (show (t : Int) ≠ 0 by omega)
  have h2 := Int.emod_lt_of_pos x (show 0 < (t : Int) by omega)
  have h3 := Int.emod_nonneg (-x) (show (t : Int) ≠ 0 by omega)
  have h4 := Int.emod_lt_of_pos (-x) (show 0 < (t : Int) by omega)
  have h5 := Int.mul_ediv_add_emod x t
  have h6 := Int.mul_ediv_add_emod (-x) t
  have h7 : i + j = 0 ∨ i + j = t := by
    rcases Nat.lt_or_ge (i + j) t with h | h
    · rw [Nat.mod_eq_of_lt h] at hij; exact .inl hij
    · right
      have : (i + j - t) % t = 0 := by rw [← Nat.mod_eq_sub_mod h]; exact hij
      rw [Nat.mod_eq_of_lt (by omega)] at this; omega
  obtain ⟨a, ha⟩ : ∃ a, a = x / (t : Int) := ⟨_, rfl⟩
  obtain ⟨b, hb⟩ : ∃ b, b = (-x) / (t : Int) := ⟨_, rfl⟩
  rw [← ha] at h5
  rw [← hb] at h6
  have h8 : (t : Int) * (a + b) = -((x % (t : Int)) + ((-x) % (t : Int))) := by rw [Int.mul_add]; omega
  have h9 : a + b = 0 ∨ a + b = -1 := by
    rcases Int.lt_trichotomy (a + b) 0 with h | h | h
    · rcases Int.lt_or_le (a + b) (-1) with h' | h'
      · have := Int.mul_le_mul_of_nonneg_left (show a + b ≤ -2 by omega) (show (0 : Int) ≤ t by omega); omega
      · exact .inr (by omega)
    · exact .inl h
    · have := Int.mul_le_mul_of_nonneg_left (show 1 ≤ a + b by omega) (show (0 : Int) ≤ t by omega); omega
  rcases h9 with h9 | h9
  · rw [h9] at h8; omega
  · rw [h9] at h8; omega
theorem cnt_conj {p : List Int} (G : Good p) {t i j : Nat} (ht : 0 < t) (hi : i < t) (hj : j < t) (hij : (i + j) % t = 0) : cnt t (contL (cols p) (cols p).length) i = cnt t (contL p p.length) j := by
  rw [cnt_dbl, cnt_dbl, ← dbl_cols G]
  refine dbl_congr fun c r _ _ => ?_
  refine indP_iff ?_
  rw [show contN c r = -contN r c by unfold contN; omega]
  exact neg_mod ht hi hj hij _
/-- The levels of the conjugate are the levels turned. -/
theorem lv_conj {p : List Int} (G : Good p) {t : Nat} (ht : 2 ≤ t ∧ t ≤ 6) : lvL (cols p) t = turnL (lvL p t) := by
  unfold turnL
  rw [lv_diff (cols_good G) ht, lv_len]
  refine rowF_ext _ _ _ fun i hi => ?_
  rw [lv_diff G ht, fnRow_get _ _ _ (by omega)]
  have h2 : (t - 1 - i + 1) % t = (t - i) % t := by rw [show t - 1 - i + 1 = t - i by omega]
  have h3 : (t - i) % t < t := Nat.mod_lt _ (by omega)
  have e1 := cnt_conj G (t := t) (i := i) (j := (t - i) % t) (by omega) hi h3 (by rw [Nat.add_mod, Nat.mod_mod, ← Nat.add_mod, show i + (t - i) = t by omega, Nat.mod_self])
  have h4 : (i + 1) % t < t := Nat.mod_lt _ (by omega)
  have e2 := cnt_conj G (t := t) (i := (i + 1) % t) (j := t - 1 - i) (by omega) h4 (by omega) (by rw [Nat.add_mod, Nat.mod_mod, ← Nat.add_mod, show i + 1 + (t - 1 - i) = t by omega, Nat.mod_self])
  rw [h2, e1, e2]; omega
theorem turn_turn {xs : List Int} : turnL (turnL xs) = xs := by
  have h := list_of (xs := xs) rfl
  conv => rhs; rw [h]
  unfold turnL
  rw [fnRow_len]
  refine rowF_ext _ _ _ fun i hi => ?_
  rw [fnRow_get _ _ _ (by omega), show xs.length - 1 - (xs.length - 1 - i) = i by omega, Int.neg_neg]
theorem turn_lev {xs : List Int} (L : Lev xs) : levB (turnL xs) = true := by
  rw [levB_iff]
  refine ⟨by rw [turnL_len]; exact L.lo, by rw [turnL_len]; exact L.hi, fun j hj => ?_, ?_⟩
  · rw [turnL_len] at hj
    have := L.bd (xs.length - 1 - j) (by omega)
    unfold turnL
    rw [fnRow_get _ _ _ hj]; omega
  · have h1 : (turnL xs).sum = smr xs.length fun m => (-1) * (fun j => xs.getD (xs.length - 1 - j) 0) m := by
      show smr xs.length (fun m => -xs.getD (xs.length - 1 - m) 0) = _
      exact smr_congr _ fun m _ => by show -xs.getD (xs.length - 1 - m) 0 = -1 * xs.getD (xs.length - 1 - m) 0; omega
    rw [h1, smr_mul, smr_rev (fun j => xs.getD j 0), smr_sumN, lev_sumN L]; rfl
theorem getD_set_e (xs : List Int) {i : Nat} (v : Int) (h : i < xs.length) : (xs.set i v).getD i 0 = v := by simp [List.getD, h]
theorem getD_set_n (xs : List Int) {i j : Nat} (v : Int) (h : i ≠ j) : (xs.set i v).getD j 0 = xs.getD j 0 := by simp [List.getD, List.getElem?_set_ne h]
/-- What a reflection makes of the levels, one by one. -/
theorem refl_get {xs : List Int} (hl : 2 ≤ xs.length) {i : Nat} (hi : i < xs.length) (j : Nat) : (reflL xs i).getD j 0 =
    if i = 0 then (if j = 0 then xs.getD (xs.length - 1) 0 + 1 else if j = xs.length - 1 then xs.getD 0 0 - 1 else xs.getD j 0)
    else (if j = i - 1 then xs.getD i 0 else if j = i then xs.getD (i - 1) 0 else xs.getD j 0) := by
  unfold reflL
  by_cases h0 : i = 0
  · rw [if_pos h0, if_pos h0]
    by_cases h1 : j = xs.length - 1
    · subst h1
      rw [getD_set_e _ _ (by rw [List.length_set]; omega), if_neg (by omega), if_pos rfl]
    · rw [getD_set_n _ _ (fun h => h1 h.symm)]
      by_cases h2 : j = 0
      · subst h2; rw [getD_set_e _ _ (by omega), if_pos rfl]
      · rw [getD_set_n _ _ (fun h => h2 h.symm), if_neg h2, if_neg h1]
  · rw [if_neg h0, if_neg h0]
    by_cases h1 : j = i
    · subst h1
      rw [getD_set_e _ _ (by rw [List.length_set]; omega), if_neg (by omega), if_pos rfl]
    · rw [getD_set_n _ _ (fun h => h1 h.symm)]
      by_cases h2 : j = i - 1
      · subst h2; rw [getD_set_e _ _ (by omega), if_pos rfl]
      · rw [getD_set_n _ _ (fun h => h2 h.symm), if_neg h2, if_neg h1]
theorem ext_get {a b : List Int} (h : a.length = b.length) (he : ∀ j, j < a.length → a.getD j 0 = b.getD j 0) : a = b := by
  apply List.ext_getElem h
  intro i h1 h2
  have := he i h1
  simpa [List.getD, h1, h2] using this
theorem refl_refl {xs : List Int} (hl : 2 ≤ xs.length) {i : Nat} (hi : i < xs.length) : reflL (reflL xs i) i = xs := by
  have hl2 : (reflL xs i).length = xs.length := reflL_len _ _
  refine ext_get (by rw [reflL_len, reflL_len]) fun j hj => ?_
  rw [reflL_len, reflL_len] at hj
  rw [refl_get (by omega) (by omega), hl2]
  have g := fun k => refl_get hl hi k
  by_cases h0 : i = 0
  · rw [if_pos h0]
    simp only [if_pos h0] at g
    by_cases h1 : j = 0
    · rw [if_pos h1, g, if_neg (by omega), if_pos rfl, h1]; omega
    · rw [if_neg h1]
      by_cases h2 : j = xs.length - 1
      · rw [if_pos h2, g, if_pos rfl, h2]; omega
      · rw [if_neg h2, g, if_neg h1, if_neg h2]
  · rw [if_neg h0]
    simp only [if_neg h0] at g
    by_cases h1 : j = i - 1
    · rw [if_pos h1, g, if_neg (by omega), if_pos rfl, h1]
    · rw [if_neg h1]
      by_cases h2 : j = i
      · rw [if_pos h2, g, if_pos rfl, h2]
      · rw [if_neg h2, g, if_neg h1, if_neg h2]
end Go.Proofs.Ythkkiakfmbnfeaa
