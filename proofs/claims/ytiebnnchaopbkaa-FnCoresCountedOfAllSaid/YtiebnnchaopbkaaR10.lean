/-
  Several texts in one.
-/
import Derived.Test.YtiebnnchaopbkaaCB
import Derived.Test.YtiebnnchaopbkaaCC
import Derived.Test.YtiebnnchaopbkaaR07
import Derived.Test.YtiebnnchaopbkaaR09
import Derived.Test.YtiebnnchaopbkaaR04
import Derived.Test.YtiebnnchaopbkaaR02
import Derived.Test.YtiebnnchaopbkaaR06
/-
  Contracts: the abacus by which quotients are told, of the program and of the model.
-/
namespace Go.Proofs.Ytiebnnchaopbkaa
open Go.RowKit

def mulN (t n : Nat) : Nat := (n + t - 1) / t * t
theorem mulN_bd {t n : Nat} (ht : 2 ≤ t ∧ t ≤ 6) : n ≤ mulN t n ∧ mulN t n ≤ n + 5 := by
  unfold mulN
  have h1 := Nat.div_add_mod (n + t - 1) t
  have h2 := Nat.mod_lt (n + t - 1) (show 0 < t by omega)
  rw [Nat.mul_comm] at h1
  omega
theorem mulN_dvd (t n : Nat) : mulN t n % t = 0 := by unfold mulN; exact Nat.mul_mod_left _ _
def evN (xs : List Int) (t : Int) : Nat := mulN t.toNat xs.length
def evR (xs : List Int) (t : Int) : Int := if crB xs t then t else 0
def evF (xs : List Int) (t : Int) : List Int := if crB xs t then beadsL xs (evN xs t) else []
theorem ev_bd {xs : List Int} {t : Int} (ht : inB 2 6 t = true) : xs.length ≤ evN xs t ∧ evN xs t ≤ xs.length + 5 := by
  have := inB_iff.1 ht
  exact mulN_bd (t := t.toNat) (n := xs.length) (by omega)
theorem ev_ok {xs : List Int} {t : Int} (ht : inB 2 6 t = true) : abaOk xs t (evN xs t) = crB xs t := by
  have hb := ev_bd (xs := xs) ht
  unfold abaOk beadsOk crB
  cases hg : good xs
  · simp
  · have hl := ((good_iff xs).1 hg).len
    have : inB xs.length 40 (evN xs t) = true := inB_iff.2 (by omega)
    simp [this, ht]
theorem ev_R {xs : List Int} {t : Int} (ht : inB 2 6 t = true) : abaR xs t (evN xs t) = evR xs t := by unfold abaR evR; rw [ev_ok ht]
theorem ev_F {xs : List Int} {t : Int} (ht : inB 2 6 t = true) : abaF xs t (evN xs t) = evF xs t := by
  have hb := ev_bd (xs := xs) ht
  unfold abaF evF; rw [ev_ok ht]
  cases hc : crB xs t
  · rfl
  · have hg := (crB_good hc).1
    have hl := ((good_iff xs).1 hg).len
    rw [if_pos rfl, if_pos rfl]
    unfold beadsF
    rw [if_pos ⟨hg, by omega, by omega⟩]; simp

set_option maxHeartbeats 1000000 in
theorem multipleFrom_any (t n : Nat) (ht : 2 ≤ t ∧ t ≤ 6) (hn : n ≤ 1048576) (w : World) :
    Calls Try.prog 38 #[.int .i64 t, .int .i64 n] w fun e w' => e = .returned (.int .i64 (mulN t n)) ∧ w = w' := by
  have hb := mulN_bd (n := n) ht
  have hm : (n : Int) + t - 1 = ((n + t - 1 : Nat) : Int) := by omega
  have hne : ¬ (t : Int) = 0 := by omega
  obtain ⟨m, hme⟩ : ∃ m, m = n + t - 1 := ⟨_, rfl⟩
  have hz : mulN t n = m / t * t := by rw [hme]; rfl
  have hmn : m ≤ 1048600 := by omega
  rw [← hme] at hm
  have hq : m / t ≤ m := Nat.div_le_self _ _
  have htd : Int.tdiv (m : Int) (t : Int) = ((m / t : Nat) : Int) := by rfl
  obtain ⟨q, hqe⟩ : ∃ q, q = m / t := ⟨_, rfl⟩
  rw [← hqe] at htd hq hz
  rw [hz] at hb
  obtain ⟨z, hze⟩ : ∃ z, z = q * t := ⟨_, rfl⟩
  have hqt : (q : Int) * (t : Int) = (z : Int) := by rw [hze]; rfl
  rw [← hze] at hz hb
  have HZ := hid hz
  clear hme hqe hze hz
  go_enter Try.func38, Try.ntmps38
  go_wp2_with fail
  go_ret
  exact ⟨ret_int (by rw [HZ.out]), rfl⟩

set_option maxHeartbeats 1000000 in
theorem evenAbacus_any (A : Option Addr) (c : Nat) (xs : List Int) (t : Int) (w : World) (hl : xs.length ≤ 1048576) (hc : Cells w A xs) (h64 : I64 t) :
    Calls Try.prog 30 #[.slice A xs.length c, .int .i64 t] w fun e w' => ∃ A' c', e = .returned (.tuple #[.agg #[.int .i64 (evR xs t), .slice A' (evF xs t).length c'], .bool (crB xs t)]) ∧ Own w' w.heap.size A' c' (evF xs t) ∧ Below w.heap.size w w' := by
  have y0 := Box2.new w 49 (.int .i64 0) (.slice none 0 0)
  have b0 : Below w.heap.size w (w.alloc (.cells #[.int .i64 0, .slice none 0 0] 49)) := (Below.refl _ _).alloc (Nat.le_refl _) _
  have z0 := b0.size
  cases ht : inB 2 6 t
  · have e0 : crB xs t = false := by simp [crB, ht]
    have e2 : evR xs t = 0 := by simp [evR, e0]
    have e3 : evF xs t = [] := by simp [evF, e0]
    rw [e0, e2, e3]; clear e0 e2 e3
    have HT := hid ht; clear ht
    go_enter Try.func30, Try.ntmps30
    go_wp2_with (go_at_call 26; refine (hasRunners_b _ _ _ HT.out).mono ?_; rintro e w' ⟨rfl, rfl⟩)
    refine bodyPost_ret (results_cell2 rfl _ _ _ w.heap.size 49 #[.int .i64 0, .slice none 0 0] (0, 0) _ rfl (by first | exact y0 | exact (y0.set0 _).set1 _) Try.underlying49 rfl (by kernel_rfl)) rfl ⟨none, 0, rfl, own_nil _ _, by first | exact b0 | exact (b0.setCell (Nat.le_refl _) _).setCell (Nat.le_refl _) _⟩
  · have hb := inB_iff.1 ht
    have HA := hid fun W (h : Cells W A xs) => impl_AbacusOf A c xs t (evN xs t) W hl h h64 (by have := ev_bd (xs := xs) ht; unfold I64; omega)
    rw [ev_ok ht, ev_R ht, ev_F ht] at HA
    obtain ⟨m, rfl⟩ : ∃ m : Nat, t = m := ⟨t.toNat, by omega⟩
    have HM := hid fun W => multipleFrom_any m xs.length (by omega) hl W
    have HN := hid (show mulN m xs.length = evN xs m by simp [evN])
    obtain ⟨n, hn⟩ : ∃ n, n = evN xs m := ⟨_, rfl⟩
    rw [HN.out, ← hn] at HM
    rw [← hn] at HA
    have HT := hid ht; clear ht hn HN
    go_enter Try.func30, Try.ntmps30
    go_wp2_with (first | (go_at_call 26; refine (hasRunners_b _ _ _ HT.out).mono ?_; rintro e w' ⟨rfl, rfl⟩) | (go_at_call 38; refine (HM.out _).mono ?_; rintro e w' ⟨rfl, rfl⟩) | (go_at_call 53; refine (HA.out _ (hc.below b0)).mono ?_; rintro e w1 ⟨A1, c1, rfl, o1, b1⟩; have y1 := y0.next b1; have f1 := y1.cell0; have f2 := y1.froz 0; have y2 := y1.set0 (.int .i64 (evR xs m)); have f3 := y2.cell1; have f4 := y2.froz 1; have y3 := y2.set1 (.slice A1 (evF xs m).length c1); have hok := o1.block; clear y1 y2))
    refine bodyPost_ret (results_cell2 rfl _ _ _ w.heap.size 49 #[.int .i64 (evR xs m), .slice A1 (evF xs m).length c1] (0, 0) _ rfl y3 Try.underlying49 rfl (by kernel_rfl)) rfl ⟨A1, c1, rfl, (o1.keep fun b hbk _ => ?_).more (by simp), ((Below.next b0 b1).setCell (Nat.le_refl _) _).setCell (Nat.le_refl _) _⟩
    have := (hok b hbk).1
    simp at this
    exact (Below.heap_setCell _ _ _ b (by simp; omega)).trans (Below.heap_setCell _ _ _ b (by simp; omega))

end Go.Proofs.Ytiebnnchaopbkaa
/-
  Contracts: LevelsOf of the model.
-/
namespace Go.Proofs.Ytiebnnchaopbkaa
open Go.RowKit

theorem Sg_bd {f : Int → Int} (h : ∀ x, -1 ≤ f x ∧ f x ≤ 1) : ∀ (m : Nat) (a : Int), -(m : Int) ≤ Sg f a m ∧ Sg f a m ≤ m
  | 0, _ => by simp [Sg]
  | m + 1, a => by have := h a; have := Sg_bd h m (a + 1); rw [Sg]; omega
theorem eV_bd (p : List Int) (t i : Nat) (x : Int) : -1 ≤ eV p t i x ∧ eV p t i x ≤ 1 := by
  unfold eV; split
  · split <;> split <;> omega
  · omega
def lvK (xs : List Int) (t k : Nat) : List Int := fnRow t fun i => Sg (eV xs t i) (-(xs.length : Int) - 1) k
def lvN (xs : List Int) : Nat := xs.length + 1 + (xs.getD 0 0).toNat
def lvL (xs : List Int) (t : Nat) : List Int := lvK xs t (lvN xs)
theorem lvK_len (xs : List Int) (t k : Nat) : (lvK xs t k).length = t := fnRow_len _ _
theorem lvK_zero (xs : List Int) (t : Nat) : lvK xs t 0 = fnRow t (fun _ => 0) := rowF_ext _ _ _ fun _ _ => rfl
theorem lvK_succ {xs : List Int} {t k m : Nat} {x : Int} (hx : x = -(xs.length : Int) - 1 + k) (hm : x % (t : Int) = m) (hmt : m < t) :
    (lvK xs t k).set m ((lvK xs t k).getD m 0 + ((if bdB xs x = true then 1 else 0) - (if x < 0 then 1 else 0))) = lvK xs t (k + 1) := by
  unfold lvK
  rw [fnRow_get _ _ _ hmt, fnRow_set]
  refine rowF_ext _ _ _ fun j _ => ?_
  rw [Sg_snoc, ← hx]
  by_cases e : j = m
  · subst e
    rw [if_pos rfl]
    congr 1
    unfold eV; rw [if_pos hm]
  · rw [if_neg e]
    unfold eV; rw [hm, if_neg (by omega)]; omega
theorem lvK_same {xs : List Int} {t k m : Nat} {x : Int} (hx : x = -(xs.length : Int) - 1 + k) (hm : x % (t : Int) = m) (hmt : m < t)
    (h : ((if bdB xs x = true then 1 else 0) - (if x < 0 then 1 else 0) : Int) = 0) : lvK xs t k = lvK xs t (k + 1) := by
  rw [← lvK_succ hx hm hmt, h, Int.add_zero]
  apply List.ext_getElem
  · simp
  · intro j h1 h2
    rw [List.getElem_set]
    split
    · rename_i e; subst e; simp [List.getD, h1]
    · rfl
theorem lvK_bd (xs : List Int) (t k m : Nat) (h : m < t) : -(k : Int) ≤ (lvK xs t k).getD m 0 ∧ (lvK xs t k).getD m 0 ≤ k := by
  unfold lvK; rw [fnRow_get _ _ _ h]; exact Sg_bd (eV_bd xs t m) k _
def lvOk (xs : List Int) (t : Int) : Bool := crB xs t && levB (lvL xs t.toNat)
def lvF (xs : List Int) (t : Int) : List Int := if lvOk xs t then lvL xs t.toNat else []
theorem lvF_f {xs : List Int} {t : Int} (h : lvOk xs t = false) : lvF xs t = [] := by simp [lvF, h]
theorem lvF_t {xs : List Int} {t : Nat} (h : lvOk xs t = true) : lvF xs t = lvL xs t := by simp [lvF, h]
theorem lvOk_cr {xs : List Int} {t : Int} (h : crB xs t = false) : lvOk xs t = false := by simp [lvOk, h]
theorem lvOk_lev {xs : List Int} {t : Nat} (h : crB xs t = true) : lvOk xs t = levB (lvL xs t) := by simp [lvOk, h]
theorem bound_LevelsOf (xs : List Int) (t : Int) : (lvF xs t).length ≤ 1048576 := by
  unfold lvF; split
  · rename_i h
    simp only [lvOk, Bool.and_eq_true] at h
    have := inB_iff.1 (crB_good h.1).2
    unfold lvL; rw [lvK_len]; omega
  · simp

end Go.Proofs.Ytiebnnchaopbkaa
/-
  The numbers of cells of the residues tell the levels. No walk in this text.
-/
namespace Go.Proofs.Ytiebnnchaopbkaa
open Go.RowKit

theorem cnt_beads (p : List Int) {t N : Nat} (_ht : 0 < t) (hN : N % t = 0) (i : Nat) : cnt t (beadsL p N) i = smr N fun r => indP ((num p r) % (t : Int) = i) := by
  rw [← smr_rev (fun r => indP ((num p r) % (t : Int) = i))]
  unfold beadsL
  rw [cnt_fn]
  refine smr_congr _ fun j hj => ?_
  have hq : N = t * (N / t) := by have := Nat.div_add_mod N t; omega
  have e : bead p N j % (t : Int) = num p (N - 1 - j) % (t : Int) := by
    unfold bead num
    rw [show (j : Int) + p.getD (N - 1 - j) 0 = (p.getD (N - 1 - j) 0 - ((N - 1 - j : Nat) : Int) - 1) + (t : Int) * ((N / t : Nat) : Int) by
      have : (t : Int) * ((N / t : Nat) : Int) = (N : Int) := by rw [← Int.natCast_mul, ← hq]
      omega, Int.add_mul_emod_self_left]
  rw [e]
theorem rn_cnt (t : Nat) (L : List Int) (i : Nat) : ((rnL t L i).length : Int) = cnt t L i := by simp [rnL, cnt]
theorem goodNilL : Good [] := (good_iff []).1 (by decide)
theorem lv_diff {p : List Int} (G : Good p) {t : Nat} (ht : 2 ≤ t ∧ t ≤ 6) : lvL p t = fnRow t fun i => cnt t (contL p p.length) i - cnt t (contL p p.length) ((i + 1) % t) := by
  unfold lvL lvK lvN
  refine rowF_ext _ _ _ fun i hi => ?_
  have hb := mulN_bd (t := t) (n := 30) ht
  have hl := G.len
  have hq : mulN t 30 = ((30 + t - 1) / t) * t := rfl
  obtain ⟨q, hq2⟩ : ∃ q, q = (30 + t - 1) / t := ⟨_, rfl⟩
  rw [← hq2] at hq
  have e1 := lv_main G (t := t) (q := q) (n := mulN t 30) hi hq (by omega) (by omega)
  have e2 := lv_main goodNilL (t := t) (q := q) (n := mulN t 30) hi hq (by simp) (by omega)
  have e3 : Sg (eV [] t i) (-(([] : List Int).length : Int) - 1) (([] : List Int).length + 1 + (([] : List Int).getD 0 0).toNat) = 0 := by
    show eV [] t i (-1) + 0 = 0
    rw [eV_low (by simp)]; rfl
  rw [e3] at e2
  rw [e1, cnt_cont G (by omega) hi _ (Nat.le_refl _)]
  have c1 := cnt_beads p (N := mulN t 30) (t := t) (by omega) (mulN_dvd t 30) i
  have c2 := cnt_beads [] (N := mulN t 30) (t := t) (by omega) (mulN_dvd t 30) i
  have c3 : smr (mulN t 30) (fun r => indP ((num p r) % (t : Int) = i)) = smr (mulN t 30) (lvS p t i) + smr (mulN t 30) fun r => indP ((num [] r) % (t : Int) = i) := by
    rw [← smr_add]
    refine smr_congr _ fun r _ => ?_
    unfold lvS
    rw [num_out (p := []) (r := r) (by simp)]; omega
  have c4 : smr (mulN t 30) (lvS p t i) = smr p.length (lvS p t i) := by
    obtain ⟨d, hd⟩ : ∃ d, mulN t 30 = p.length + d := ⟨mulN t 30 - p.length, by omega⟩
    rw [hd]
    refine smr_cut d fun r hr => ?_
    unfold lvS
    rw [num_out hr]; omega
  omega
theorem cont_len {p : List Int} (G : Good p) : ∀ k, k ≤ p.length → ((contL p k).length : Int) = (p.take k).sum
  | 0, _ => by simp [contL, rowsF]
  | k + 1, hk => by
    have ih := cont_len G k (by omega)
    have := G.pos k (by omega)
    have e : (p.take (k + 1)).sum = (p.take k).sum + p.getD k 0 := by
      rw [takeSnocL p k (by omega), List.sum_append]; simp
    rw [contL_succ, List.length_append, rowF_len, e]
    omega
where
  takeSnocL (ys : List Int) (k : Nat) (h : k < ys.length) : ys.take (k + 1) = ys.take k ++ [ys.getD k 0] := take_snoc ys k h _ rfl
theorem cnt_all {t : Nat} (ht : 0 < t) (L : List Int) : (cntL t L).sum = L.length := by
  have key : ∀ L : List Int, smr t (cnt t L) = L.length := by
    intro L
    induction L with
    | nil =>
      have : ∀ n : Nat, smr n (cnt t []) = 0 := by
        intro n
        induction n with
        | zero => rfl
        | succ n ih => rw [smr_succ, ih]; simp [cnt]
      rw [this]; rfl
    | cons x L ih =>
      have h1 := Int.emod_nonneg x (show (t : Int) ≠ 0 by omega)
      have h2 := Int.emod_lt_of_pos x (show 0 < (t : Int) by omega)
      obtain ⟨m, hm⟩ : ∃ m : Nat, x % (t : Int) = (m : Int) := ⟨(x % (t : Int)).toNat, by omega⟩
      have e : smr t (cnt t (x :: L)) = smr t (fun j => indP (j = m)) + smr t (cnt t L) := by
        rw [← smr_add]
        refine smr_congr _ fun j _ => ?_
        rw [show x :: L = [x] ++ L from rfl, cnt_app]
        congr 1
        unfold cnt indP
        by_cases h : j = m
        · subst h; simp [hm]
        · rw [if_neg h]
          have : ¬ x % (t : Int) = (j : Int) := by rw [hm]; omega
          simp [this]
      have one : ∀ n : Nat, smr n (fun j => indP (j = m)) = if m < n then 1 else 0 := by
        intro n
        induction n with
        | zero => rfl
        | succ n ih =>
          rw [smr_succ, ih]
          unfold indP
          split <;> split <;> split <;> omega
      rw [e, ih, one, if_pos (by omega), List.length_cons]
      omega
  exact key L
/-- The numbers of cells tell the levels, and are as many as the cells. -/
theorem res_facts {p : List Int} {t : Nat} (h : lvOk p (t : Int) = true) : resB p (t : Int) = true ∧ fromB (resF p (t : Int)) = true ∧ fromCF (resF p (t : Int)) = lvF p (t : Int) ∧ (resF p (t : Int)).sum = p.sum ∧
    (resF p (t : Int)).length = t ∧ ∀ j, j < t → 0 ≤ (resF p (t : Int)).getD j 0 ∧ (resF p (t : Int)).getD j 0 ≤ 30 := by
  have h' := h
  unfold lvOk at h'
  rw [Bool.and_eq_true, Int.toNat_natCast] at h'
  have hr : resB p (t : Int) = true := h'.1
  have hg := crB_good h'.1
  have G := (good_iff p).1 hg.1
  have hin := inB_iff.1 hg.2
  have ht : 2 ≤ t ∧ t ≤ 6 := by omega
  have e := resF_t hr
  have hlen : (resF p (t : Int)).length = t := by rw [e, cntL_len]
  have hcl := cont_len G p.length (Nat.le_refl _)
  rw [List.take_length] at hcl
  have hb : ∀ j, j < t → 0 ≤ (resF p (t : Int)).getD j 0 ∧ (resF p (t : Int)).getD j 0 ≤ 30 := fun j hj => by
    rw [e]
    unfold cntL
    rw [fnRow_get _ _ _ hj]
    have := cnt_bd t (contL p p.length) j
    have := G.sum
    omega
  have hd : diffL (resF p (t : Int)) = lvL p t := by
    rw [lv_diff G ht]
    unfold diffL
    rw [hlen]
    refine rowF_ext _ _ _ fun i hi => ?_
    unfold diffF
    rw [hlen, e]
    unfold cntL
    rw [fnRow_get _ _ _ hi, fnRow_get _ _ _ (Nat.mod_lt _ (by omega))]
  have hfb : fromB (resF p (t : Int)) = true := by
    unfold fromB cntOk
    rw [hd, h'.2, hlen, hg.2, Bool.true_and, Bool.and_true, List.all_eq_true]
    intro x hx
    obtain ⟨j, hj, e2⟩ := List.mem_iff_getElem.1 hx
    have := hb j (by omega)
    rw [List.getD_eq_getElem?_getD, List.getElem?_eq_getElem hj, e2] at this
    exact inB_iff.2 this
  refine ⟨hr, hfb, ?_, ?_, hlen, hb⟩
  · rw [fromCF_t hfb, hd, lvF_t h]
  · rw [e, cnt_all (by omega), hcl]
end Go.Proofs.Ytiebnnchaopbkaa
