/-
  Several texts in one.
-/
import Derived.Test.YtndcegnlgdanmaaCB
import Derived.Test.YtndcegnlgdanmaaCC
import Derived.Test.YtndcegnlgdanmaaR02
import Derived.Test.YtndcegnlgdanmaaR07
import Derived.Test.YtndcegnlgdanmaaR08
import Derived.Test.YtndcegnlgdanmaaR05
/-
  Contracts: the abacus by which quotients are told, of the program and of the model.
-/
namespace Go.Proofs.Ytndcegnlgdanmaa
open Go.RowKit

def mulN (t n : Nat) : Nat := (n + t - 1) / t * t
theorem mulN_bd {t n : Nat} (ht : 2 ≤ t ∧ t ≤ 6) : n ≤ mulN t n ∧ mulN t n ≤ n + 5 := by
  unfold mulN
  have h1 := Nat.div_add_mod (n + t - 1) t
  have h2 := Nat.mod_lt (n + t - 1) (show 0 < t by omega)
  rw [Nat.mul_comm] at h1
  omega
theorem mulN_dvd (t n : Nat) : mulN t n % t = 0 := by unfold mulN; exact Nat.mul_mod_left _ _
def evN (xs : List Int) (t : Int) : Nat := mulN t.toNat xs.length
def evR (xs : List Int) (t : Int) : Int := if crB xs t then t else 0
def evF (xs : List Int) (t : Int) : List Int := if crB xs t then beadsL xs (evN xs t) else []
theorem ev_bd {xs : List Int} {t : Int} (ht : inB 2 6 t = true) : xs.length ≤ evN xs t ∧ evN xs t ≤ xs.length + 5 := by
  have := inB_iff.1 ht
  exact mulN_bd (t := t.toNat) (n := xs.length) (by omega)
theorem ev_ok {xs : List Int} {t : Int} (ht : inB 2 6 t = true) : abaOk xs t (evN xs t) = crB xs t := by
  have hb := ev_bd (xs := xs) ht
  unfold abaOk beadsOk crB
  cases hg : good xs
  · simp
  · have hl := ((good_iff xs).1 hg).len
    have : inB xs.length 40 (evN xs t) = true := inB_iff.2 (by omega)
    simp [this, ht]
theorem ev_R {xs : List Int} {t : Int} (ht : inB 2 6 t = true) : abaR xs t (evN xs t) = evR xs t := by unfold abaR evR; rw [ev_ok ht]
theorem ev_F {xs : List Int} {t : Int} (ht : inB 2 6 t = true) : abaF xs t (evN xs t) = evF xs t := by
  have hb := ev_bd (xs := xs) ht
  unfold abaF evF; rw [ev_ok ht]
  cases hc : crB xs t
  · rfl
  · have hg := (crB_good hc).1
    have hl := ((good_iff xs).1 hg).len
    rw [if_pos rfl, if_pos rfl]
    unfold beadsF
    rw [if_pos ⟨hg, by omega, by omega⟩]; simp

set_option maxHeartbeats 1000000 in
theorem multipleFrom_any (t n : Nat) (ht : 2 ≤ t ∧ t ≤ 6) (hn : n ≤ 1048576) (w : World) :
    Calls Try.prog 20 #[.int .i64 t, .int .i64 n] w fun e w' => e = .returned (.int .i64 (mulN t n)) ∧ w = w' := by
  have hb := mulN_bd (n := n) ht
  have hm : (n : Int) + t - 1 = ((n + t - 1 : Nat) : Int) := by omega
  have hne : ¬ (t : Int) = 0 := by omega
  obtain ⟨m, hme⟩ : ∃ m, m = n + t - 1 := ⟨_, rfl⟩
  have hz : mulN t n = m / t * t := by rw [hme]; rfl
  have hmn : m ≤ 1048600 := by omega
  rw [← hme] at hm
  have hq : m / t ≤ m := Nat.div_le_self _ _
  have htd : Int.tdiv (m : Int) (t : Int) = ((m / t : Nat) : Int) := by rfl
  obtain ⟨q, hqe⟩ : ∃ q, q = m / t := ⟨_, rfl⟩
  rw [← hqe] at htd hq hz
  rw [hz] at hb
  obtain ⟨z, hze⟩ : ∃ z, z = q * t := ⟨_, rfl⟩
  have hqt : (q : Int) * (t : Int) = (z : Int) := by rw [hze]; rfl
  rw [← hze] at hz hb
  have HZ := hid hz
  clear hme hqe hze hz
  go_enter Try.func20, Try.ntmps20
  go_wp2_with fail
  go_ret
  exact ⟨ret_int (by rw [HZ.out]), rfl⟩

set_option maxHeartbeats 1000000 in
theorem evenAbacus_any (A : Option Addr) (c : Nat) (xs : List Int) (t : Int) (w : World) (hl : xs.length ≤ 1048576) (hc : Cells w A xs) (h64 : I64 t) :
    Calls Try.prog 29 #[.slice A xs.length c, .int .i64 t] w fun e w' => ∃ A' c', e = .returned (.tuple #[.agg #[.int .i64 (evR xs t), .slice A' (evF xs t).length c'], .bool (crB xs t)]) ∧ Own w' w.heap.size A' c' (evF xs t) ∧ Below w.heap.size w w' := by
  have y0 := Box2.new w 37 (.int .i64 0) (.slice none 0 0)
  have b0 : Below w.heap.size w (w.alloc (.cells #[.int .i64 0, .slice none 0 0] 37)) := (Below.refl _ _).alloc (Nat.le_refl _) _
  have z0 := b0.size
  cases ht : inB 2 6 t
  · have e0 : crB xs t = false := by simp [crB, ht]
    have e2 : evR xs t = 0 := by simp [evR, e0]
    have e3 : evF xs t = [] := by simp [evF, e0]
    rw [e0, e2, e3]; clear e0 e2 e3
    have HT := hid ht; clear ht
    go_enter Try.func29, Try.ntmps29
    go_wp2_with (go_at_call 28; refine (hasRunners_b _ _ _ HT.out).mono ?_; rintro e w' ⟨rfl, rfl⟩)
    refine bodyPost_ret (results_cell2 rfl _ _ _ w.heap.size 37 #[.int .i64 0, .slice none 0 0] (0, 0) _ rfl (by first | exact y0 | exact (y0.set0 _).set1 _) Try.underlying37 rfl (by kernel_rfl)) rfl ⟨none, 0, rfl, own_nil _ _, by first | exact b0 | exact (b0.setCell (Nat.le_refl _) _).setCell (Nat.le_refl _) _⟩
  · have hb := inB_iff.1 ht
    have HA := hid fun W (h : Cells W A xs) => impl_AbacusOf A c xs t (evN xs t) W hl h h64 (by have := ev_bd (xs := xs) ht; unfold I64; omega)
    rw [ev_ok ht, ev_R ht, ev_F ht] at HA
    obtain ⟨m, rfl⟩ : ∃ m : Nat, t = m := ⟨t.toNat, by omega⟩
    have HM := hid fun W => multipleFrom_any m xs.length (by omega) hl W
    have HN := hid (show mulN m xs.length = evN xs m by simp [evN])
    obtain ⟨n, hn⟩ : ∃ n, n = evN xs m := ⟨_, rfl⟩
    rw [HN.out, ← hn] at HM
    rw [← hn] at HA
    have HT := hid ht; clear ht hn HN
    go_enter Try.func29, Try.ntmps29
    go_wp2_with (first | (go_at_call 28; refine (hasRunners_b _ _ _ HT.out).mono ?_; rintro e w' ⟨rfl, rfl⟩) | (go_at_call 20; refine (HM.out _).mono ?_; rintro e w' ⟨rfl, rfl⟩) | (go_at_call 48; refine (HA.out _ (hc.below b0)).mono ?_; rintro e w1 ⟨A1, c1, rfl, o1, b1⟩; have y1 := y0.next b1; have f1 := y1.cell0; have f2 := y1.froz 0; have y2 := y1.set0 (.int .i64 (evR xs m)); have f3 := y2.cell1; have f4 := y2.froz 1; have y3 := y2.set1 (.slice A1 (evF xs m).length c1); have hok := o1.block; clear y1 y2))
    refine bodyPost_ret (results_cell2 rfl _ _ _ w.heap.size 37 #[.int .i64 (evR xs m), .slice A1 (evF xs m).length c1] (0, 0) _ rfl y3 Try.underlying37 rfl (by kernel_rfl)) rfl ⟨A1, c1, rfl, (o1.keep fun b hbk _ => ?_).more (by simp), ((Below.next b0 b1).setCell (Nat.le_refl _) _).setCell (Nat.le_refl _) _⟩
    have := (hok b hbk).1
    simp at this
    exact (Below.heap_setCell _ _ _ b (by simp; omega)).trans (Below.heap_setCell _ _ _ b (by simp; omega))

end Go.Proofs.Ytndcegnlgdanmaa
/-
  Contracts: LevelsOf of the model.
-/
namespace Go.Proofs.Ytndcegnlgdanmaa
open Go.RowKit

theorem Sg_bd {f : Int → Int} (h : ∀ x, -1 ≤ f x ∧ f x ≤ 1) : ∀ (m : Nat) (a : Int), -(m : Int) ≤ Sg f a m ∧ Sg f a m ≤ m
  | 0, _ => by simp [Sg]
  | m + 1, a => by have := h a; have := Sg_bd h m (a + 1); rw [Sg]; omega
theorem eV_bd (p : List Int) (t i : Nat) (x : Int) : -1 ≤ eV p t i x ∧ eV p t i x ≤ 1 := by
  unfold eV; split
  · split <;> split <;> omega
  · omega
def lvK (xs : List Int) (t k : Nat) : List Int := fnRow t fun i => Sg (eV xs t i) (-(xs.length : Int) - 1) k
def lvN (xs : List Int) : Nat := xs.length + 1 + (xs.getD 0 0).toNat
def lvL (xs : List Int) (t : Nat) : List Int := lvK xs t (lvN xs)
theorem lvK_len (xs : List Int) (t k : Nat) : (lvK xs t k).length = t := fnRow_len _ _
theorem lvK_zero (xs : List Int) (t : Nat) : lvK xs t 0 = fnRow t (fun _ => 0) := rowF_ext _ _ _ fun _ _ => rfl
theorem lvK_succ {xs : List Int} {t k m : Nat} {x : Int} (hx : x = -(xs.length : Int) - 1 + k) (hm : x % (t : Int) = m) (hmt : m < t) :
    (lvK xs t k).set m ((lvK xs t k).getD m 0 + ((if bdB xs x = true then 1 else 0) - (if x < 0 then 1 else 0))) = lvK xs t (k + 1) := by
  unfold lvK
  rw [fnRow_get _ _ _ hmt, fnRow_set]
  refine rowF_ext _ _ _ fun j _ => ?_
  rw [Sg_snoc, ← hx]
  by_cases e : j = m
  · subst e
    rw [if_pos rfl]
    congr 1
    unfold eV; rw [if_pos hm]
  · rw [if_neg e]
    unfold eV; rw [hm, if_neg (by omega)]; omega
theorem lvK_same {xs : List Int} {t k m : Nat} {x : Int} (hx : x = -(xs.length : Int) - 1 + k) (hm : x % (t : Int) = m) (hmt : m < t)
    (h : ((if bdB xs x = true then 1 else 0) - (if x < 0 then 1 else 0) : Int) = 0) : lvK xs t k = lvK xs t (k + 1) := by
  rw [← lvK_succ hx hm hmt, h, Int.add_zero]
  apply List.ext_getElem
  · simp
  · intro j h1 h2
    rw [List.getElem_set]
    split
    · rename_i e; subst e; simp [List.getD, h1]
    · rfl
theorem lvK_bd (xs : List Int) (t k m : Nat) (h : m < t) : -(k : Int) ≤ (lvK xs t k).getD m 0 ∧ (lvK xs t k).getD m 0 ≤ k := by
  unfold lvK; rw [fnRow_get _ _ _ h]; exact Sg_bd (eV_bd xs t m) k _
def lvOk (xs : List Int) (t : Int) : Bool := crB xs t && levB (lvL xs t.toNat)
def lvF (xs : List Int) (t : Int) : List Int := if lvOk xs t then lvL xs t.toNat else []
theorem lvF_f {xs : List Int} {t : Int} (h : lvOk xs t = false) : lvF xs t = [] := by simp [lvF, h]
theorem lvF_t {xs : List Int} {t : Nat} (h : lvOk xs t = true) : lvF xs t = lvL xs t := by simp [lvF, h]
theorem lvOk_cr {xs : List Int} {t : Int} (h : crB xs t = false) : lvOk xs t = false := by simp [lvOk, h]
theorem lvOk_lev {xs : List Int} {t : Nat} (h : crB xs t = true) : lvOk xs t = levB (lvL xs t) := by simp [lvOk, h]
theorem bound_LevelsOf (xs : List Int) (t : Int) : (lvF xs t).length ≤ 1048576 := by
  unfold lvF; split
  · rename_i h
    simp only [lvOk, Bool.and_eq_true] at h
    have := inB_iff.1 (crB_good h.1).2
    unfold lvL; rw [lvK_len]; omega
  · simp

set_option maxHeartbeats 1000000 in
theorem chPart_any (A : Option Addr) (c : Nat) (xs : List Int) (r : Nat) (w : World) (hl : xs.length ≤ 1048576) (hr : r ≤ 1048576) (hc : Cells w A xs) :
    Calls Try.prog 52 #[.slice A xs.length c, .int .i64 r] w fun e w' => e = .returned (.int .i64 (xs.getD r 0)) ∧ w = w' := by
  by_cases h : r < xs.length
  · obtain ⟨b, o, rfl, hcc⟩ := hc (by omega)
    have hck := hcc r h
    obtain ⟨x, hx⟩ : ∃ x, x = xs.getD r 0 := ⟨_, rfl⟩
    rw [← hx] at hck ⊢
    clear hcc hx
    go_enter Try.func52, Try.ntmps52
    go_wp2_with fail
    go_ret
    exact ⟨rfl, rfl⟩
  · rw [getD_out (by omega)]
    go_enter Try.func52, Try.ntmps52
    go_wp2_with fail
    go_ret
    exact ⟨rfl, rfl⟩

set_option maxRecDepth 100000 in
set_option maxHeartbeats 2000000 in
theorem chBead_any (A : Option Addr) (c : Nat) (xs : List Int) (x : Int) (w : World) (G : Good xs) (hx : -100 ≤ x ∧ x ≤ 100) (hc : Cells w A xs) :
    Calls Try.prog 53 #[.slice A xs.length c, .int .i64 x] w fun e w' => e = .returned (.bool (bdB xs x)) ∧ w = w' := by
  have hl := G.len
  have HMX := hid fun W => l1Most_v 0 (-x) (((-x).toNat : Nat) : Int) W (by split <;> omega)
  have HPA := hid fun r (hr : r ≤ 1048576) W (h : Cells W A xs) => chPart_any A c xs r W (by omega) hr h
  have HGE := hid G.le
  have HGP := hid G.pos
  obtain ⟨M, hM⟩ : ∃ M, M = (-x).toNat := ⟨_, rfl⟩
  have HB := hid (fun (h : ∃ r, r < xs.length + M + 1 ∧ num xs r = x) => bdB_iff.2 (hM ▸ h))
  have HB2 := hid (fun (h : ¬ ∃ r, r < xs.length + M + 1 ∧ num xs r = x) => (Bool.eq_false_iff.2 fun hh => h (hM ▸ bdB_iff.1 hh) : bdB xs x = false))
  rw [← hM] at HMX
  have hMb : M ≤ 100 := by omega
  clear hM G
  go_enter Try.func53, Try.ntmps53
  go_wp2_with fail
  go_loop [5] (fun i => ∃ k : Nat, k ≤ xs.length + M + 1 ∧ i = .int .i64 k ∧ ∀ r, r < k → num xs r ≠ x) (fun i => xs.length + M + 1 - (intOf i).toNat)
  case atStart => exact ⟨0, Nat.zero_le _, rfl, fun r hr => absurd hr (Nat.not_lt_zero _)⟩
  case round =>
    obtain ⟨k, hk, rfl, hno⟩ := hrel
    have HN := hid hno; clear hno
    by_cases hlt : k < xs.length + M + 1
    · have HPK := hid (HPA.out k (by omega) w hc)
      have hyb : 0 ≤ xs.getD k 0 ∧ xs.getD k 0 ≤ 30 := by
        by_cases h : k < xs.length
        · have := HGP.out k h; have := HGE.out k h; omega
        · rw [getD_out (by omega)]; omega
      have hnum : num xs k = xs.getD k 0 - k - 1 := rfl
      obtain ⟨y, hy⟩ : ∃ y, y = xs.getD k 0 := ⟨_, rfl⟩
      rw [← hy] at hyb HPK hnum
      clear hy
      by_cases he : y - k - 1 = x
      · have hb := hid (HB.out ⟨k, hlt, by rw [hnum]; exact he⟩)
        clear hnum
        go_wp2_with (first | (go_at_call 63; refine (HMX.out _).mono ?_; rintro e w' ⟨rfl, rfl⟩) | (go_at_call 52; refine HPK.out.mono ?_; rintro e w' ⟨rfl, rfl⟩))
        go_ret
        exact ⟨ret_bool hb.out.symm, rfl⟩
      · have HN2 := hid (show ∀ r, r < k + 1 → num xs r ≠ x from fun r hr => by
          rcases Nat.lt_or_ge r k with h | h
          · exact HN.out r h
          · rw [show r = k by omega, hnum]; exact he)
        clear hnum
        go_wp2_with (first | (go_at_call 63; refine (HMX.out _).mono ?_; rintro e w' ⟨rfl, rfl⟩) | (go_at_call 52; refine HPK.out.mono ?_; rintro e w' ⟨rfl, rfl⟩))
        go_round
        case rel => exact ⟨k + 1, by omega, by go_num, HN2.out⟩
        case measure => simp [intOf]; omega
    · have hb := hid (HB2.out (fun ⟨r, h1, h2⟩ => HN.out r (by omega) h2))
      go_wp2_with (go_at_call 63; refine (HMX.out _).mono ?_; rintro e w' ⟨rfl, rfl⟩)
      go_ret
      exact ⟨ret_bool hb.out.symm, rfl⟩
theorem chBead_b (A : Option Addr) (c : Nat) (xs : List Int) (x : Int) (w : World) (G : Good xs) (hx : -100 ≤ x ∧ x ≤ 100) (hc : Cells w A xs) (b : Bool) (h : bdB xs x = b) :
    Calls Try.prog 53 #[.slice A xs.length c, .int .i64 x] w fun e w' => e = .returned (.bool b) ∧ w = w' := by
  subst h; exact chBead_any A c xs x w G hx hc

set_option maxRecDepth 100000 in
set_option maxHeartbeats 2000000 in
theorem chLevels_any (A : Option Addr) (c : Nat) (xs : List Int) (t : Nat) (w : World) (G : Good xs) (ht : 2 ≤ t ∧ t ≤ 6) (hc : Cells w A xs) :
    Calls Try.prog 35 #[.slice A xs.length c, .int .i64 t] w fun e w' => ∃ A' c', e = .returned (.slice A' t c') ∧ Own w' w.heap.size A' c' (lvL xs t) ∧ Below w.heap.size w w' := by
  have h30 := G.len
  have HBD := hid fun x (hx : -100 ≤ x ∧ x ≤ 100) W (h : Cells W A xs) b (hb : bdB xs x = b) => chBead_b A c xs x W G hx h b hb
  have hPb : 0 ≤ xs.getD 0 0 ∧ xs.getD 0 0 ≤ 30 := by
    by_cases h : 0 < xs.length
    · have := G.pos 0 h; have := G.le 0 h; omega
    · rw [getD_out (by omega)]; omega
  have HPA := hid fun W (h : Cells W A xs) => (chPart_any A c xs 0 W (by omega) (by omega) h : Calls Try.prog 52 #[.slice A xs.length c, .int .i64 0] W fun e w' => e = .returned (.int .i64 (xs.getD 0 0)) ∧ W = w')
  obtain ⟨P, hP⟩ : ∃ P : Nat, xs.getD 0 0 = P := ⟨(xs.getD 0 0).toNat, by omega⟩
  have hN : lvN xs = xs.length + 1 + P := by unfold lvN; rw [hP]; simp
  rw [hP] at HPA hPb
  clear hP G
  have hmk := run_make_row' (P := Try.prog) 22 3 (.int .i64 0) 8 Try.underlying22 Try.infoInt rfl .i64 .i64 t (by omega) (by omega)
  obtain ⟨w2, hw2⟩ : ∃ w2, w2 = w.alloc (.cells (madeCells #[.int .i64 0] t) 3) := ⟨_, rfl⟩
  have o2 : Own w2 w.heap.size (some ⟨w.heap.size, 0, none⟩) t (lvK xs t 0) := by rw [hw2, lvK_zero]; exact own_made w t (by omega)
  have b2 : Below w.heap.size w w2 := by rw [hw2]; exact (Below.refl _ _).alloc (Nat.le_refl _) _
  have hne : ¬ ((t : Int) = 0) := by omega
  have HN := hid hN; clear hN
  go_enter Try.func35, Try.ntmps35
  go_wp2_with fail
  rw [← hw2]
  clear hw2
  go_loopw [6] (fun i wr => ∃ (k : Nat) (x : Int), k ≤ xs.length + 1 + P ∧ x = -(xs.length : Int) - 1 + k ∧ i = .int .i64 x ∧ Own wr w.heap.size (some ⟨w.heap.size, 0, none⟩) t (lvK xs t k) ∧ Below w.heap.size w wr) (fun i _ => ((P : Int) - intOf i).toNat)
  case atStart => exact ⟨0, _, Nat.zero_le _, by omega, rfl, o2, b2⟩
  case round =>
    obtain ⟨k, x, hk, hx, rfl, hown, hbel⟩ := hrel
    have hcr := hc.later hbel
    have HPW := hid (HPA.out wr hcr)
    by_cases hlt : x < P
    · have hkb : k ≤ 61 := by omega
      have hk61 : k < xs.length + 1 + P := by omega
      have hxb : -31 ≤ x ∧ x < 30 := by omega
      have HX := hid hx; clear hx
      obtain ⟨h1, h2, h3⟩ := tmod_resid (x := x) (t := (t : Int)) (by omega)
      have hp1 := Int.emod_nonneg x (show (t : Int) ≠ 0 by omega)
      have hp2 := Int.emod_lt_of_pos x (show 0 < (t : Int) by omega)
      obtain ⟨i, hi⟩ : ∃ i : Nat, x % (t : Int) = i := ⟨(x % (t : Int)).toNat, by omega⟩
      have hit : i < t := by omega
      rw [hi] at h3
      have HSC := hid (lvK_succ HX.out hi hit)
      have HSM := hid (lvK_same HX.out hi hit)
      have hcur := own_get hown (k := i) (by rw [lvK_len]; exact hit)
      have hfz := own_froz hown i
      have HST := hid fun v => own_set hown i v
      have hcb := lvK_bd xs t k i hit
      have HO := hid hown
      obtain ⟨u, hu⟩ : ∃ u, u = (lvK xs t k).getD i 0 := ⟨_, rfl⟩
      rw [← hu] at hcur hcb HSC
      obtain ⟨y, hy⟩ : ∃ y, y = Int.tmod x (t : Int) := ⟨_, rfl⟩
      rw [← hy] at h1 h2 h3
      have hyy : Int.tmod x (t : Int) = y := hy.symm
      clear hp1 hp2 hi hu hown hy
      cases hb : bdB xs x
      · rw [hb] at HSC HSM
        have HBW := hid (HBD.out x (by omega) wr hcr _ hb)
        by_cases hx0 : 0 ≤ x
        · have HS := hid (own_len HO.out (HSM.out (by rw [if_neg (by simp), if_neg (by omega)]; rfl)))
          clear HO HST HSC HSM hb hfz hcur
          go_wp2_with (first | (go_at_call 52; refine HPW.out.mono ?_; rintro e w' ⟨rfl, rfl⟩) | (go_at_call 53; refine HBW.out.mono ?_; rintro e w' ⟨rfl, rfl⟩))
          go_roundw
          case rel => exact ⟨k + 1, x + 1, by omega, by have := HX.out; omega, by go_num, HS.out, hbel⟩
          case measure => simp [intOf]; omega
        · have HS := hid (own_len (HST.out (u - 1)) (show (lvK xs t k).set i (u - 1) = lvK xs t (k + 1) by rw [← HSC.out, if_neg (by simp), if_pos (by omega)]; congr 1))
          clear HO HST HSC HSM hb
          go_wp2_with (first | (go_at_call 52; refine HPW.out.mono ?_; rintro e w' ⟨rfl, rfl⟩) | (go_at_call 53; refine HBW.out.mono ?_; rintro e w' ⟨rfl, rfl⟩))
          go_roundw
          case rel => exact ⟨k + 1, x + 1, by omega, by have := HX.out; omega, by go_num, HS.out, hbel.setCell (Nat.le_refl _) _⟩
          case measure => simp [intOf]; omega
      · rw [hb] at HSC HSM
        have HBW := hid (HBD.out x (by omega) wr hcr _ hb)
        by_cases hx0 : 0 ≤ x
        · have HS := hid (own_len (HST.out (u + 1)) (show (lvK xs t k).set i (u + 1) = lvK xs t (k + 1) by rw [← HSC.out, if_pos rfl, if_neg (by omega)]; congr 1))
          clear HO HST HSC HSM hb
          go_wp2_with (first | (go_at_call 52; refine HPW.out.mono ?_; rintro e w' ⟨rfl, rfl⟩) | (go_at_call 53; refine HBW.out.mono ?_; rintro e w' ⟨rfl, rfl⟩))
          go_roundw
          case rel => exact ⟨k + 1, x + 1, by omega, by have := HX.out; omega, by go_num, HS.out, hbel.setCell (Nat.le_refl _) _⟩
          case measure => simp [intOf]; omega
        · have HS := hid (own_len HO.out (HSM.out (by rw [if_pos rfl, if_pos (by omega)]; rfl)))
          clear HO HST HSC HSM hb hfz hcur
          go_wp2_with (first | (go_at_call 52; refine HPW.out.mono ?_; rintro e w' ⟨rfl, rfl⟩) | (go_at_call 53; refine HBW.out.mono ?_; rintro e w' ⟨rfl, rfl⟩))
          go_roundw
          case rel => exact ⟨k + 1, x + 1, by omega, by have := HX.out; omega, by go_num, HS.out, hbel⟩
          case measure => simp [intOf]; omega
    · have hkn : k = xs.length + 1 + P := by omega
      have HO := hid (own_len hown (show lvK xs t k = lvL xs t by unfold lvL; rw [HN.out, hkn]))
      clear hown
      go_wp2_with (go_at_call 52; refine HPW.out.mono ?_; rintro e w' ⟨rfl, rfl⟩)
      go_ret
      exact ⟨_, _, rfl, HO.out, hbel⟩

set_option maxRecDepth 100000 in
set_option maxHeartbeats 1000000 in
theorem spec_LevelsOf (A : Option Addr) (c : Nat) (xs : List Int) (t : Int) (w : World) (hl : xs.length ≤ 1048576) (hc : Cells w A xs) (_ : I64 t) :
    Calls Try.prog 13 #[.slice A xs.length c, .int .i64 t] w fun e w' => ∃ A' c', e = .returned (.tuple #[.slice A' (lvF xs t).length c', .bool (lvOk xs t)]) ∧ Own w' w.heap.size A' c' (lvF xs t) ∧ Below w.heap.size w w' := by
  cases hgg : good xs
  · have hg : lvOk xs t = false := lvOk_cr (by simp [crB, hgg])
    rw [lvF_f hg, hg]
    have HG := hid hgg
    clear hg hgg
    go_enter Try.func13, Try.ntmps13
    go_wp2_with (go_at_call 33; refine (ptGood_b _ _ _ _ hl hc _ HG.out).mono ?_; rintro e w' ⟨rfl, n, rfl⟩)
    go_ret2
    exact ⟨none, 0, rfl, own_nil _ _, below_drew' _ _⟩
  have HG := hid hgg
  cases ht : inB 2 6 t
  · have hg : lvOk xs t = false := lvOk_cr (by simp [crB, ht])
    rw [lvF_f hg, hg]
    have HT := hid ht
    clear hg hgg ht
    go_enter Try.func13, Try.ntmps13
    go_wp2_with (first | (go_at_call 33; refine (ptGood_b _ _ _ _ hl hc _ HG.out).mono ?_; rintro e w' ⟨rfl, n, rfl⟩) | (go_at_call 34; refine (chRunners_b _ _ _ HT.out).mono ?_; rintro e w' ⟨rfl, rfl⟩))
    go_ret2
    exact ⟨none, 0, rfl, own_nil _ _, below_drew' _ _⟩
  have HT := hid ht
  have hcr : crB xs t = true := by simp [crB, hgg, ht]
  have hin := inB_iff.1 ht
  obtain ⟨t, rfl⟩ : ∃ m : Nat, t = m := ⟨t.toNat, by omega⟩
  have hlv := lvOk_lev hcr
  have HLV := hid hlv
  have HLF := hid (fun h => lvF_t (t := t) (xs := xs) h)
  have HL0 := hid (fun h => lvF_f (t := (t : Int)) (xs := xs) h)
  have HCH := hid fun W (h : Cells W A xs) => chLevels_any A c xs t W ((good_iff xs).1 hgg) (by omega) h
  have hlen : (lvL xs t).length = t := lvK_len _ _ _
  obtain ⟨L, hL⟩ : ∃ L, L = lvL xs t := ⟨_, rfl⟩
  rw [← hL] at HLV HLF HCH hlen
  have HGD := hid fun A1 c1 W (h : Cells W A1 L) => chGood_any A1 c1 L W (by omega) h
  rw [hlen] at HGD
  have HLEN := hid hlen
  clear hlv hL hcr ht hgg hlen
  cases hgd : levB L
  · have hg : lvOk xs (t : Int) = false := by rw [HLV.out, hgd]
    rw [HL0.out hg, hg]
    rw [hgd] at HGD
    clear hg hgd
    go_enter Try.func13, Try.ntmps13
    go_wp2_with (first | (go_at_call 33; refine (ptGood_b _ _ _ _ hl hc _ HG.out).mono ?_; rintro e w' ⟨rfl, n, rfl⟩) | (go_at_call 34; refine (chRunners_b _ _ _ HT.out).mono ?_; rintro e w' ⟨rfl, rfl⟩))
    refine (HCH.out _ (hc.below (below_drew' _ n))).mono ?_
    rintro e w1 ⟨A1, c1, rfl, o1, b1⟩
    go_wp2_with (go_at_call 23; refine (HGD.out _ _ _ o1.cells).mono ?_; rintro e w' ⟨rfl, rfl⟩)
    go_ret2
    exact ⟨none, 0, rfl, own_nil _ _, Below.next (below_drew' _ n) b1⟩
  · have hg : lvOk xs (t : Int) = true := by rw [HLV.out, hgd]
    rw [HLF.out hg, hg]
    rw [hgd] at HGD
    clear hg hgd
    go_enter Try.func13, Try.ntmps13
    go_wp2_with (first | (go_at_call 33; refine (ptGood_b _ _ _ _ hl hc _ HG.out).mono ?_; rintro e w' ⟨rfl, n, rfl⟩) | (go_at_call 34; refine (chRunners_b _ _ _ HT.out).mono ?_; rintro e w' ⟨rfl, rfl⟩))
    refine (HCH.out _ (hc.below (below_drew' _ n))).mono ?_
    rintro e w1 ⟨A1, c1, rfl, o1, b1⟩
    go_wp2_with (go_at_call 23; refine (HGD.out _ _ _ o1.cells).mono ?_; rintro e w' ⟨rfl, rfl⟩)
    go_ret2
    exact ⟨A1, c1, by rw [HLEN.out]; rfl, o1, Below.next (below_drew' _ n) b1⟩
end Go.Proofs.Ytndcegnlgdanmaa
