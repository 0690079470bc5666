/-
  Several texts in one.
-/
import Derived.Test.YthbkonpclflkhaaR16
import Derived.Test.YthbkonpclflkhaaCB
import Derived.Test.YthbkonpclflkhaaCC
/-
  Plain facts: the core and the weight are the same for any number of beads. No program in this text.
-/
namespace Go.Proofs.Ythbkonpclflkhaa
open Go.RowKit

def shL (L : List Int) : List Int := 0 :: L.map fun x => x + 1
theorem shL_len (L : List Int) : (shL L).length = L.length + 1 := by simp [shL]
theorem shL_sum (L : List Int) : (shL L).sum = L.sum + L.length := by
  unfold shL
  rw [List.sum_cons]
  induction L with
  | nil => simp
  | cons x r ih => rw [List.map_cons, List.sum_cons, List.sum_cons, List.length_cons]; omega
theorem shL_get (L : List Int) (j : Nat) (h : j < L.length) : (shL L).getD (j + 1) 0 = L.getD j 0 + 1 := by
  unfold shL
  rw [List.getD_cons_succ, List.getD_eq_getElem?_getD, List.getElem?_map, List.getElem?_eq_getElem h, List.getD_eq_getElem?_getD, List.getElem?_eq_getElem h]; rfl
theorem beads_next {p : List Int} {n : Nat} (h : p.length ≤ n) : beadsL p (n + 1) = shL (beadsL p n) := by
  unfold beadsL shL fnRow
  rw [List.range_succ_eq_map, List.map_cons, List.map_map, List.map_map]
  congr 1
  · unfold bead
    rw [List.getD_eq_getElem?_getD, List.getElem?_eq_none (by omega)]; rfl
  · refine List.map_congr_left fun j hj => ?_
    have := List.mem_range.1 hj
    show bead p (n + 1) (j + 1) = bead p n j + 1
    unfold bead
    rw [show n + 1 - 1 - (j + 1) = n - 1 - j by omega]; omega
/-- The runner below. -/
def pdI (t i : Nat) : Nat := if i = 0 then t - 1 else i - 1
theorem succ_mod {t : Nat} (ht : 0 < t) (x : Int) : ((x + 1) % (t : Int) = 0 ∧ x % (t : Int) = t - 1 ∧ (x + 1) / (t : Int) = x / (t : Int) + 1) ∨ ((x + 1) % (t : Int) = x % (t : Int) + 1 ∧ x % (t : Int) < t - 1 ∧ (x + 1) / (t : Int) = x / (t : Int)) := by
  have h4 := Int.emod_nonneg x (show (t : Int) ≠ 0 by omega)
  have h5 := Int.emod_lt_of_pos x (show 0 < (t : Int) by omega)
  have h6 := Int.mul_ediv_add_emod x t
  rw [Int.mul_comm] at h6
  by_cases e : x % (t : Int) = t - 1
  · left
    have e1 : x + 1 = (x / (t : Int) + 1) * (t : Int) + ((0 : Nat) : Int) := by rw [Int.add_mul]; omega
    obtain ⟨d1, d2⟩ := lay_div (t := t) (i := 0) (y := x / (t : Int) + 1) ht
    rw [← e1] at d1 d2
    exact ⟨d2, e, d1⟩
  · right
    have e1 : x + 1 = (x / (t : Int)) * (t : Int) + (((x % (t : Int)).toNat + 1 : Nat) : Int) := by omega
    obtain ⟨d1, d2⟩ := lay_div (t := t) (i := (x % (t : Int)).toNat + 1) (y := x / (t : Int)) (by omega)
    rw [← e1] at d1 d2
    exact ⟨by omega, by omega, d1⟩
theorem rn_succ {t i : Nat} (hi : i < t) : ∀ L : List Int, (rnL t (L.map fun x => x + 1) i).length = (rnL t L (pdI t i)).length
  | [] => rfl
  | x :: L => by
    have ih := rn_succ hi L
    rw [List.map_cons, rnL_cons, rnL_cons]
    have key : (x + 1) % (t : Int) = (i : Int) ↔ x % (t : Int) = ((pdI t i : Nat) : Int) := by
      have h4 := Int.emod_nonneg x (show (t : Int) ≠ 0 by omega)
      unfold pdI
      rcases succ_mod (t := t) (by omega) x with ⟨h1, h2, _⟩ | ⟨h1, h2, _⟩ <;> split <;> omega
    by_cases h : (x + 1) % (t : Int) = (i : Int)
    · rw [if_pos h, if_pos (key.1 h), List.length_cons, List.length_cons, ih]
    · rw [if_neg h, if_neg (fun hh => h (key.2 hh)), ih]
theorem rn_sh {t i : Nat} (hi : i < t) (L : List Int) : (rnL t (shL L) i).length = (if i = 0 then 1 else 0) + (rnL t L (pdI t i)).length := by
  unfold shL
  rw [rnL_cons, Int.zero_emod]
  by_cases e : i = 0
  · subst e
    rw [if_pos (show (0 : Int) = ((0 : Nat) : Int) from rfl), if_pos rfl, List.length_cons, rn_succ hi]; omega
  · rw [if_neg (by omega), if_neg e, rn_succ hi]; omega
theorem dw_sh {t : Nat} (ht : 0 < t) (L : List Int) : dwL t (shL L) = shL (dwL t L) := by
  refine pw_ext (dwL_pw _ _) ?_ fun x => ?_
  · unfold shL
    rw [List.pairwise_cons]
    refine ⟨fun y hy => ?_, ?_⟩
    · obtain ⟨z, hz, rfl⟩ := List.mem_map.1 hy
      have := ((mem_dwL ht).1 hz).1
      omega
    · rw [List.pairwise_map]
      refine List.Pairwise.imp ?_ (dwL_pw t L)
      intro a b h; omega
  · have hm : x ∈ shL (dwL t L) ↔ x = 0 ∨ x - 1 ∈ dwL t L := by
      unfold shL
      rw [List.mem_cons, List.mem_map]
      constructor
      · rintro (h | ⟨y, hy, rfl⟩)
        · exact .inl h
        · exact .inr (by rw [show y + 1 - 1 = y by omega]; exact hy)
      · rintro (h | h)
        · exact .inl h
        · exact .inr ⟨x - 1, h, by omega⟩
    rw [hm, mem_dwL ht, mem_dwL ht]
    have g4 := Int.emod_nonneg x (show (t : Int) ≠ 0 by omega)
    have g5 := Int.emod_lt_of_pos x (show 0 < (t : Int) by omega)
    rw [rn_sh (show (x % (t : Int)).toNat < t by omega)]
    have k4 := Int.emod_nonneg (x - 1) (show (t : Int) ≠ 0 by omega)
    by_cases e0 : x = 0
    · subst e0
      simp only [Int.zero_emod, Int.toNat_zero, if_true, true_or, iff_true]
      rw [Int.zero_ediv]; omega
    · have hs := succ_mod ht (x - 1)
      rw [show x - 1 + 1 = x by omega] at hs
      rcases hs with ⟨h1, h2, h3⟩ | ⟨h1, h2, h3⟩
      · rw [h1, h3, h2]
        simp only [Int.toNat_zero, if_true, pdI]
        rw [show ((t : Int) - 1).toNat = t - 1 by omega]
        omega
      · rw [if_neg (show ¬ (x % (t : Int)).toNat = 0 by omega), h3]
        rw [show pdI t (x % (t : Int)).toNat = ((x - 1) % (t : Int)).toNat by unfold pdI; rw [if_neg (by omega)]; omega]
        omega
theorem bpk_sh (M : List Int) : ∀ k, k ≤ M.length → bpk (shL M) k = bpk M k
  | 0, _ => rfl
  | k + 1, h => by
    have ih := bpk_sh M k (by omega)
    have hg := shL_get M (M.length - 1 - k) (by omega)
    have hi : M.length - 1 - k + 1 = (shL M).length - 1 - k := by rw [shL_len]; omega
    by_cases c : ((M.length - 1 - k : Nat) : Int) < M.getD (M.length - 1 - k) 0
    · rw [bpk_yes hi hg.symm (by omega), bpk_yes rfl rfl c, ih]
      congr 2; omega
    · rw [bpk_no hi hg.symm (by omega), bpk_no rfl rfl c, ih]
theorem parts_sh (M : List Int) : partsL (shL M) = partsL M := by
  unfold partsL
  rw [shL_len, bpk_no (i := 0) (x := 0) (by rw [shL_len]; omega) rfl (by simp), bpk_sh M _ (Nat.le_refl _)]
def coreL (t : Nat) (p : List Int) : List Int := partsL (dwL t (beadsL p p.length))
def wgtN (t : Nat) (p : List Int) : Int := dwM t (beadsL p p.length)
theorem core_n {t : Nat} (ht : 0 < t) (p : List Int) : ∀ d, partsL (dwL t (beadsL p (p.length + d))) = coreL t p ∧ dwM t (beadsL p (p.length + d)) = wgtN t p
  | 0 => ⟨rfl, rfl⟩
  | d + 1 => by
    obtain ⟨h1, h2⟩ := core_n ht p d
    rw [show p.length + (d + 1) = (p.length + d) + 1 by omega, beads_next (by omega), dw_sh ht, parts_sh, h1]
    refine ⟨rfl, ?_⟩
    rw [← h2]
    obtain ⟨L, hL⟩ : ∃ L, L = beadsL p (p.length + d) := ⟨_, rfl⟩
    rw [← hL]
    have e1 := dwL_sum (t := t) ht (shL L)
    have e2 := dwL_sum (t := t) ht L
    rw [dw_sh ht, shL_sum, shL_sum, dwL_len ht] at e1
    have e3 : (t : Int) * dwM t (shL L) = (t : Int) * dwM t L := by omega
    exact Int.eq_of_mul_eq_mul_left (by omega) e3
theorem core_at {t n : Nat} (ht : 0 < t) {p : List Int} (h : p.length ≤ n) : partsL (dwL t (beadsL p n)) = coreL t p ∧ dwM t (beadsL p n) = wgtN t p := by
  have := core_n ht p (n - p.length)
  rw [show p.length + (n - p.length) = n by omega] at this; exact this
end Go.Proofs.Ythbkonpclflkhaa
/-
  Contracts: the abacus by which quotients are told, of the program and of the model.
-/
namespace Go.Proofs.Ythbkonpclflkhaa
open Go.RowKit

def mulN (t n : Nat) : Nat := (n + t - 1) / t * t
theorem mulN_bd {t n : Nat} (ht : 2 ≤ t ∧ t ≤ 6) : n ≤ mulN t n ∧ mulN t n ≤ n + 5 := by
  unfold mulN
  have h1 := Nat.div_add_mod (n + t - 1) t
  have h2 := Nat.mod_lt (n + t - 1) (show 0 < t by omega)
  rw [Nat.mul_comm] at h1
  omega
theorem mulN_dvd (t n : Nat) : mulN t n % t = 0 := by unfold mulN; exact Nat.mul_mod_left _ _
def evN (xs : List Int) (t : Int) : Nat := mulN t.toNat xs.length
def evR (xs : List Int) (t : Int) : Int := if crB xs t then t else 0
def evF (xs : List Int) (t : Int) : List Int := if crB xs t then beadsL xs (evN xs t) else []
theorem ev_bd {xs : List Int} {t : Int} (ht : inB 2 6 t = true) : xs.length ≤ evN xs t ∧ evN xs t ≤ xs.length + 5 := by
  have := inB_iff.1 ht
  exact mulN_bd (t := t.toNat) (n := xs.length) (by omega)
theorem ev_ok {xs : List Int} {t : Int} (ht : inB 2 6 t = true) : abaOk xs t (evN xs t) = crB xs t := by
  have hb := ev_bd (xs := xs) ht
  unfold abaOk beadsOk crB
  cases hg : good xs
  · simp
  · have hl := ((good_iff xs).1 hg).len
    have : inB xs.length 40 (evN xs t) = true := inB_iff.2 (by omega)
    simp [this, ht]
theorem ev_R {xs : List Int} {t : Int} (ht : inB 2 6 t = true) : abaR xs t (evN xs t) = evR xs t := by unfold abaR evR; rw [ev_ok ht]
theorem ev_F {xs : List Int} {t : Int} (ht : inB 2 6 t = true) : abaF xs t (evN xs t) = evF xs t := by
  have hb := ev_bd (xs := xs) ht
  unfold abaF evF; rw [ev_ok ht]
  cases hc : crB xs t
  · rfl
  · have hg := (crB_good hc).1
    have hl := ((good_iff xs).1 hg).len
    rw [if_pos rfl, if_pos rfl]
    unfold beadsF
    rw [if_pos ⟨hg, by omega, by omega⟩]; simp

set_option maxHeartbeats 1000000 in
theorem multipleFrom_any (t n : Nat) (ht : 2 ≤ t ∧ t ≤ 6) (hn : n ≤ 1048576) (w : World) :
    Calls Try.prog 118 #[.int .i64 t, .int .i64 n] w fun e w' => e = .returned (.int .i64 (mulN t n)) ∧ w = w' := by
  have hb := mulN_bd (n := n) ht
  have hm : (n : Int) + t - 1 = ((n + t - 1 : Nat) : Int) := by omega
  have hne : ¬ (t : Int) = 0 := by omega
  obtain ⟨m, hme⟩ : ∃ m, m = n + t - 1 := ⟨_, rfl⟩
  have hz : mulN t n = m / t * t := by rw [hme]; rfl
  have hmn : m ≤ 1048600 := by omega
  rw [← hme] at hm
  have hq : m / t ≤ m := Nat.div_le_self _ _
  have htd : Int.tdiv (m : Int) (t : Int) = ((m / t : Nat) : Int) := by rfl
  obtain ⟨q, hqe⟩ : ∃ q, q = m / t := ⟨_, rfl⟩
  rw [← hqe] at htd hq hz
  rw [hz] at hb
  obtain ⟨z, hze⟩ : ∃ z, z = q * t := ⟨_, rfl⟩
  have hqt : (q : Int) * (t : Int) = (z : Int) := by rw [hze]; rfl
  rw [← hze] at hz hb
  have HZ := hid hz
  clear hme hqe hze hz
  go_enter Try.func118, Try.ntmps118
  go_wp2_with fail
  go_ret
  exact ⟨ret_int (by rw [HZ.out]), rfl⟩

set_option maxHeartbeats 1000000 in
theorem crAbacus_any (A : Option Addr) (c : Nat) (xs : List Int) (t : Nat) (w : World) (ht : 2 ≤ t ∧ t ≤ 6) (G : Good xs) (hc : Cells w A xs) :
    Calls Try.prog 189 #[.slice A xs.length c, .int .i64 t] w fun e w' => ∃ A' c', e = .returned (.agg #[.int .i64 t, .slice A' (beadsL xs (mulN t xs.length)).length c']) ∧ Own w' w.heap.size A' c' (beadsL xs (mulN t xs.length)) ∧ Below w.heap.size w w' := by
  have y0 := Box2.new w 91 (.int .i64 0) (.slice none 0 0)
  have b0 : Below w.heap.size w (w.alloc (.cells #[.int .i64 0, .slice none 0 0] 91)) := (Below.refl _ _).alloc (Nat.le_refl _) _
  have z0 := b0.size
  have hl := G.len
  have hb := mulN_bd (n := xs.length) ht
  have hm : (xs.length : Int) + t - 1 = ((xs.length + t - 1 : Nat) : Int) := by omega
  have hne : ¬ (t : Int) = 0 := by omega
  have HA := hid fun W (h : Cells W A xs) => abBeads_any A c xs (mulN t xs.length) W (by omega) hb.1 (fun j hj => by have h1 := G.pos j hj; have h2 := G.le j hj; omega) h
  obtain ⟨L, hL⟩ : ∃ L, L = beadsL xs (mulN t xs.length) := ⟨_, rfl⟩
  have hLz : L.length = mulN t xs.length := by rw [hL]; exact beadsL_len _ _
  rw [← hL] at HA ⊢
  clear hL
  obtain ⟨m, hme⟩ : ∃ m, m = xs.length + t - 1 := ⟨_, rfl⟩
  have hz : mulN t xs.length = m / t * t := by rw [hme]; rfl
  rw [hz] at HA hb hLz
  have hmn : m ≤ 1048600 := by omega
  rw [← hme] at hm
  have hq : m / t ≤ m := Nat.div_le_self _ _
  have htd : Int.tdiv (m : Int) (t : Int) = ((m / t : Nat) : Int) := by rfl
  obtain ⟨q, hqe⟩ : ∃ q, q = m / t := ⟨_, rfl⟩
  rw [← hqe] at htd hq HA hb hLz
  obtain ⟨z, hze⟩ : ∃ z, z = q * t := ⟨_, rfl⟩
  have hqt : (q : Int) * (t : Int) = (z : Int) := by rw [hze]; rfl
  rw [← hze] at HA hb hLz
  have HLZ := hid hLz
  clear hze hLz
  clear hme hqe hz
  go_enter Try.func189, Try.ntmps189
  go_wp2_with (go_at_call 124; refine (HA.out _ (hc.below b0)).mono ?_; rintro e w1 ⟨A1, c1, rfl, o1, b1⟩; have y1 := y0.next b1; have f1 := y1.cell0; have f2 := y1.froz 0; have y2 := y1.set0 (.int .i64 t); have f3 := y2.cell1; have f4 := y2.froz 1; have y3 := y2.set1 (.slice A1 z c1); have hok := o1.block; clear y1 y2)
  refine bodyPost_ret (results_cell_row rfl _ _ w.heap.size 91 #[.int .i64 t, .slice A1 z c1] (0, 0) _ rfl y3 Try.underlying91 rfl (by kernel_rfl)) rfl ⟨A1, c1, by rw [HLZ.out], (o1.keep fun b hbk _ => ?_).more (by simp), ((Below.next b0 b1).setCell (Nat.le_refl _) _).setCell (Nat.le_refl _) _⟩
  have := (hok b hbk).1
  simp at this
  exact (Below.heap_setCell _ _ _ b (by simp; omega)).trans (Below.heap_setCell _ _ _ b (by simp; omega))
end Go.Proofs.Ythbkonpclflkhaa
