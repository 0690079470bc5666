/-
  Several texts in one.
-/
import Derived.Test.YtnjaoaamcdohoaaCC
import Derived.Test.YtnjaoaamcdohoaaR06
import Derived.Deep.RegionWith
import Derived.Deep.CutRange
/-
  Contracts: TakeRim of the program and of the model.
-/
namespace Go.Proofs.Ytnjaoaamcdohoaa
open Go.RowKit

def takeAt (xs : List Int) (t k : Int) : Nat × Nat := (rimCs xs t).getD k.toNat (0, 0)
def takeB (xs : List Int) (t k : Int) : Bool := crB xs t && (decide (0 ≤ k) && decide (k < ((rimCs xs t).length : Int)))
def takeL (xs : List Int) (q : Nat × Nat) : List Int := outL xs q.1 q.2 (lowN xs q.2)
def takeSg (xs : List Int) (q : Nat × Nat) : Int := sgn ((lowN xs q.2 : Int) - q.1)
def takeF (xs : List Int) (t k : Int) : List Int := if takeB xs t k then takeL xs (takeAt xs t k) else []
def takeS (xs : List Int) (t k : Int) : Int := if takeB xs t k then takeSg xs (takeAt xs t k) else 0
theorem takeL_len (xs : List Int) (q : Nat × Nat) : (takeL xs q).length ≤ xs.length := outL_len _ _ _ _
theorem bound_TakeRim (xs : List Int) (t k : Int) : (takeF xs t k).length ≤ 1048576 := by
  unfold takeF
  split
  · rename_i h
    have := takeL_len xs (takeAt xs t k)
    simp only [takeB, Bool.and_eq_true] at h
    have := ((good_iff xs).1 (crB_good h.1).1).len
    omega
  · simp
theorem takeB_nat {xs : List Int} {t k : Int} (h : takeB xs t k = true) : crB xs t = true ∧ ∃ k' : Nat, k = k' ∧ k' < (rimCs xs t).length := by
  simp only [takeB, Bool.and_eq_true, decide_eq_true_eq] at h
  exact ⟨h.1, k.toNat, by omega, by omega⟩
theorem getD_mem {α : Type} (L : List α) (k : Nat) (d : α) (h : k < L.length) : L.getD k d ∈ L := by
  rw [List.getD_eq_getElem?_getD, List.getElem?_eq_getElem h]; exact List.getElem_mem h
theorem pairs_get (L : List (Nat × Nat)) (k : Nat) (h : k < L.length) : (pairs L).getD k [] = [((L.getD k (0, 0)).1 : Int), ((L.getD k (0, 0)).2 : Int)] := by
  simp [pairs, List.getD, h]
theorem two_cells {w : World} {A : Option Addr} {x y : Int} (h : Cells w A [x, y]) : ∃ b o, A = some ⟨b, o, none⟩ ∧ w.cell? ⟨b, o, none⟩ = some (.int .i64 x) ∧ w.cell? ⟨b, o + 1, none⟩ = some (.int .i64 y) := by
  obtain ⟨b, o, rfl, hc⟩ := h (by simp)
  exact ⟨b, o, rfl, by simpa using hc 0 (by simp), by simpa using hc 1 (by simp)⟩
/-- A row of two numbers, read out of the rows. -/
theorem pair_at {w : World} {A : Option Addr} {L : List (Nat × Nat)} (h : Cells2 w A (pairs L)) (k : Nat) (hk : k < L.length) :
    ∃ b o b2 o2 c2, A = some ⟨b, o, none⟩ ∧ w.cell? ⟨b, o + k, none⟩ = some (.slice (some ⟨b2, o2, none⟩) 2 c2) ∧ w.cell? ⟨b2, o2, none⟩ = some (.int .i64 ((L.getD k (0, 0)).1 : Int)) ∧ w.cell? ⟨b2, o2 + 1, none⟩ = some (.int .i64 ((L.getD k (0, 0)).2 : Int)) := by
  obtain ⟨P, C, h1, h2⟩ := h
  obtain ⟨b, o, rfl, hc⟩ := h1 (by rw [pairs_len]; omega)
  have hk' : k < (pairs L).length := by rw [pairs_len]; exact hk
  have hck := hc k hk'
  have hr := h2 k hk'
  rw [pairs_get L k hk] at hck hr
  obtain ⟨b2, o2, e, x1, x2⟩ := two_cells hr
  rw [e] at hck
  exact ⟨b, o, b2, o2, C k, rfl, hck, x1, x2⟩

end Go.Proofs.Ytnjaoaamcdohoaa
/-
  Plain facts: runs of rims that are taken away. No program in this text.
-/
namespace Go.Proofs.Ytnjaoaamcdohoaa
open Go.RowKit

theorem sum_filter_pos : ∀ (l : List Int), (∀ x ∈ l, 0 ≤ x) → (l.filter fun n => decide (0 < n)).sum = l.sum
  | [], _ => rfl
  | x :: t, h => by
    have ih := sum_filter_pos t (fun y hy => h y (List.mem_cons_of_mem _ hy))
    have hx := h x List.mem_cons_self
    by_cases h0 : 0 < x
    · rw [List.filter_cons_of_pos (by simpa using h0), List.sum_cons, List.sum_cons, ih]
    · rw [List.filter_cons_of_neg (by simpa using h0), List.sum_cons, ih]; omega
theorem sum_le_of : ∀ (xs ys : List Int), xs.length = ys.length → (∀ j, j < xs.length → ys.getD j 0 ≤ xs.getD j 0) → ys.sum ≤ xs.sum
  | [], [], _, _ => by simp
  | [], _ :: _, h, _ => by simp at h
  | _ :: _, [], h, _ => by simp at h
  | x :: t, y :: u, hl, h => by
    have h0 := h 0 (by simp)
    have := sum_le_of t u (by simpa using hl) (fun j hj => by simpa using h (j + 1) (by simpa using hj))
    simp only [List.getD_cons_zero] at h0
    simp only [List.sum_cons]; omega
theorem sum_lt_of : ∀ (xs ys : List Int), xs.length = ys.length → (∀ j, j < xs.length → ys.getD j 0 ≤ xs.getD j 0) → ∀ k, k < xs.length → ys.getD k 0 < xs.getD k 0 → ys.sum < xs.sum
  | [], _, _, _, k, hk, _ => absurd hk (by simp)
  | _ :: _, [], h, _, _, _, _ => by simp at h
  | x :: t, y :: u, hl, h, 0, _, hs => by
    have := sum_le_of t u (by simpa using hl) (fun j hj => by simpa using h (j + 1) (by simpa using hj))
    simp only [List.getD_cons_zero] at hs
    simp only [List.sum_cons]; omega
  | x :: t, y :: u, hl, h, k + 1, hk, hs => by
    have h0 := h 0 (by simp)
    have := sum_lt_of t u (by simpa using hl) (fun j hj => by simpa using h (j + 1) (by simpa using hj)) k (by simpa using hk) (by simpa using hs)
    simp only [List.getD_cons_zero] at h0
    simp only [List.sum_cons]; omega

theorem out_good {xs : List Int} {r k low : Nat} (R : RimOK xs r k low) : Good (outL xs r k low) ∧ (outL xs r k low).sum < xs.sum := by
  have hL := restL_len xs r k low
  have hnn : ∀ x ∈ restL xs r k low, 0 ≤ x := by
    intro x hx
    obtain ⟨j, hj, rfl⟩ := List.getElem_of_mem hx
    have := (R.rest_pos (j := j) (by rw [restL_len] at hj; exact hj)).1
    rw [← restL_get xs r k low j (by rw [restL_len] at hj; exact hj), List.getD_eq_getElem?_getD, List.getElem?_eq_getElem hj] at this
    exact this
  have hsum : (outL xs r k low).sum = (restL xs r k low).sum := sum_filter_pos _ hnn
  have hle : ∀ j, j < xs.length → (restL xs r k low).getD j 0 ≤ xs.getD j 0 := fun j hj => by
    rw [restL_get xs r k low j hj]
    unfold rest
    split
    · rename_i h; have := R.fr_lt h.2; omega
    · omega
  have hlt : (restL xs r k low).sum < xs.sum := by
    refine sum_lt_of xs _ hL.symm hle r (by have := R.low_lt; have := R.r_le; omega) ?_
    rw [restL_get xs r k low r (by have := R.low_lt; have := R.r_le; omega)]
    unfold rest
    rw [if_pos ⟨Nat.le_refl _, R.r_le⟩]
    exact R.fr_lt R.r_le
  obtain ⟨m, h1, h2⟩ := out_ex R xs.length (Nat.le_refl _) (fun j h1 h2 => by omega)
  have hlen : (outL xs r k low).length = m := by rw [← h2, List.length_take, restL_len]; omega
  have hget : ∀ j, j < m → (outL xs r k low).getD j 0 = rest xs r k low j := fun j hj => by
    rw [← h2, List.getD_eq_getElem?_getD, List.getElem?_take, if_pos hj, ← List.getD_eq_getElem?_getD, restL_get xs r k low j (by omega)]
  have hp : ∀ j, j < m → 1 ≤ (outL xs r k low).getD j 0 := fun j hj => by
    have hm : (outL xs r k low).getD j 0 ∈ outL xs r k low := by
      rw [List.getD_eq_getElem?_getD, List.getElem?_eq_getElem (by rw [hlen]; exact hj)]; exact List.getElem_mem _
    have := (List.mem_filter.1 hm).2
    simp only [decide_eq_true_eq] at this
    omega
  have h30 := R.good.len
  have hs := R.good.sum
  refine ⟨⟨by omega, fun j hj => hp j (by omega), fun j hj => ?_, fun j hj => ?_, ?_, by omega⟩, by omega⟩
  · rw [hget j (by omega)]; exact (R.rest_pos (by omega)).2
  · rw [hget j (by omega), hget (j + 1) (by omega)]; exact R.rest_down (by omega)
  · rw [hsum]
    have := sum_le_of (restL xs r k low) (List.replicate (restL xs r k low).length 0) (by simp) (fun j hj => by
      have h0 : (List.replicate (restL xs r k low).length (0 : Int)).getD j 0 = 0 := by rw [List.getD_eq_getElem?_getD, List.getElem?_replicate]; split <;> rfl
      rw [h0, restL_get xs r k low j (by rw [restL_len] at hj; exact hj)]
      exact (R.rest_pos (by rw [restL_len] at hj; exact hj)).1)
    have hz : ∀ n : Nat, (List.replicate n (0 : Int)).sum = 0 := fun n => by induction n with
      | zero => rfl
      | succ n ih => rw [List.replicate_succ, List.sum_cons, ih]; rfl
    rw [hz] at this
    exact this
theorem take_good {xs : List Int} {t k : Int} (h : takeB xs t k = true) : Good (takeF xs t k) ∧ (takeF xs t k).sum < xs.sum ∧ (takeS xs t k = 1 ∨ takeS xs t k = -1) ∧ crB (takeF xs t k) t = true := by
  obtain ⟨hg, k', rfl, hkl⟩ := takeB_nat h
  have hm2 := rimCs_mem (getD_mem (rimCs xs t) k' (0, 0) hkl)
  have R := rim_ok ((good_iff xs).1 (crB_good hg).1) hm2.1 hm2.2
  have ho := out_good R
  have e : takeF xs t k' = outL xs ((rimCs xs t).getD k' (0, 0)).1 ((rimCs xs t).getD k' (0, 0)).2 ((colH xs ((rimCs xs t).getD k' (0, 0)).2).toNat - 1) := by simp [takeF, h, takeL, takeAt, lowN]
  rw [← e] at ho
  refine ⟨ho.1, ho.2, ?_, ?_⟩
  · simp only [takeS, h, if_true, takeSg, sgn]
    split
    · exact .inl rfl
    · exact .inr rfl
  · simp only [crB, (crB_good hg).2, Bool.and_true]
    exact (good_iff _).2 ho.1

def leftAt (xs : List Int) (t : Int) (cs : List Int) : Nat → List Int
  | 0 => xs
  | i + 1 => takeF (leftAt xs t cs i) t (cs.getD i 0)
def sgnAt (xs : List Int) (t : Int) (cs : List Int) : Nat → Int
  | 0 => 1
  | i + 1 => sgnAt xs t cs i * takeS (leftAt xs t cs i) t (cs.getD i 0)
def okTo (xs : List Int) (t : Int) (cs : List Int) : Nat → Bool
  | 0 => true
  | i + 1 => okTo xs t cs i && takeB (leftAt xs t cs i) t (cs.getD i 0)
def trail (xs : List Int) (t : Int) (cs : List Int) (n : Nat) : List (List Int) := (List.range n).map (leftAt xs t cs)
theorem trail_len (xs : List Int) (t : Int) (cs : List Int) (n : Nat) : (trail xs t cs n).length = n := by simp [trail]
theorem trail_succ (xs : List Int) (t : Int) (cs : List Int) (n : Nat) : trail xs t cs (n + 1) = trail xs t cs n ++ [leftAt xs t cs n] := by simp [trail, List.range_succ]
theorem left_good {xs : List Int} {t : Int} {cs : List Int} (hc : crB xs t = true) : ∀ n, okTo xs t cs n = true → crB (leftAt xs t cs n) t = true ∧ (leftAt xs t cs n).sum + n ≤ xs.sum ∧ (sgnAt xs t cs n = 1 ∨ sgnAt xs t cs n = -1)
  | 0, _ => ⟨hc, by simp [leftAt], .inl rfl⟩
  | n + 1, h => by
    simp only [okTo, Bool.and_eq_true] at h
    obtain ⟨_, b, c⟩ := left_good hc n h.1
    obtain ⟨_, e, f, g⟩ := take_good h.2
    refine ⟨g, ?_, ?_⟩
    · simp only [leftAt]; omega
    · simp only [sgnAt]
      rcases c with c | c <;> rcases f with f | f <;> rw [c, f] <;> decide
theorem left_len {xs : List Int} {t : Int} {cs : List Int} (hc : crB xs t = true) (n : Nat) (h : okTo xs t cs n = true) : (leftAt xs t cs n).length ≤ 30 := ((good_iff _).1 (crB_good (left_good hc n h).1).1).len
theorem left_n {xs : List Int} {t : Int} {cs : List Int} (hc : crB xs t = true) (n : Nat) (h : okTo xs t cs n = true) : n ≤ 30 := by
  have h1 := left_good hc n h
  have h2 := ((good_iff _).1 (crB_good h1.1).1).sum0
  have h3 := ((good_iff _).1 (crB_good hc).1).sum
  omega
theorem okTo_le {xs : List Int} {t : Int} {cs : List Int} {n : Nat} : ∀ {m : Nat}, okTo xs t cs m = true → n ≤ m → okTo xs t cs n = true
  | 0, h, hn => by have : n = 0 := by omega
                   subst this; exact h
  | m + 1, h, hn => by
    by_cases e : n = m + 1
    · subst e; exact h
    · simp only [okTo, Bool.and_eq_true] at h
      exact okTo_le h.1 (by omega)
theorem tot_trail {xs : List Int} {t : Int} {cs : List Int} (hc : crB xs t = true) : ∀ n, okTo xs t cs n = true → tot (trail xs t cs (n + 1)) ≤ 30 * (n + 1)
  | 0, h => by
    have := left_len hc 0 h
    rw [trail_succ, tot_append]
    simp only [trail, List.range_zero, List.map_nil, tot]; omega
  | n + 1, h => by
    have h1 := left_len hc (n + 1) h
    have := tot_trail hc n (okTo_le h (by omega))
    rw [trail_succ, tot_append]
    simp only [tot]; omega

def runB (xs : List Int) (t : Int) (cs : List Int) : Bool := crB xs t && (decide (cs.length ≤ 200) && okTo xs t cs cs.length)
def runF (xs : List Int) (t : Int) (cs : List Int) : List (List Int) := if runB xs t cs then trail xs t cs (cs.length + 1) else []
def runS (xs : List Int) (t : Int) (cs : List Int) : Int := if runB xs t cs then sgnAt xs t cs cs.length else 0
theorem bound_RunOf (xs : List Int) (t : Int) (cs : List Int) : (runF xs t cs).length ≤ 1048576 ∧ tot (runF xs t cs) ≤ 1048576 := by
  unfold runF
  split
  · rename_i h
    simp only [runB, Bool.and_eq_true] at h
    have h1 := tot_trail h.1 cs.length h.2.2
    have h2 := left_n h.1 cs.length h.2.2
    rw [trail_len]; omega
  · simp [tot]
/-- Down to the core: how many steps, and the sign. -/
def coreAt (xs : List Int) (t : Int) (n : Nat) : Prop := okTo xs t [] n = true ∧ (rimCs (leftAt xs t [] n) t).length = 0
theorem core_one {xs : List Int} {t : Int} {n m : Nat} (hn : coreAt xs t n) (hm : coreAt xs t m) : n = m := by
  have no : ∀ {a b : Nat}, coreAt xs t a → coreAt xs t b → ¬ a < b := by
    intro a b ha hb hlt
    have h := okTo_le hb.1 (show a + 1 ≤ b from hlt)
    simp only [okTo, Bool.and_eq_true] at h
    obtain ⟨_, k', _, hk⟩ := takeB_nat h.2
    have := ha.2
    omega
  rcases Nat.lt_trichotomy n m with h | h | h
  · exact absurd h (no hn hm)
  · exact h
  · exact absurd h (no hm hn)
open Classical in
noncomputable def signF (xs : List Int) (t : Int) : Int := if h : crB xs t = true ∧ ∃ n, coreAt xs t n then sgnAt xs t [] (Classical.choose h.2) else 0
theorem signF_eq {xs : List Int} {t : Int} {n : Nat} (hc : crB xs t = true) (h : coreAt xs t n) : signF xs t = sgnAt xs t [] n := by
  unfold signF
  rw [dif_pos ⟨hc, n, h⟩]
  have hs := Classical.choose_spec (show ∃ n, coreAt xs t n from ⟨n, h⟩)
  exact congrArg (sgnAt xs t []) (core_one hs h)
theorem signF_f {xs : List Int} {t : Int} (hc : crB xs t = false) : signF xs t = 0 := by
  unfold signF
  rw [dif_neg (by rintro ⟨h, _⟩; rw [hc] at h; cases h)]
theorem take0 {xs : List Int} {t : Int} (hc : crB xs t = true) (h : (rimCs xs t).length ≠ 0) : takeB xs t 0 = true := by
  simp only [takeB, hc, Bool.true_and, Bool.and_eq_true, decide_eq_true_eq]; omega
end Go.Proofs.Ytnjaoaamcdohoaa
