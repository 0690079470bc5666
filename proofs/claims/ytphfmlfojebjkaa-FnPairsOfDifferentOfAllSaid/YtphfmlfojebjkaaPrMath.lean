/-
  Plain facts on pairs of strict partitions. No program in this text.
-/
import Derived.Test.YtphfmlfojebjkaaBrMath
namespace Go.Proofs.Ytphfmlfojebjkaa

def slG (xs : List Int) : Nat → Nat → Nat
  | 0, k => k
  | f + 1, k => if k < xs.length ∧ xs.getD k 0 = xs.getD (k - 1) 0 - 1 then slG xs f (k + 1) else k
theorem slG_yes {xs : List Int} {f k : Nat} (h1 : k < xs.length) (h2 : xs.getD k 0 = xs.getD (k - 1) 0 - 1) : slG xs (f + 1) k = slG xs f (k + 1) := by rw [slG, if_pos ⟨h1, h2⟩]
theorem slG_no {xs : List Int} {f k : Nat} (h : ¬ (k < xs.length ∧ xs.getD k 0 = xs.getD (k - 1) 0 - 1)) : slG xs f k = k := by
  cases f with
  | zero => rfl
  | succ f => rw [slG, if_neg h]
def slN (xs : List Int) : Nat := slG xs (xs.length - 1) 1
theorem slG_facts {xs : List Int} (f : Nat) : ∀ k, k + f = xs.length → k ≤ slG xs f k ∧ slG xs f k ≤ xs.length ∧ (slG xs f k < xs.length → xs.getD (slG xs f k) 0 ≠ xs.getD (slG xs f k - 1) 0 - 1) := by
  induction f with
  | zero =>
    intro k h
    have e : slG xs 0 k = k := rfl
    rw [e]
    exact ⟨Nat.le_refl _, by omega, fun h1 => by omega⟩
  | succ f ih =>
    intro k h
    by_cases h2 : xs.getD k 0 = xs.getD (k - 1) 0 - 1
    · rw [slG_yes (by omega) h2]
      have := ih (k + 1) (by omega)
      exact ⟨by omega, this.2⟩
    · rw [slG_no (fun h => h2 h.2)]
      exact ⟨Nat.le_refl _, by omega, fun _ => h2⟩
theorem slN_facts {xs : List Int} (h : 0 < xs.length) : 1 ≤ slN xs ∧ slN xs ≤ xs.length ∧ (slN xs < xs.length → xs.getD (slN xs) 0 ≠ xs.getD (slN xs - 1) 0 - 1) := slG_facts _ 1 (by omega)

/-- The first m parts changed by v. -/
def bmp (xs : List Int) (v : Int) : Nat → List Int
  | 0 => xs
  | m + 1 => (bmp xs v m).set m ((bmp xs v m).getD m 0 + v)
theorem bmp_succ (xs : List Int) (v : Int) (m : Nat) : (bmp xs v m).set m ((bmp xs v m).getD m 0 + v) = bmp xs v (m + 1) := rfl
theorem bmp_len (xs : List Int) (v : Int) : ∀ m, (bmp xs v m).length = xs.length
  | 0 => rfl
  | m + 1 => by rw [bmp, List.length_set, bmp_len xs v m]
theorem getD_setP (xs : List Int) (k j : Nat) (x : Int) (h : k < xs.length) : (xs.set k x).getD j 0 = if j = k then x else xs.getD j 0 := by
  rw [List.getD_eq_getElem?_getD, List.getElem?_set]
  by_cases e : k = j
  · subst e; rw [if_pos rfl, if_pos rfl, if_pos h]; rfl
  · rw [if_neg e, if_neg (fun h => e h.symm), List.getD_eq_getElem?_getD]
theorem bmp_get (xs : List Int) (v : Int) : ∀ m, m ≤ xs.length → ∀ j, (bmp xs v m).getD j 0 = if j < m then xs.getD j 0 + v else xs.getD j 0
  | 0, _, j => by rw [bmp, if_neg (by omega)]
  | m + 1, h, j => by
    rw [bmp, getD_setP _ _ _ _ (by rw [bmp_len]; omega), bmp_get xs v m (by omega) j, bmp_get xs v m (by omega) m]
    by_cases e : j = m
    · subst e; rw [if_pos rfl, if_neg (by omega), if_pos (by omega)]
    · rw [if_neg e]
      by_cases h2 : j < m
      · rw [if_pos h2, if_pos (by omega)]
      · rw [if_neg h2, if_neg (by omega)]
theorem sum_setP : ∀ (p : List Int) (r : Nat), r < p.length → ∀ x : Int, (p.set r x).sum = p.sum + x - p.getD r 0
  | y :: t, 0, _, x => by simp [List.sum_cons]; omega
  | y :: t, r + 1, h, x => by
    have := sum_setP t r (by simpa using h) x
    rw [List.set_cons_succ, List.sum_cons, List.sum_cons, this, List.getD_cons_succ]; omega
theorem bmp_sum (xs : List Int) (v : Int) : ∀ m : Nat, m ≤ xs.length → (bmp xs v m).sum = xs.sum + m * v
  | 0, _ => by simp [bmp]
  | m + 1, h => by
    rw [bmp, sum_setP _ _ (by rw [bmp_len]; omega), bmp_sum xs v m (by omega)]
    rw [show ((m + 1 : Nat) : Int) * v = m * v + v by rw [Int.natCast_add, Int.add_mul]; simp]
    omega

/-- The list that is made when the last part is greater than the slope. -/
def dnL (xs : List Int) : List Int := bmp xs (-1) (slN xs) ++ [(slN xs : Int)]
theorem dnL_len (xs : List Int) : (dnL xs).length = xs.length + 1 := by rw [dnL, List.length_append, bmp_len]; rfl
theorem dnL_get {xs : List Int} (h : 0 < xs.length) {j : Nat} (hj : j < xs.length) : (dnL xs).getD j 0 = if j < slN xs then xs.getD j 0 - 1 else xs.getD j 0 := by
  have hb := bmp_get xs (-1) (slN xs) (slN_facts h).2.1 j
  rw [dnL, List.getD_eq_getElem?_getD, List.getElem?_append_left (by rw [bmp_len]; exact hj), ← List.getD_eq_getElem?_getD, hb]
  rfl
theorem dnL_last (xs : List Int) : (dnL xs).getD xs.length 0 = slN xs := by
  rw [dnL, List.getD_eq_getElem?_getD, List.getElem?_append_right (by rw [bmp_len]; omega), bmp_len, Nat.sub_self]; rfl
theorem dcr_all {xs : List Int} : ∀ n, (∀ k, k < n → xs.getD (k + 1) 0 < xs.getD k 0) → dcrTo xs n = true
  | 0, _ => rfl
  | n + 1, h => by rw [dcrTo, dcr_all n (fun k hk => h k (by omega))]; simpa using h n (by omega)
theorem dnL_ok {xs : List Int} (h : strB xs = true) (h0 : 0 < xs.length) :
    strB (dnL xs) = decide ((slN xs : Int) < (dnL xs).getD (xs.length - 1) 0) := by
  obtain ⟨f1, f2, f3⟩ := slN_facts h0
  have G := strB_good h
  by_cases hd : (slN xs : Int) < (dnL xs).getD (xs.length - 1) 0
  · rw [decide_eq_true hd]
    have step : ∀ k, k < xs.length → (dnL xs).getD (k + 1) 0 < (dnL xs).getD k 0 := by
      intro k hk
      by_cases e : k + 1 = xs.length
      · rw [e, dnL_last, show k = xs.length - 1 by omega]; exact hd
      · rw [dnL_get h0 hk, dnL_get h0 (by omega)]
        have hlt := strB_lt h (show k < k + 1 by omega) (by omega)
        by_cases e1 : k + 1 < slN xs
        · rw [if_pos e1, if_pos (by omega)]; omega
        · rw [if_neg e1]
          by_cases e2 : k < slN xs
          · rw [if_pos e2]
            have e3 : slN xs = k + 1 := by omega
            have := f3 (by omega)
            rw [e3, Nat.add_sub_cancel] at this
            omega
          · rw [if_neg e2]; exact hlt
    have hdc : dcr (dnL xs) = true := by
      unfold dcr
      rw [dnL_len, Nat.add_sub_cancel]
      exact dcr_all _ step
    have hpos : ∀ j, j < (dnL xs).length → 1 ≤ (dnL xs).getD j 0 := by
      have aux : ∀ d j, j + d = xs.length → 1 ≤ (dnL xs).getD j 0 := by
        intro d
        induction d with
        | zero => intro j hj; rw [show j = xs.length by omega, dnL_last]; omega
        | succ d ih => intro j hj; have := ih (j + 1) (by omega); have := step j (by omega); omega
      intro j hj
      rw [dnL_len] at hj
      exact aux (xs.length - j) j (by omega)
    have hsum : (dnL xs).sum = xs.sum := by
      rw [dnL, List.sum_append, bmp_sum xs (-1) _ f2]; simp; omega
    have hdown : ∀ j, j + 1 < (dnL xs).length → (dnL xs).getD (j + 1) 0 ≤ (dnL xs).getD j 0 := fun j hj => by
      rw [dnL_len] at hj; have := step j (by omega); omega
    have hle : ∀ j, j < (dnL xs).length → (dnL xs).getD j 0 ≤ 30 := by
      have h00 : (dnL xs).getD 0 0 ≤ 30 := by
        rw [dnL_get h0 h0]; have := G.le 0 h0; split <;> omega
      intro j hj
      have := down_le (dnL xs) hdown 0 j (by omega)
      rw [Nat.zero_add] at this; omega
    have hlen : (dnL xs).length ≤ 30 := by
      have : ∀ (ys : List Int), (∀ j, j < ys.length → 1 ≤ ys.getD j 0) → (ys.length : Int) ≤ ys.sum := by
        intro ys
        induction ys with
        | nil => intro _; simp
        | cons y t ih =>
          intro hh
          have a := hh 0 (by simp)
          have b := ih (fun j hj => by have := hh (j + 1) (by simp; omega); simpa using this)
          simp only [List.getD_cons_zero] at a
          rw [List.sum_cons, List.length_cons]; omega
      have := this _ hpos
      have := G.sum
      omega
    have hG : Good (dnL xs) := ⟨hlen, hpos, hle, hdown, by rw [hsum]; exact G.sum0, by rw [hsum]; exact G.sum⟩
    rw [strB, (good_iff _).2 hG, hdc]; rfl
  · rw [decide_eq_false hd]
    cases hb : strB (dnL xs)
    · rfl
    · have := strB_lt hb (show xs.length - 1 < xs.length by omega) (by rw [dnL_len]; omega)
      rw [dnL_last] at this
      exact absurd this hd

def prV (xs : List Int) : Option (List Int) :=
  if xs.getD (xs.length - 1) 0 ≤ (slN xs : Int) then
    if xs.getD (xs.length - 1) 0 = xs.length then none else some (bmp (xs.take (xs.length - 1)) 1 (xs.getD (xs.length - 1) 0).toNat)
  else if strB (dnL xs) then some (dnL xs) else none
def prO (xs : List Int) : Option (List Int) := if strB xs && decide (0 < xs.length) then prV xs else none
def prF (xs : List Int) : List Int := (prO xs).getD []
def prB (xs : List Int) : Bool := (prO xs).isSome
theorem prO_no {xs : List Int} (h : strB xs = false) : prO xs = none := by simp [prO, h]
theorem prO_nil {xs : List Int} (h : xs.length = 0) : prO xs = none := by simp [prO, h]
theorem prO_yes {xs : List Int} (h : strB xs = true) (h0 : 0 < xs.length) : prO xs = prV xs := by simp [prO, h, h0]
theorem prV_dn {xs : List Int} (h : (slN xs : Int) < xs.getD (xs.length - 1) 0) : prV xs = if strB (dnL xs) = true then some (dnL xs) else none := by
  unfold prV; rw [if_neg (by omega)]
theorem prV_full {xs : List Int} (h : xs.getD (xs.length - 1) 0 ≤ (slN xs : Int)) (e : xs.getD (xs.length - 1) 0 = xs.length) : prV xs = none := by
  unfold prV; rw [if_pos h, if_pos e]
theorem prV_up {xs : List Int} (h : xs.getD (xs.length - 1) 0 ≤ (slN xs : Int)) (e : xs.getD (xs.length - 1) 0 ≠ xs.length) : prV xs = some (bmp (xs.take (xs.length - 1)) 1 (xs.getD (xs.length - 1) 0).toNat) := by
  unfold prV; rw [if_pos h, if_neg e]
theorem prF_none {xs : List Int} (h : prO xs = none) : prF xs = [] ∧ prB xs = false := by simp [prF, prB, h]
theorem prF_some {xs ys : List Int} (h : prO xs = some ys) : prF xs = ys ∧ prB xs = true := by simp [prF, prB, h]
theorem bound_PairOf (xs : List Int) : (prF xs).length ≤ 1048576 := by
  unfold prF prO
  split
  · rename_i h
    rw [Bool.and_eq_true] at h
    have := (strB_good h.1).len
    unfold prV
    split
    · split
      · simp
      · rw [Option.getD_some, bmp_len, List.length_take]; omega
    · split
      · rw [Option.getD_some, dnL_len]; omega
      · simp
  · simp
end Go.Proofs.Ytphfmlfojebjkaa
