/-
  Doubles of strict partitions, and what they are in Maya's numbers. Checked for each one.
-/
import Derived.Test.YtphfmlfojebjkaaAlsMath
import Derived.Test.YtphfmlfojebjkaaBlMath
import Derived.Test.YtphfmlfojebjkaaUnMath
namespace Go.Proofs.Ytphfmlfojebjkaa

/-- The first k rows of the double. -/
def dbA (p : List Int) : Nat → List Int
  | 0 => []
  | k + 1 => dbA p k ++ [p.getD k 0 + k + 1]
/-- How many of the first k rows reach beyond the column r. -/
def dbN (p : List Int) (r : Nat) : Nat → Nat
  | 0 => 0
  | k + 1 => dbN p r k + if (r : Int) < p.getD k 0 + k then 1 else 0
/-- The rows below, from column r on. -/
def dbC (p : List Int) : Nat → Nat → List Int
  | 0, _ => []
  | f + 1, r => if dbN p r p.length = 0 then [] else ((dbN p r p.length : Nat) : Int) :: dbC p f (r + 1)
def dbL (p : List Int) : List Int := dbA p p.length ++ dbC p 61 p.length
def dmL (p : List Int) : List Int := p ++ (p.reverse.map fun x => -x)
theorem dbA_len (p : List Int) : ∀ k, (dbA p k).length = k
  | 0 => rfl
  | k + 1 => by rw [dbA, List.length_append, dbA_len p k]; rfl
theorem dbN_le (p : List Int) (r : Nat) : ∀ k, dbN p r k ≤ k
  | 0 => Nat.le_refl _
  | k + 1 => by have := dbN_le p r k; rw [dbN]; split <;> omega
theorem dbN_zero {p : List Int} {r : Nat} : ∀ k, (∀ j, j < k → p.getD j 0 + j ≤ r) → dbN p r k = 0
  | 0, _ => rfl
  | k + 1, h => by rw [dbN, dbN_zero k (fun j hj => h j (by omega)), if_neg (by have := h k (by omega); omega)]
/-- Every strict partition is listed. -/
theorem sBg_mem {g : Nat → Nat → List (List Int)} {n : Nat} {r : List Int} : ∀ k, ∀ q, q < k → ∀ t, t ∈ g (n - (q + 1)) q → r = ((q + 1 : Nat) : Int) :: t → r ∈ sBg g n k
  | 0, q, h, _, _, _ => absurd h (by omega)
  | k + 1, q, h, t, ht, e => by
    rw [sBg, List.mem_append]
    by_cases hq : q = k
    · subst hq
      exact .inl (List.mem_map.2 ⟨t, ht, e.symm⟩)
    · exact .inr (sBg_mem k q (by omega) t ht e)
theorem sA_mem : ∀ (p : List Int) (f n m : Nat), p.Pairwise (· > ·) → (∀ y ∈ p, 1 ≤ y ∧ y ≤ m) → p.sum = n → n ≤ f → p ∈ sA f n m
  | [], f, n, m, _, _, hs, _ => by
    have h0 : n = 0 := by simp at hs; omega
    subst h0; rw [sA_zero]; simp
  | x :: t, f, n, m, hp, hb, hs, hf => by
    have hp' := List.pairwise_cons.1 hp
    have hx := hb x (List.mem_cons_self ..)
    rw [List.sum_cons] at hs
    have ht0 : 0 ≤ t.sum := by
      have : ∀ l : List Int, (∀ y ∈ l, 0 ≤ y) → 0 ≤ l.sum := by
        intro l
        induction l with
        | nil => simp
        | cons a l ih => intro h; rw [List.sum_cons]; have := h a (List.mem_cons_self ..); have := ih fun y hy => h y (List.mem_cons_of_mem _ hy); omega
      exact this t fun y hy => by have := hb y (List.mem_cons_of_mem _ hy); omega
    obtain ⟨q, hq⟩ : ∃ q : Nat, x = ((q + 1 : Nat) : Int) := ⟨(x - 1).toNat, by omega⟩
    obtain ⟨g, rfl⟩ : ∃ g, f = g + 1 := ⟨f - 1, by omega⟩
    rw [sA_next (by omega)]
    refine sBg_mem (min n m) q (by omega) t ?_ (by rw [hq])
    exact sA_mem t g (n - (q + 1)) q hp'.2 (fun y hy => ⟨(hb y (List.mem_cons_of_mem _ hy)).1, by have := hp'.1 y hy; omega⟩) (by omega) (by omega)
theorem db_chk : ((List.range 16).all fun n => (sA 15 n n).all fun p => unOk (dmL p) && (decide (unF (dmL p) = dbL p) && (decide (mayaL (dbL p) = dmL p) && good (dbL p)))) = true := by decide +kernel
theorem db_big : ((List.range 15).all fun n => (sA 30 (n + 16) (n + 16)).all fun p => decide (30 < (dbL p).sum)) = true := by decide +kernel
theorem str_mem {p : List Int} {f : Nat} (h : strB p = true) (hf : p.sum.toNat ≤ f) : p ∈ sA f p.sum.toNat p.sum.toNat := by
  have G := strB_good h
  have h0 := G.sum0
  refine sA_mem p f _ _ (strB_pairwise h) (fun y hy => ?_) (by omega) hf
  obtain ⟨j, hj, rfl⟩ := List.mem_iff_getElem.1 hy
  have h1 := G.pos j hj
  have h2 := part_sum p (fun i hi => by have := G.pos i hi; omega) j hj
  have e : p.getD j 0 = p[j] := by rw [List.getD_eq_getElem?_getD, List.getElem?_eq_getElem hj]; rfl
  rw [e] at h1 h2
  exact ⟨h1, by omega⟩
theorem db_ok {p : List Int} (h : strB p = true) (h15 : p.sum ≤ 15) : unOk (dmL p) = true ∧ unF (dmL p) = dbL p ∧ mayaL (dbL p) = dmL p ∧ good (dbL p) = true := by
  have h0 := (strB_good h).sum0
  have h1 := List.all_eq_true.1 db_chk p.sum.toNat (List.mem_range.2 (by omega))
  have h2 := List.all_eq_true.1 h1 p (str_mem h (by omega))
  simpa using h2
theorem db_no {p : List Int} (h : strB p = true) (h15 : 15 < p.sum) : 30 < (dbL p).sum := by
  have h0 := (strB_good h).sum
  have h1 := List.all_eq_true.1 db_big (p.sum.toNat - 16) (List.mem_range.2 (by omega))
  have h2 := List.all_eq_true.1 h1 p (by rw [show p.sum.toNat - 16 + 16 = p.sum.toNat by omega]; exact str_mem h (by omega))
  simpa using h2
end Go.Proofs.Ytphfmlfojebjkaa
