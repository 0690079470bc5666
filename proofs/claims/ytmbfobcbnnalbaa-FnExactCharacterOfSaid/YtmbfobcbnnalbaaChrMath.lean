/-
  Plain facts on characters: both sides' sums.
-/
import Derived.Test.YtmbfobcbnnalbaaWaysM
import Derived.Test.YtmbfobcbnnalbaaCycMath
namespace Go.Proofs.Ytmbfobcbnnalbaa

/-- Cycle after cycle, forwards. -/
def chG : List Int → (List Int → Int) → List Int → Int
  | [], G, p => G p
  | c :: cs, G, p => tkF c (fun q => chG cs G q) p
theorem chG_snoc (cs : List Int) (c : Int) (G : List Int → Int) (p : List Int) : chG (cs ++ [c]) G p = chG cs (tkF c G) p := by
  induction cs generalizing p with
  | nil => rfl
  | cons x t ih =>
    simp only [List.cons_append, chG]
    congr 1
    funext q
    exact ih q
theorem tkF_congr {t : Int} {G G' : List Int → Int} {p : List Int} (h : ∀ x ∈ tkL p t, G x.1 = G' x.1) : tkF t G p = tkF t G' p := by
  unfold tkF
  congr 1
  apply List.map_congr_left
  intro x hx
  rw [h x hx]
theorem chG_congr : ∀ (cs : List Int) {G G' : List Int → Int} {p : List Int}, Good p → (∀ c ∈ cs, 1 ≤ c) → (∀ q, Good q → q.sum = p.sum - cs.sum → G q = G' q) → chG cs G p = chG cs G' p
  | [], G, G', p, Gp, _, h => h p Gp (by simp)
  | c :: cs, G, G', p, Gp, hc, h => by
    simp only [chG]
    refine tkF_congr fun x hx => ?_
    obtain ⟨h1, h2, _⟩ := tkK_mem Gp (by have := hc c (by simp); omega) p.length (Nat.le_refl _) x hx
    exact chG_congr cs h1 (fun d hd => hc d (by simp [hd])) fun q Gq hq => h q Gq (by rw [List.sum_cons]; omega)
/-- Rim after rim, as the model tells it. -/
def sumQ (p : List Int) (F : List Int → Int) (Q : List (Nat × Nat)) : Int := (Q.map fun q => takeSg p q * F (takeL p q)).sum
def chM : List Int → List Int → Int
  | [], _ => 1
  | c :: cs, p => sumQ p (fun q => chM cs q) (rimCs p c)
theorem sumQ_take (p : List Int) (F : List Int → Int) (Q : List (Nat × Nat)) (k : Nat) (h : k < Q.length) : sumQ p F (Q.take (k + 1)) = sumQ p F (Q.take k) + takeSg p (Q.getD k (0, 0)) * F (takeL p (Q.getD k (0, 0))) := by
  unfold sumQ
  rw [List.take_succ_eq_append_getElem h, List.map_append, List.sum_append]
  have e : Q.getD k (0, 0) = Q[k] := by rw [List.getD_eq_getElem?_getD, List.getElem?_eq_getElem h]; rfl
  rw [e]; simp
theorem sumQ_append (p : List Int) (F : List Int → Int) (Q R : List (Nat × Nat)) : sumQ p F (Q ++ R) = sumQ p F Q + sumQ p F R := by simp [sumQ, List.sum_append]
/-- The rows downwards and the rows upwards. -/
def rowS (p : List Int) (t : Int) (F : List Int → Int) (r : Nat) : Int := sumQ p F (rowHits p t r)
theorem sum_hits (p : List Int) (t : Int) (F : List Int → Int) : ∀ k, sumQ p F (hits (hooksR p) t k) = (fnRow k (rowS p t F)).sum
  | 0 => by simp [hits, sumQ, fnRow]
  | k + 1 => by
    rw [hits_succ]
    unfold hitsAt
    rw [sumQ_append, sum_hits p t F k]
    simp only [fnRow, List.range_succ, List.map_append, List.map_cons, List.map_nil, List.sum_append, List.sum_cons, List.sum_nil]
    unfold rowS rowHits
    omega
theorem sum_tkK (p : List Int) (t : Int) (F : List Int → Int) : ∀ k, ((tkK p t k).map fun x => x.2 * F x.1).sum = (fnRow k fun j => rowS p t F (p.length - 1 - j)).sum
  | 0 => by simp [tkK, fnRow]
  | k + 1 => by
    rw [tkK, List.map_append, List.sum_append, sum_tkK p t F k]
    simp only [fnRow, List.range_succ, List.map_append, List.map_cons, List.map_nil, List.sum_append, List.sum_cons, List.sum_nil, List.map_map]
    unfold rowS sumQ
    simp only [Function.comp_def]
    omega
theorem tkF_sumQ (p : List Int) (t : Int) (F : List Int → Int) : tkF t F p = sumQ p F (rimCs p t) := by
  unfold tkF tkL rimCs
  rw [sum_tkK, sum_hits, sum_fn_rev (rowS p t F)]
theorem chM_chG : ∀ (cs p : List Int), chM cs p = chG cs (fun _ => 1) p
  | [], _ => rfl
  | c :: cs, p => by
    simp only [chM, chG]
    rw [tkF_sumQ]
    congr 1
    funext q
    exact chM_chG cs q
def dlt (x : List Int) : List Int → Int := fun q => if q = x then 1 else 0
theorem good_zero {q : List Int} (G : Good q) (h : q.sum = 0) : q = [] := by
  have := G.len_le
  exact List.eq_nil_of_length_eq_zero (by omega)
/-- Both sides' numbers are alike. -/
theorem chG_chM {cs p : List Int} (G : Good p) (hc : ∀ c ∈ cs, 1 ≤ c) (hs : cs.sum = p.sum) : chG cs (dlt []) p = chM cs p := by
  rw [chM_chG]
  refine chG_congr cs G hc fun q Gq hq => ?_
  rw [good_zero Gq (by omega)]; rfl
end Go.Proofs.Ytmbfobcbnnalbaa
