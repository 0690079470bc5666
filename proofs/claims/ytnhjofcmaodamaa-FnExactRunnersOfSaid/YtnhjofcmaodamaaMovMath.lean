/-
  Plain facts: which beads can be moved down. No program in this text.
-/
import Derived.Test.YtnhjofcmaodamaaAbMath
import Derived.Test.YtnhjofcmaodamaaBrdPutC
import Derived.Test.YtnhjofcmaodamaaAba
namespace Go.Proofs.Ytnhjofcmaodamaa
open Go.RowKit

theorem filt_t {p : Int → Bool} (xs : List Int) (k : Nat) (h : k < xs.length) (hp : p (xs.getD k 0) = true) : (xs.take (k + 1)).filter p = (xs.take k).filter p ++ [xs.getD k 0] := by
  have e : xs.getD k 0 = xs[k] := by rw [List.getD_eq_getElem?_getD, List.getElem?_eq_getElem h]; rfl
  rw [List.take_succ_eq_append_getElem h, List.filter_append, ← e, List.filter_cons_of_pos (by simpa using hp), List.filter_nil]
theorem filt_f {p : Int → Bool} (xs : List Int) (k : Nat) (h : k < xs.length) (hp : p (xs.getD k 0) = false) : (xs.take (k + 1)).filter p = (xs.take k).filter p := by
  have e : xs.getD k 0 = xs[k] := by rw [List.getD_eq_getElem?_getD, List.getElem?_eq_getElem h]; rfl
  rw [List.take_succ_eq_append_getElem h, List.filter_append, ← e, List.filter_cons_of_neg (by rw [hp]; exact Bool.false_ne_true), List.filter_nil, List.append_nil]

def canMv (t : Int) (xs : List Int) (x : Int) : Bool := decide (t ≤ x) && !decide (x - t ∈ xs)
def movL (t : Int) (xs : List Int) : List Int := xs.filter (canMv t xs)
def movF (r : Int) (xs : List Int) : List Int := if isAba r xs then movL r xs else []
theorem bound_MovableBeads (r : Int) (xs : List Int) : (movF r xs).length ≤ 1048576 := by
  unfold movF
  split
  · rename_i h
    simp only [isAba, Bool.and_eq_true] at h
    have h1 := (goodB_iff.1 h.2).len
    have h2 := List.length_filter_le (canMv r xs) xs
    unfold movL; omega
  · simp
theorem set_same (F : Nat → Bool) (i : Nat) : setLn F i (lnB F i) = F := by
  funext k
  unfold setLn lnB
  split
  · congr 1; omega
  · rfl
theorem put_case {t : Nat} {xs : List Int} (ht : 2 ≤ t ∧ t ≤ 6) (G : GoodB xs) {x : Int} (hx : x ∈ xs) :
    (canMv t xs x = false → putB t (bitsK t xs xs.length) x (x - t) = bitsK t xs xs.length) ∧
    (canMv t xs x = true → ∃ k, k < 216 ∧ bitsK t xs xs.length k ≠ putB t (bitsK t xs xs.length) x (x - t) k) := by
  obtain ⟨j, hj, rfl⟩ := mem_getD.1 hx
  have hb : ∀ j, j < xs.length → 0 ≤ xs.getD j 0 ∧ xs.getD j 0 < (t : Int) * 36 := fun j hj => by have := G.top hj; omega
  have hxj := hb j hj
  obtain ⟨n, hn⟩ : ∃ n : Nat, xs.getD j 0 = (n : Int) := ⟨(xs.getD j 0).toNat, by omega⟩
  rw [hn] at hx hxj ⊢
  obtain ⟨F, hF⟩ : ∃ F, F = bitsK t xs xs.length := ⟨_, rfl⟩
  have hbits := fun {x : Nat} (h : x < t * 36) => bits_at (t := t) (by omega) hb h
  rw [← hF] at hbits ⊢
  by_cases hlt : n < t
  · have hc : canB t (n : Int) ((n : Int) - t) = false := by simp only [canB, Bool.and_eq_false_iff, decide_eq_false_iff_not]; right; right; omega
    refine ⟨fun _ => by simp [putB, hc], fun h => ?_⟩
    simp only [canMv, Bool.and_eq_true, decide_eq_true_eq] at h
    omega
  · obtain ⟨y, hy⟩ : ∃ y, y = n - t := ⟨_, rfl⟩
    have hyi : (n : Int) - t = (y : Int) := by omega
    have hny : n = y + t := by omega
    have hc : canB t (n : Int) (y : Int) = true := by simp only [canB, Bool.and_eq_true, decide_eq_true_eq]; omega
    have hmod : y % t = n % t := by rw [hny, Nat.add_mod_right]
    have hdiv : n / t = y / t + 1 := by rw [hny, Nat.add_div_right _ (by omega)]
    have hml : n % t < t := Nat.mod_lt _ (by omega)
    have hdl : n / t < 36 := by rw [Nat.div_lt_iff_lt_mul (by omega)]; omega
    have h1 := hbits (x := n) (by omega)
    have h2 := hbits (x := y) (by omega)
    rw [decide_eq_true hx] at h1
    unfold atQ at h1 h2
    rw [hmod] at h2
    have hp : putB t F (n : Int) ((n : Int) - t) = setLn F (n % t) (putR (lnB F (n % t)) ((n / t : Nat) : Int) ((y / t : Nat) : Int)) := by
      rw [hyi]; simp only [putB, hc, if_true, Int.toNat_natCast]
    rw [hp]
    have hi6 : n % t < 6 := by have := hml; omega
    obtain ⟨i, hi⟩ : ∃ i, i = n % t := ⟨_, rfl⟩
    obtain ⟨s, hs⟩ : ∃ s, s = y / t := ⟨_, rfl⟩
    obtain ⟨r, hr⟩ : ∃ r, r = n / t := ⟨_, rfl⟩
    rw [← hi] at h1 h2 hi6 ⊢
    rw [← hs] at h2 hdiv ⊢
    rw [← hr] at h1 hdiv hdl ⊢
    clear hp hml hmod hi hs hr
    have hcm : canMv t xs (n : Int) = !decide ((y : Int) ∈ xs) := by
      simp only [canMv, hyi]; rw [decide_eq_true (by omega), Bool.true_and]
    rw [hcm]
    have hcp : canPut (lnB F i) (r : Int) (s : Int) = !decide ((y : Int) ∈ xs) := by
      simp only [canPut, lnB, Int.toNat_natCast, h1, h2, Bool.true_and]
      rw [decide_eq_true (by omega), decide_eq_true (by omega)]; simp
    constructor
    · intro h
      rw [h] at hcp
      simp only [putR, hcp, Bool.false_eq_true, if_false]
      exact set_same F _
    · intro h
      rw [h] at hcp
      refine ⟨36 * i + r, by omega, ?_⟩
      rw [h1]
      simp only [setLn, putR, hcp, if_true]
      rw [if_pos (by omega), Int.toNat_natCast, Int.toNat_natCast]
      unfold updB
      rw [if_neg (by omega), if_pos (by omega)]
      decide
end Go.Proofs.Ytnhjofcmaodamaa
