/-
  Plain facts on the rank of a chain. No program in this text.
-/
import Derived.Test.YtmbfobcbnnalbaaNbMath
namespace Go.Proofs.Ytmbfobcbnnalbaa
open Go.RowKit

theorem wrap_wrap (n : Int) : wrap64 (wrap64 n) = wrap64 n := eqw_eq (eqw_wrap n)
theorem chG_zero (cs : List Int) (p : List Int) : chG cs (fun _ => 0) p = 0 := by
  have := chG_map cs [] (fun _ _ => 0) p
  simpa using this
theorem nbF_bad {p q : List Int} (Gq : Good q) (hs : p.sum ≤ q.sum) (h : ¬ Good p) : nbF p q = 0 := by
  have e : nbN p q = 0 := by
    unfold nbN nB
    rw [chG_congr (ones _) Gq ones_mem (G' := fun _ => 0) fun x Gx _ => ?_, chG_zero]
    unfold dlt
    rw [if_neg]
    rintro rfl
    exact h Gx
  unfold nbF; rw [e]; exact IntWalk.wrap64_in 0 (by omega)
theorem inc_bd {p : List Int} (G : Good p) (hs : p.sum ≤ 12) {m : Nat} (hm : m ≤ p.length) : (incL p m).length ≤ 30 ∧ ∀ j, j < (incL p m).length → 1 ≤ (incL p m).getD j 0 ∧ (incL p m).getD j 0 ≤ 30 := by
  have hl := G.len_le
  have hil := inc_len p m
  constructor
  · rw [hil]; split <;> omega
  · intro j hj
    rw [inc_get p m hm j]
    rw [hil] at hj
    by_cases e : j < p.length
    · have h1 := G.pos j e
      have h2 := part_sum p (fun i hi => by have := G.pos i hi; omega) j e
      split <;> omega
    · have hm2 : m = p.length := by split at hj <;> omega
      have hj2 : j = m := by split at hj <;> omega
      rw [if_pos hj2, List.getD_eq_getElem?_getD, List.getElem?_eq_none (by omega)]
      simp
def accR (f : Nat → Int) (x : Int) : Nat → Int
  | 0 => x
  | k + 1 => wrap64 (accR f x k + f k)
theorem accR_wrap (f : Nat → Int) {x : Int} (hx : wrap64 x = x) : ∀ k, wrap64 (accR f x k) = accR f x k
  | 0 => hx
  | _ + 1 => wrap_wrap _
def lesG (f : Nat → Int) (r : Nat) (v s : Int) : Int := if s < r then wrap64 (v + f s.toNat) else v
def swC (f : Nat → Int) (r : Nat) (x : Int) (L : List Int) (k : Nat) : Int := (L.take k).foldl (lesG f r) x
theorem swC_succ (f : Nat → Int) (r : Nat) (x : Int) (L : List Int) (k : Nat) (h : k < L.length) : swC f r x L (k + 1) = lesG f r (swC f r x L k) (L.getD k 0) := by
  unfold swC
  rw [List.take_succ_eq_append_getElem h, List.foldl_append]
  have e : L.getD k 0 = L[k] := by rw [List.getD_eq_getElem?_getD, List.getElem?_eq_getElem h]; rfl
  rw [e]; rfl
theorem foldl_filt (b : Nat → Bool) (f : Nat → Int) (r : Nat) {x : Int} (hx : wrap64 x = x) : ∀ j, (∀ s, s < j → s < r → b s = false → f s = 0) → (filt b j).foldl (lesG f r) x = accR f x (min j r)
  | 0, _ => by rw [filt_zero, Nat.zero_min]; rfl
  | j + 1, h => by
    have ih := foldl_filt b f r hx j fun s hs => h s (by omega)
    cases hb : b j
    · rw [filt_no hb, ih]
      by_cases hjr : j < r
      · rw [Nat.min_eq_left (by omega), Nat.min_eq_left (by omega), accR, h j (by omega) hjr hb, Int.add_zero, accR_wrap f hx]
      · rw [Nat.min_eq_right (by omega), Nat.min_eq_right (by omega)]
    · rw [filt_yes hb, List.foldl_append, ih]
      show lesG f r (accR f x (min j r)) (j : Int) = _
      unfold lesG
      by_cases hjr : j < r
      · rw [if_pos (by omega), Nat.min_eq_left (by omega), Nat.min_eq_left (by omega), Int.toNat_natCast]; rfl
      · rw [if_neg (by omega), Nat.min_eq_right (by omega), Nat.min_eq_right (by omega)]
/-- What is made of the first k rows. -/
def mkP (xs : List Int) : Nat → List Int
  | 0 => []
  | k + 1 => incL (mkP xs k) (xs.getD k 0).toNat
def rkT (xs q : List Int) (k s : Nat) : Int := nbF (incL (mkP xs k) s) q
def rkS (xs q : List Int) : Nat → Int
  | 0 => 0
  | k + 1 => accR (rkT xs q k) (rkS xs q k) (xs.getD k 0).toNat
theorem rkS_wrap (xs q : List Int) : ∀ k, wrap64 (rkS xs q k) = rkS xs q k
  | 0 => IntWalk.wrap64_in 0 (by omega)
  | k + 1 => accR_wrap _ (rkS_wrap xs q k) _
theorem chain_at {xs q : List Int} (h : shp [] xs = some q) (hl : xs.length ≤ 12) : ∀ k, k ≤ xs.length → Good (mkP xs k) ∧ (mkP xs k).sum = k ∧ shp (mkP xs k) (xs.drop k) = some q
  | 0, _ => ⟨good_nil, rfl, h⟩
  | k + 1, hk => by
    obtain ⟨G, hs, hd⟩ := chain_at h hl k (by omega)
    rw [shp_drop _ _ k hk] at hd
    split at hd
    · rename_i hst
      obtain ⟨r, e, hr, hb⟩ := stepB_iff.1 hst
      simp only [mkP]
      rw [e, Int.toNat_natCast]
      rw [e, Int.toNat_natCast] at hd
      exact ⟨inc_Good G (by omega) hr hb, by rw [inc_sum _ r hr]; omega, hd⟩
    · cases hd
theorem chain_row {xs q : List Int} (h : shp [] xs = some q) (hl : xs.length ≤ 12) {k : Nat} (hk : k < xs.length) : ∃ r : Nat, xs.getD k 0 = r ∧ r ≤ (mkP xs k).length ∧ addB (mkP xs k) r = true ∧ stepB (mkP xs k) (xs.getD k 0) = true := by
  obtain ⟨G, hs, hd⟩ := chain_at h hl k (by omega)
  rw [shp_drop _ _ k hk] at hd
  split at hd
  · rename_i hst
    obtain ⟨r, e, hr, hb⟩ := stepB_iff.1 hst
    exact ⟨r, e, hr, hb, hst⟩
  · cases hd
/-- The model's inner sum is the program's. -/
theorem rk_inner {xs q : List Int} (h : shp [] xs = some q) (hl : xs.length ≤ 12) {k r : Nat} (hk : k < xs.length) (hr : xs.getD k 0 = r) : swC (rkT xs q k) r (rkS xs q k) (filt (addB (mkP xs k)) ((mkP xs k).length + 1)) (filt (addB (mkP xs k)) ((mkP xs k).length + 1)).length = rkS xs q (k + 1) := by
  obtain ⟨G, hs, _⟩ := chain_at h hl k (by omega)
  obtain ⟨r', e, hrl, _, _⟩ := chain_row h hl hk
  have hrr : r' = r := by omega
  subst hrr
  obtain ⟨Gq, hq⟩ := shp_good [] xs q h good_nil (by simp; omega)
  simp only [List.sum_nil] at hq
  unfold swC
  rw [List.take_of_length_le (Nat.le_refl _), foldl_filt _ _ _ (rkS_wrap xs q k) _ fun s h1 h2 hb => ?_]
  · rw [Nat.min_eq_right (by omega)]
    show _ = accR _ _ _
    rw [hr, Int.toNat_natCast]
  · unfold rkT
    refine nbF_bad Gq ?_ fun hG => ?_
    · rw [inc_sum _ s (by omega)]; omega
    · have := inc_good G (by omega) s (by omega)
      rw [(good_iff _).2 hG, hb] at this; cases this
def rkF (xs : List Int) : Int := if shpB xs then rkS xs (shpL xs) xs.length else 0
theorem shp_some {xs : List Int} (h : shpB xs = true) : xs.length ≤ 12 ∧ shp [] xs = some (shpL xs) := by
  unfold shpB shpO at h
  unfold shpL shpO
  split at h
  · rename_i hl
    rw [if_pos hl]
    cases hs : shp [] xs with
    | none => rw [hs] at h; cases h
    | some q => exact ⟨hl, rfl⟩
  · cases h
end Go.Proofs.Ytmbfobcbnnalbaa
