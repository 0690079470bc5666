/-
  Several texts in one.
-/
import Derived.Test.YtmbfobcbnnalbaaCN
import Derived.Test.YtmbfobcbnnalbaaPaMath
import Derived.Test.YtmbfobcbnnalbaaCA
import Derived.Test.YtmbfobcbnnalbaaRfMath
/-
  Plain check: a cell less and a cell more, at all partitions of at most twelve cells. No program in this text.
-/
namespace Go.Proofs.Ytmbfobcbnnalbaa

/-- The sum over all partitions with a cell more. -/
def upS (p : List Int) (F : List Int → Int) : Int := ((filt (addB p) (p.length + 1)).map fun r => F (incL p r.toNat)).sum
set_option maxRecDepth 100000 in
theorem up_chk : ∀ n, n < 12 → ∀ i, i < T (n + 1) (n + 1) → ∀ j, j < T n n → tkF 1 (dlt (pa n n n j)) (pa (n + 1) (n + 1) (n + 1) i) = upS (pa n n n j) (fun q => dlt q (pa (n + 1) (n + 1) (n + 1) i)) := by decide +kernel
end Go.Proofs.Ytmbfobcbnnalbaa
/-
  Plain facts on the number of ways from one partition to another. No program in this text.
-/
namespace Go.Proofs.Ytmbfobcbnnalbaa
open Go.RowKit

theorem up_tkF {p x : List Int} (G : Good p) (Gx : Good x) (h : x.sum = p.sum + 1) (h11 : p.sum ≤ 11) : tkF 1 (dlt p) x = upS p (fun q => dlt q x) := by
  obtain ⟨j, hj, ep⟩ := good_pa G
  obtain ⟨i, hi, ex⟩ := good_pa Gx
  have hps := G.sum0
  obtain ⟨n, hn⟩ : ∃ n : Nat, p.sum = n := ⟨p.sum.toNat, by omega⟩
  have hx : x.sum = ((n + 1 : Nat) : Int) := by omega
  rw [hn, Int.toNat_natCast] at hj ep
  rw [hx, Int.toNat_natCast] at hi ex
  have := up_chk n (by omega) i hi j hj
  rw [← ep, ← ex] at this
  exact this
theorem sum_map_add {α : Type} (L : List α) (f g : α → Int) : (L.map fun x => f x + g x).sum = (L.map f).sum + (L.map g).sum := by
  induction L with
  | nil => rfl
  | cons a t ih => simp only [List.map_cons, List.sum_cons, ih]; omega
theorem sum_map_zero {α : Type} (L : List α) (f : α → Int) (h : ∀ x ∈ L, f x = 0) : (L.map f).sum = 0 := by
  induction L with
  | nil => rfl
  | cons a t ih => rw [List.map_cons, List.sum_cons, h a (by simp), ih fun x hx => h x (by simp [hx])]; rfl
theorem tkF_map (t : Int) (L : List Int) (F : Int → List Int → Int) (p : List Int) : tkF t (fun x => (L.map fun r => F r x).sum) p = (L.map fun r => tkF t (F r) p).sum := by
  induction L with
  | nil =>
    unfold tkF
    exact sum_map_zero _ _ fun x _ => by simp
  | cons a u ih =>
    rw [List.map_cons, List.sum_cons, ← ih]
    unfold tkF
    rw [← sum_map_add]
    congr 1
    apply List.map_congr_left
    intro x _
    show x.2 * ((a :: u).map fun r => F r x.1).sum = x.2 * F a x.1 + x.2 * (u.map fun r => F r x.1).sum
    rw [List.map_cons, List.sum_cons, Int.mul_add]
theorem chG_map : ∀ (cs : List Int) (L : List Int) (F : Int → List Int → Int) (p : List Int), chG cs (fun x => (L.map fun r => F r x).sum) p = (L.map fun r => chG cs (F r) p).sum
  | [], _, _, _ => rfl
  | c :: cs, L, F, p => by
    simp only [chG]
    rw [← tkF_map c L (fun r q => chG cs (F r) q) p]
    congr 1
    funext q
    exact chG_map cs L F q
def ones (j : Nat) : List Int := List.replicate j 1
theorem ones_sum (j : Nat) : (ones j).sum = j := by
  induction j with
  | zero => rfl
  | succ j ih => unfold ones at ih ⊢; rw [List.replicate_succ, List.sum_cons, ih]; omega
theorem ones_mem {j : Nat} : ∀ c ∈ ones j, (1 : Int) ≤ c := by
  intro c hc
  rw [List.eq_of_mem_replicate hc]; omega
theorem chG_ones (j : Nat) (G : List Int → Int) (q : List Int) : chG (ones (j + 1)) G q = chG (ones j) (tkF 1 G) q := by
  unfold ones
  rw [List.replicate_succ', chG_snoc]
/-- In how many ways j cells can be added to p so that q is there. -/
def nB (j : Nat) (p q : List Int) : Int := chG (ones j) (dlt p) q
theorem nB_succ {p q : List Int} {j : Nat} (G : Good p) (Gq : Good q) (h : q.sum = p.sum + (j + 1 : Nat)) (h12 : q.sum ≤ 12) : nB (j + 1) p q = upS p fun p' => nB j p' q := by
  unfold nB
  rw [chG_ones, chG_congr (ones j) Gq ones_mem (G' := fun x => upS p fun p' => dlt p' x) fun x Gx hx => ?_]
  · unfold upS
    exact chG_map (ones j) _ (fun r x => dlt (incL p r.toNat) x) q
  · rw [ones_sum] at hx
    exact up_tkF G Gx (by omega) (by omega)
def INS (p q : List Int) : Prop := p.length ≤ q.length ∧ ∀ i, i < p.length → p.getD i 0 ≤ q.getD i 0
theorem ins_iff {p q : List Int} : insideB p q = true ↔ INS p q := by
  constructor
  · intro h
    unfold insideB at h
    simp only [Bool.and_eq_true, decide_eq_true_eq, List.all_eq_true, List.mem_range] at h
    exact h
  · rintro ⟨h1, h2⟩; exact inside_yes h1 h2
theorem ins_inc {p q : List Int} {r : Nat} (hr : r ≤ p.length) (h : INS (incL p r) q) : INS p q := by
  obtain ⟨h1, h2⟩ := h
  have hl := inc_len p r
  have hle : p.length ≤ (incL p r).length := by rw [hl]; split <;> omega
  refine ⟨by omega, fun i hi => ?_⟩
  have := h2 i (by omega)
  rw [inc_get p r hr i] at this
  have h0 : (0 : Int) ≤ if i = r then 1 else 0 := by split <;> omega
  omega
theorem ins_self (p : List Int) : INS p p := ⟨Nat.le_refl _, fun _ _ => Int.le_refl _⟩
theorem ins_sum : ∀ (p q : List Int), INS p q → (∀ j, j < q.length → 1 ≤ q.getD j 0) → p.sum ≤ q.sum ∧ (p.sum = q.sum → p = q)
  | [], [], _, _ => by simp
  | [], y :: t, _, h => by
    have := len_sum (y :: t) h
    simp only [List.length_cons] at this
    simp only [List.sum_nil]
    exact ⟨by omega, fun e => by omega⟩
  | x :: s, [], h, _ => by have := h.1; simp at this
  | x :: s, y :: t, h, hp => by
    have h0 := h.2 0 (by simp)
    simp only [List.getD_cons_zero] at h0
    obtain ⟨i1, i2⟩ := ins_sum s t ⟨by have := h.1; simp at this; omega, fun i hi => by simpa using h.2 (i + 1) (by simp; omega)⟩ fun j hj => by simpa using hp (j + 1) (by simp; omega)
    simp only [List.sum_cons]
    refine ⟨by omega, fun e => ?_⟩
    rw [i2 (by omega), show x = y by omega]
theorem add_at {p : List Int} {r : Int} (h : r ∈ filt (addB p) (p.length + 1)) : ∃ k : Nat, r = k ∧ k ≤ p.length ∧ addB p k = true := by
  obtain ⟨k, h1, h2, h3⟩ := mem_filt.1 h
  exact ⟨k, h3, by omega, h2⟩
theorem nB_out {q : List Int} (Gq : Good q) (h12 : q.sum ≤ 12) : ∀ (j : Nat) (p : List Int), Good p → q.sum = p.sum + j → ¬ INS p q → nB j p q = 0
  | 0, p, _, _, h => by
    show dlt p q = 0
    unfold dlt
    rw [if_neg]
    rintro rfl
    exact h (ins_self q)
  | j + 1, p, G, hs, h => by
    rw [nB_succ G Gq hs h12]
    unfold upS
    refine sum_map_zero _ _ fun r hr => ?_
    obtain ⟨k, rfl, hk, hb⟩ := add_at hr
    rw [Int.toNat_natCast]
    exact nB_out Gq h12 j (incL p k) (inc_Good G (by omega) hk hb) (by rw [inc_sum p k hk]; omega) fun hi => h (ins_inc hk hi)
def nbN (p q : List Int) : Int := nB (q.sum - p.sum).toNat p q
def nbF (p q : List Int) : Int := wrap64 (nbN p q)
theorem nbF_out {p q : List Int} (G : Good p) (Gq : Good q) (h12 : q.sum ≤ 12) (h : ¬ INS p q) : nbF p q = 0 := by
  have e : nbN p q = 0 := by
    unfold nbN
    by_cases hs : p.sum ≤ q.sum
    · exact nB_out Gq h12 _ p G (by omega) h
    · rw [show (q.sum - p.sum).toNat = 0 by omega]
      show dlt p q = 0
      unfold dlt
      rw [if_neg]
      rintro rfl
      exact h (ins_self q)
  unfold nbF; rw [e]; exact IntWalk.wrap64_in 0 (by omega)
theorem nbF_self (p : List Int) : nbF p p = 1 := by
  have e : nbN p p = 1 := by
    unfold nbN
    rw [show (p.sum - p.sum).toNat = 0 by omega]
    show dlt p p = 1
    simp [dlt]
  unfold nbF; rw [e]; exact IntWalk.wrap64_in 1 (by omega)
/-- The sum as it is built up. -/
def swI (f : Int → Int) (L : List Int) : Nat → Int
  | 0 => 0
  | k + 1 => wrap64 (swI f L k + f (L.getD k 0))
theorem swI_eq (g : Int → Int) (L : List Int) : ∀ k, k ≤ L.length → swI (fun r => wrap64 (g r)) L k = wrap64 ((L.take k).map g).sum
  | 0, _ => (IntWalk.wrap64_in 0 (by omega)).symm
  | k + 1, h => by
    rw [swI, swI_eq g L k (by omega), List.take_succ_eq_append_getElem (by omega), List.map_append, List.sum_append]
    have e : L.getD k 0 = L[k] := by rw [List.getD_eq_getElem?_getD, List.getElem?_eq_getElem h]; rfl
    rw [e]
    simp only [List.map_cons, List.map_nil, List.sum_cons, List.sum_nil, Int.add_zero]
    exact eqw_eq ((eqw_wrap _).add (eqw_wrap _))
theorem nbF_in {p q : List Int} (G : Good p) (Gq : Good q) (h12 : q.sum ≤ 12) (h : INS p q) (hne : p ≠ q) : nbF p q = swI (fun r => nbF (incL p r.toNat) q) (filt (addB p) (p.length + 1)) (filt (addB p) (p.length + 1)).length := by
  obtain ⟨h1, h2⟩ := ins_sum p q h Gq.pos
  have hlt : p.sum < q.sum := by
    rcases Int.lt_or_eq_of_le h1 with h | h
    · exact h
    · exact absurd (h2 h) hne
  have e := swI_eq (fun r => nbN (incL p r.toNat) q) (filt (addB p) (p.length + 1)) _ (Nat.le_refl _)
  show wrap64 (nbN p q) = _
  refine Eq.trans ?_ e.symm
  rw [List.take_of_length_le (Nat.le_refl _)]
  congr 1
  obtain ⟨j, hj⟩ : ∃ j : Nat, q.sum = p.sum + (j + 1 : Nat) := ⟨(q.sum - p.sum).toNat - 1, by omega⟩
  unfold nbN
  rw [show (q.sum - p.sum).toNat = j + 1 by omega, nB_succ G Gq hj h12]
  unfold upS
  congr 1
  apply List.map_congr_left
  intro r hr
  obtain ⟨k, rfl, hk, _⟩ := add_at hr
  rw [Int.toNat_natCast, inc_sum p k hk, show (q.sum - (p.sum + 1)).toNat = j by omega]
end Go.Proofs.Ytmbfobcbnnalbaa
/-
  Plain facts on the rank of a chain. No program in this text.
-/
namespace Go.Proofs.Ytmbfobcbnnalbaa
open Go.RowKit

theorem wrap_wrap (n : Int) : wrap64 (wrap64 n) = wrap64 n := eqw_eq (eqw_wrap n)
theorem chG_zero (cs : List Int) (p : List Int) : chG cs (fun _ => 0) p = 0 := by
  have := chG_map cs [] (fun _ _ => 0) p
  simpa using this
theorem nbF_bad {p q : List Int} (Gq : Good q) (hs : p.sum ≤ q.sum) (h : ¬ Good p) : nbF p q = 0 := by
  have e : nbN p q = 0 := by
    unfold nbN nB
    rw [chG_congr (ones _) Gq ones_mem (G' := fun _ => 0) fun x Gx _ => ?_, chG_zero]
    unfold dlt
    rw [if_neg]
    rintro rfl
    exact h Gx
  unfold nbF; rw [e]; exact IntWalk.wrap64_in 0 (by omega)
theorem inc_bd {p : List Int} (G : Good p) (hs : p.sum ≤ 12) {m : Nat} (hm : m ≤ p.length) : (incL p m).length ≤ 30 ∧ ∀ j, j < (incL p m).length → 1 ≤ (incL p m).getD j 0 ∧ (incL p m).getD j 0 ≤ 30 := by
  have hl := G.len_le
  have hil := inc_len p m
  constructor
  · rw [hil]; split <;> omega
  · intro j hj
    rw [inc_get p m hm j]
    rw [hil] at hj
    by_cases e : j < p.length
    · have h1 := G.pos j e
      have h2 := part_sum p (fun i hi => by have := G.pos i hi; omega) j e
      split <;> omega
    · have hm2 : m = p.length := by split at hj <;> omega
      have hj2 : j = m := by split at hj <;> omega
      rw [if_pos hj2, List.getD_eq_getElem?_getD, List.getElem?_eq_none (by omega)]
      simp
def accR (f : Nat → Int) (x : Int) : Nat → Int
  | 0 => x
  | k + 1 => wrap64 (accR f x k + f k)
theorem accR_wrap (f : Nat → Int) {x : Int} (hx : wrap64 x = x) : ∀ k, wrap64 (accR f x k) = accR f x k
  | 0 => hx
  | _ + 1 => wrap_wrap _
def lesG (f : Nat → Int) (r : Nat) (v s : Int) : Int := if s < r then wrap64 (v + f s.toNat) else v
def swC (f : Nat → Int) (r : Nat) (x : Int) (L : List Int) (k : Nat) : Int := (L.take k).foldl (lesG f r) x
theorem swC_succ (f : Nat → Int) (r : Nat) (x : Int) (L : List Int) (k : Nat) (h : k < L.length) : swC f r x L (k + 1) = lesG f r (swC f r x L k) (L.getD k 0) := by
  unfold swC
  rw [List.take_succ_eq_append_getElem h, List.foldl_append]
  have e : L.getD k 0 = L[k] := by rw [List.getD_eq_getElem?_getD, List.getElem?_eq_getElem h]; rfl
  rw [e]; rfl
theorem foldl_filt (b : Nat → Bool) (f : Nat → Int) (r : Nat) {x : Int} (hx : wrap64 x = x) : ∀ j, (∀ s, s < j → s < r → b s = false → f s = 0) → (filt b j).foldl (lesG f r) x = accR f x (min j r)
  | 0, _ => by rw [filt_zero, Nat.zero_min]; rfl
  | j + 1, h => by
    have ih := foldl_filt b f r hx j fun s hs => h s (by omega)
    cases hb : b j
    · rw [filt_no hb, ih]
      by_cases hjr : j < r
      · rw [Nat.min_eq_left (by omega), Nat.min_eq_left (by omega), accR, h j (by omega) hjr hb, Int.add_zero, accR_wrap f hx]
      · rw [Nat.min_eq_right (by omega), Nat.min_eq_right (by omega)]
    · rw [filt_yes hb, List.foldl_append, ih]
      show lesG f r (accR f x (min j r)) (j : Int) = _
      unfold lesG
      by_cases hjr : j < r
      · rw [if_pos (by omega), Nat.min_eq_left (by omega), Nat.min_eq_left (by omega), Int.toNat_natCast]; rfl
      · rw [if_neg (by omega), Nat.min_eq_right (by omega), Nat.min_eq_right (by omega)]
/-- What is made of the first k rows. -/
def mkP (xs : List Int) : Nat → List Int
  | 0 => []
  | k + 1 => incL (mkP xs k) (xs.getD k 0).toNat
def rkT (xs q : List Int) (k s : Nat) : Int := nbF (incL (mkP xs k) s) q
def rkS (xs q : List Int) : Nat → Int
  | 0 => 0
  | k + 1 => accR (rkT xs q k) (rkS xs q k) (xs.getD k 0).toNat
theorem rkS_wrap (xs q : List Int) : ∀ k, wrap64 (rkS xs q k) = rkS xs q k
  | 0 => IntWalk.wrap64_in 0 (by omega)
  | k + 1 => accR_wrap _ (rkS_wrap xs q k) _
theorem chain_at {xs q : List Int} (h : shp [] xs = some q) (hl : xs.length ≤ 12) : ∀ k, k ≤ xs.length → Good (mkP xs k) ∧ (mkP xs k).sum = k ∧ shp (mkP xs k) (xs.drop k) = some q
  | 0, _ => ⟨good_nil, rfl, h⟩
  | k + 1, hk => by
    obtain ⟨G, hs, hd⟩ := chain_at h hl k (by omega)
    rw [shp_drop _ _ k hk] at hd
    split at hd
    · rename_i hst
      obtain ⟨r, e, hr, hb⟩ := stepB_iff.1 hst
      simp only [mkP]
      rw [e, Int.toNat_natCast]
      rw [e, Int.toNat_natCast] at hd
      exact ⟨inc_Good G (by omega) hr hb, by rw [inc_sum _ r hr]; omega, hd⟩
    · cases hd
theorem chain_row {xs q : List Int} (h : shp [] xs = some q) (hl : xs.length ≤ 12) {k : Nat} (hk : k < xs.length) : ∃ r : Nat, xs.getD k 0 = r ∧ r ≤ (mkP xs k).length ∧ addB (mkP xs k) r = true ∧ stepB (mkP xs k) (xs.getD k 0) = true := by
  obtain ⟨G, hs, hd⟩ := chain_at h hl k (by omega)
  rw [shp_drop _ _ k hk] at hd
  split at hd
  · rename_i hst
    obtain ⟨r, e, hr, hb⟩ := stepB_iff.1 hst
    exact ⟨r, e, hr, hb, hst⟩
  · cases hd
/-- The model's inner sum is the program's. -/
theorem rk_inner {xs q : List Int} (h : shp [] xs = some q) (hl : xs.length ≤ 12) {k r : Nat} (hk : k < xs.length) (hr : xs.getD k 0 = r) : swC (rkT xs q k) r (rkS xs q k) (filt (addB (mkP xs k)) ((mkP xs k).length + 1)) (filt (addB (mkP xs k)) ((mkP xs k).length + 1)).length = rkS xs q (k + 1) := by
  obtain ⟨G, hs, _⟩ := chain_at h hl k (by omega)
  obtain ⟨r', e, hrl, _, _⟩ := chain_row h hl hk
  have hrr : r' = r := by omega
  subst hrr
  obtain ⟨Gq, hq⟩ := shp_good [] xs q h good_nil (by simp; omega)
  simp only [List.sum_nil] at hq
  unfold swC
  rw [List.take_of_length_le (Nat.le_refl _), foldl_filt _ _ _ (rkS_wrap xs q k) _ fun s h1 h2 hb => ?_]
  · rw [Nat.min_eq_right (by omega)]
    show _ = accR _ _ _
    rw [hr, Int.toNat_natCast]
  · unfold rkT
    refine nbF_bad Gq ?_ fun hG => ?_
    · rw [inc_sum _ s (by omega)]; omega
    · have := inc_good G (by omega) s (by omega)
      rw [(good_iff _).2 hG, hb] at this; cases this
def rkF (xs : List Int) : Int := if shpB xs then rkS xs (shpL xs) xs.length else 0
theorem shp_some {xs : List Int} (h : shpB xs = true) : xs.length ≤ 12 ∧ shp [] xs = some (shpL xs) := by
  unfold shpB shpO at h
  unfold shpL shpO
  split at h
  · rename_i hl
    rw [if_pos hl]
    cases hs : shp [] xs with
    | none => rw [hs] at h; cases h
    | some q => exact ⟨hl, rfl⟩
  · cases h
end Go.Proofs.Ytmbfobcbnnalbaa
