/-
  Several texts in one.
-/
import Derived.Test.YtiebnnchaopbkaaR07
import Derived.Test.YtiebnnchaopbkaaCA
import Derived.Test.YtiebnnchaopbkaaR03
import Derived.Test.YtiebnnchaopbkaaCC
import Derived.Test.YtiebnnchaopbkaaR11
import Derived.Test.YtiebnnchaopbkaaCF
import Derived.Test.YtiebnnchaopbkaaR06
import Derived.Test.YtiebnnchaopbkaaCE
/-
  Plain facts: hooks are differences of beads and gaps; no hook t, no hook that t divides, all beads down: the same. No program in this text.
-/
namespace Go.Proofs.Ytiebnnchaopbkaa

/-- The gap of a column. -/
def gapN (p : List Int) (c : Int) : Int := c - colH p c
theorem colH_iff {p : List Int} (G : Good p) (c : Int) (hc : 0 ≤ c) (r : Nat) : (r : Int) < colH p c ↔ c < p.getD r 0 := by
  obtain ⟨m, hm1, hm2, hm3⟩ : ∃ m : Nat, m ≤ p.length ∧ (∀ j, j < m → c < p.getD j 0) ∧ (m < p.length → p.getD m 0 ≤ c) := by
    have : ∀ n, n ≤ p.length → ∃ m : Nat, m ≤ n ∧ (∀ j, j < m → c < p.getD j 0) ∧ (m < n → p.getD m 0 ≤ c) := by
      intro n
      induction n with
      | zero => intro _; exact ⟨0, Nat.le_refl _, fun j hj => absurd hj (Nat.not_lt_zero _), fun h => absurd h (Nat.lt_irrefl _)⟩
      | succ n ih =>
        intro hn
        obtain ⟨m, h1, h2, h3⟩ := ih (by omega)
        by_cases e : m = n
        · subst e
          by_cases hh : c < p.getD m 0
          · exact ⟨m + 1, Nat.le_refl _, fun j hj => by rcases Nat.lt_or_ge j m with h | h; exact h2 j h; rw [show j = m by omega]; exact hh, fun h => absurd h (Nat.lt_irrefl _)⟩
          · exact ⟨m, by omega, h2, fun _ => by omega⟩
        · exact ⟨m, by omega, h2, fun _ => h3 (by omega)⟩
    exact this p.length (Nat.le_refl _)
  have he := colH_eq p c m hm1 hm2 hm3 G.down
  rw [he]
  constructor
  · intro h; exact hm2 r (by omega)
  · intro h
    rcases Nat.lt_or_ge r m with h1 | h1
    · omega
    · exfalso
      by_cases hm : m < p.length
      · have h4 := hm3 hm
        have h5 : p.getD r 0 ≤ p.getD m 0 := by
          have := down_le p G.down m (r - m)
          by_cases hr : r < p.length
          · have := this (by omega)
            rw [show m + (r - m) = r by omega] at this; exact this
          · rw [getD_out (by omega)]; have := G.pos m hm; omega
        omega
      · rw [getD_out (by omega)] at h; omega
theorem gap_lt {p : List Int} (G : Good p) {c : Int} (hc : 0 ≤ c) (r : Nat) : num p r ≠ gapN p c ∧ (gapN p c < num p r ↔ c < p.getD r 0) := by
  have h := colH_iff G c hc r
  unfold num gapN
  constructor
  · intro e
    rcases Int.lt_or_le c (p.getD r 0) with h1 | h1
    · have := h.2 h1; omega
    · have : ¬ (r : Int) < colH p c := fun hh => by have := h.1 hh; omega
      omega
  · constructor
    · intro h1
      rcases Int.lt_or_le c (p.getD r 0) with h2 | h2
      · exact h2
      · have : ¬ (r : Int) < colH p c := fun hh => by have := h.1 hh; omega
        omega
    · intro h1
      have := h.2 h1; omega
theorem part_nn {p : List Int} (G : Good p) (r : Nat) : 0 ≤ p.getD r 0 := by
  by_cases h : r < p.length
  · have := G.pos r h; omega
  · rw [getD_out (by omega)]; omega
/-- A number that is no bead is the gap of a column. -/
theorem gap_of {p : List Int} (G : Good p) {x : Int} (h : ∀ r, num p r ≠ x) : ∃ c : Int, 0 ≤ c ∧ gapN p c = x := by
  have hd : ∀ r, num p (r + 1) < num p r := fun r => by
    have := part_down G r
    unfold num; omega
  have hlow : num p (p.length + (-x).toNat) < x := by
    have h1 := h (p.length + (-x).toNat)
    rw [num_out (by omega)] at h1 ⊢
    omega
  obtain ⟨m, hm1, hm2⟩ : ∃ m, num p m < x ∧ ∀ j, j < m → x < num p j := by
    have : ∀ n, num p n < x → ∃ m, num p m < x ∧ ∀ j, j < m → x < num p j := by
      intro n
      induction n with
      | zero => intro h0; exact ⟨0, h0, fun j hj => absurd hj (Nat.not_lt_zero _)⟩
      | succ n ih =>
        intro h0
        by_cases h1 : num p n < x
        · exact ih h1
        · refine ⟨n + 1, h0, fun j hj => ?_⟩
          have h2 := h n
          have h3 : ∀ d, j + d = n → num p n ≤ num p j := by
            intro d
            induction d generalizing j with
            | zero => intro e; rw [show j = n by omega]; exact Int.le_refl _
            | succ d ihd =>
              intro e
              have := ihd (j := j + 1) (by omega) (by omega)
              have := hd j
              omega
          have := h3 (n - j) (by omega)
          omega
    exact this _ hlow
  refine ⟨x + m, ?_, ?_⟩
  · have := part_nn G m
    unfold num at hm1; omega
  · have hc : 0 ≤ x + m := by have := part_nn G m; unfold num at hm1; omega
    have key : colH p (x + m) = m := by
      have h1 := colH_iff G (x + m) hc
      have h2 : ¬ (m : Int) < colH p (x + m) := fun hh => by have := (h1 m).1 hh; unfold num at hm1; omega
      rcases Nat.eq_zero_or_pos m with h0 | h0
      · subst h0; have := (colH_bound p (x + (0 : Nat))).1; omega
      · have h3 := hm2 (m - 1) (by omega)
        have h4 := (h1 (m - 1)).2 (by unfold num at h3; omega)
        omega
    unfold gapN; rw [key]; omega
theorem hook_gap {p : List Int} (G : Good p) {r c : Nat} (hr : r < p.length) (hc : (c : Int) < p.getD r 0) : hookN p r c = num p r - gapN p c := by
  unfold hookN num gapN
  have hl := col_lt G hr hc
  rw [cols_len] at hl
  rw [cols_get p c hl]; omega
/-- No bead can be moved down by t. -/
def Dn (p : List Int) (t : Int) : Prop := ∀ r, ∃ s, num p s = num p r - t
theorem no_hook_dn {p : List Int} (G : Good p) {t : Int} (ht : 0 < t) (h : ∀ r c : Nat, r < p.length → (c : Int) < p.getD r 0 → hookN p r c ≠ t) : Dn p t := by
  intro r
  rcases Classical.em (∃ s, num p s = num p r - t) with h1 | h1
  · exact h1
  · exfalso
    obtain ⟨c, hc0, hc⟩ := gap_of G (x := num p r - t) fun s e => h1 ⟨s, e⟩
    have hlt := (gap_lt G hc0 r).2.1 (by omega)
    have hr : r < p.length := by
      rcases Nat.lt_or_ge r p.length with h2 | h2
      · exact h2
      · rw [getD_out h2] at hlt; omega
    obtain ⟨c', rfl⟩ : ∃ c' : Nat, c = c' := ⟨c.toNat, by omega⟩
    exact h r c' hr hlt (by rw [hook_gap G hr hlt, hc]; omega)
theorem dn_mul {p : List Int} {t : Int} (h : Dn p t) (r : Nat) : ∀ k : Nat, ∃ s, num p s = num p r - k * t
  | 0 => ⟨r, by simp⟩
  | k + 1 => by
    obtain ⟨s, hs⟩ := dn_mul h r k
    obtain ⟨u, hu⟩ := h s
    refine ⟨u, ?_⟩
    rw [hu, hs, Int.natCast_add, Int.add_mul]; simp; omega
theorem dn_no_div {p : List Int} (G : Good p) {t : Int} (ht : 0 < t) (h : Dn p t) (r c : Nat) (hr : r < p.length) (hc : (c : Int) < p.getD r 0) : ¬ hookN p r c % t = 0 := by
  intro hm
  have hg := hook_gap G hr hc
  have hlt := (gap_lt G (c := (c : Int)) (by omega) r).2.2 hc
  obtain ⟨q, hq⟩ : ∃ q, hookN p r c = q * t := ⟨hookN p r c / t, by have := Int.mul_ediv_add_emod (hookN p r c) t; rw [hm, Int.mul_comm] at this; omega⟩
  have hq0 : 0 < q := by
    rcases Int.lt_or_le 0 q with h1 | h1
    · exact h1
    · have : q * t ≤ 0 := Int.mul_nonpos_of_nonpos_of_nonneg h1 (by omega)
      omega
  obtain ⟨k, rfl⟩ : ∃ k : Nat, q = k := ⟨q.toNat, by omega⟩
  obtain ⟨s, hs⟩ := dn_mul h r k
  exact (gap_lt G (c := (c : Int)) (by omega) s).1 (by rw [hs]; omega)
end Go.Proofs.Ytiebnnchaopbkaa
/-
  Contracts: HooksDivisible of the program and of the model.
-/
namespace Go.Proofs.Ytiebnnchaopbkaa
open Go.RowKit

def dvB (t h : Int) : Bool := h.tmod t == 0
def divL (xs : List Int) (t : Int) : List Int := (hooksR xs).flatten.filter (dvB t)
def quoL (t : Int) (hs : List Int) : List Int := hs.map fun h => h.tdiv t
def divF (xs : List Int) (t : Int) : List Int := if crB xs t then quoL t (divL xs t) else []
theorem getD_get (F : List Int) {k : Nat} (h : k < F.length) : F.getD k 0 = F[k] := by rw [List.getD_eq_getElem?_getD, List.getElem?_eq_getElem h]; rfl
theorem quoL_len (t : Int) (hs : List Int) : (quoL t hs).length = hs.length := by simp [quoL]
theorem quoL_snoc (t : Int) {hs fs : List Int} {x : Int} (h : hs = fs ++ [x]) : quoL t hs = quoL t fs ++ [x.tdiv t] := by subst h; simp [quoL]
def divN (xs : List Int) (t : Int) : Int := ((divF xs t).length : Int)
theorem divL_len {xs : List Int} (G : Good xs) (t : Int) : (divL xs t).length ≤ 900 := by
  have h := List.length_filter_le (dvB t) (hooksR xs).flatten
  rw [flat_len] at h
  have := hooksR_tot G
  unfold divL; omega
theorem filter_snoc_t {p : Int → Bool} (xs : List Int) (k : Nat) (h : k < xs.length) (hp : p (xs.getD k 0) = true) : (xs.take (k + 1)).filter p = (xs.take k).filter p ++ [xs.getD k 0] := by
  have e : xs.getD k 0 = xs[k] := by rw [List.getD_eq_getElem?_getD, List.getElem?_eq_getElem h]; rfl
  rw [List.take_succ_eq_append_getElem h, List.filter_append, ← e, List.filter_cons_of_pos (by simpa using hp), List.filter_nil]
theorem filter_snoc_f {p : Int → Bool} (xs : List Int) (k : Nat) (h : k < xs.length) (hp : p (xs.getD k 0) = false) : (xs.take (k + 1)).filter p = (xs.take k).filter p := by
  have e : xs.getD k 0 = xs[k] := by rw [List.getD_eq_getElem?_getD, List.getElem?_eq_getElem h]; rfl
  rw [List.take_succ_eq_append_getElem h, List.filter_append, ← e, List.filter_cons_of_neg (by rw [hp]; exact Bool.false_ne_true), List.filter_nil, List.append_nil]
theorem hooksR_pos {xs : List Int} (G : Good xs) : ∀ j, j < (hooksR xs).length → 0 < ((hooksR xs).getD j []).length := by
  intro j hj
  rw [hooksR_len] at hj
  unfold hooksR
  rw [rowsF_get xs _ _ _ hj, rowF_len]
  have := G.pos j hj
  omega
theorem hooksR_bd {xs : List Int} (G : Good xs) : ∀ h ∈ (hooksR xs).flatten, 1 ≤ h ∧ h ≤ 60 := by
  intro h hh
  obtain ⟨row, hr, hm⟩ := List.mem_flatten.1 hh
  simp only [hooksR, rowsF, List.mem_map, List.mem_range] at hr
  obtain ⟨r, hrl, rfl⟩ := hr
  simp only [rowF, List.mem_map, List.mem_range] at hm
  obtain ⟨c, hc, rfl⟩ := hm
  have hx := G.le r hrl
  have hx1 := G.pos r hrl
  have hcx : (c : Int) < xs.getD r 0 := by omega
  have h1 := (colH_iff G (c : Int) (by omega) r).2 hcx
  have h0 : c < (xs.getD 0 0).toNat := by have := down_le xs G.down 0 r (by omega); rw [Nat.zero_add] at this; omega
  have h2 := cols_get xs c h0
  have h3 : colH xs (c : Int) ≤ 30 := by have := (colH_bound xs (c : Int)).2; have := G.len; omega
  unfold hookN
  rw [h2]; omega
theorem quo_ok {x t : Int} (h : 1 ≤ x ∧ x ≤ 60) (ht : 2 ≤ t ∧ t ≤ 6) : IntKind.i64.wrap (x.tdiv t) = x.tdiv t := by
  have : x.tdiv t = x / t := Int.tdiv_eq_ediv_of_nonneg (by omega)
  rw [this]
  have h1 : 0 ≤ x / t := Int.ediv_nonneg (by omega) (by omega)
  have h2 : x / t ≤ x := Int.ediv_le_self _ (by omega)
  exact IntWalk.i64_in _ (by omega)
theorem inB26 {t : Int} (h : inB 2 6 t = true) : 2 ≤ t ∧ t ≤ 6 := inB_iff.1 h

def cntD (t : Int) (R : List (List Int)) (k : Nat) : Nat := ((R.take k).flatten.filter (dvB t)).length
theorem cntD_succ (t : Int) (R : List (List Int)) (k : Nat) (h : k < R.length) : cntD t R (k + 1) = cntD t R k + ((R.getD k []).filter (dvB t)).length := by
  unfold cntD; rw [flat_succ R k h, List.filter_append, List.length_append]
theorem cntD_le (t : Int) (R : List (List Int)) (k : Nat) : cntD t R k ≤ tot R := by
  have h := List.length_filter_le (dvB t) (R.take k).flatten
  rw [flat_len] at h
  have := tot_take_le R k
  unfold cntD; omega

end Go.Proofs.Ytiebnnchaopbkaa
/-
  Plain facts: the hooks that t divides, divided by it, are the hooks of the quotient. No program in this text.
-/
namespace Go.Proofs.Ytiebnnchaopbkaa

def smN (f : Nat → Nat) : Nat → Nat
  | 0 => 0
  | n + 1 => smN f n + f n
theorem smN_congr {f g : Nat → Nat} : ∀ n, (∀ i, i < n → f i = g i) → smN f n = smN g n
  | 0, _ => rfl
  | n + 1, h => by rw [smN, smN, smN_congr n fun i hi => h i (by omega), h n (by omega)]
theorem smN_zero {f : Nat → Nat} : ∀ n, (∀ i, i < n → f i = 0) → smN f n = 0
  | 0, _ => rfl
  | n + 1, h => by rw [smN, smN_zero n fun i hi => h i (by omega), h n (by omega)]
theorem smN_add (f g : Nat → Nat) : ∀ n, smN (fun i => f i + g i) n = smN f n + smN g n
  | 0 => rfl
  | n + 1 => by rw [smN, smN, smN, smN_add f g n]; omega
theorem smN_split (f : Nat → Nat) (a : Nat) : ∀ b, smN f (a + b) = smN f a + smN (fun i => f (a + i)) b
  | 0 => rfl
  | b + 1 => by rw [← Nat.add_assoc, smN, smN, smN_split f a b]; omega
theorem smN_lay (f : Nat → Nat) (t : Nat) : ∀ M, smN f (t * M) = smN (fun i => smN (fun j => f (t * j + i)) M) t
  | 0 => by rw [Nat.mul_zero]; exact (smN_zero t fun _ _ => rfl).symm
  | M + 1 => by rw [Nat.mul_succ, smN_split, smN_lay f t M, ← smN_add]; rfl
theorem smN_one {f : Nat → Nat} (m : Nat) : ∀ n, m < n → (∀ i, i < n → i ≠ m → f i = 0) → smN f n = f m
  | 0, h, _ => absurd h (Nat.not_lt_zero _)
  | n + 1, h, h0 => by
    rw [smN]
    by_cases e : m = n
    · subst e; rw [smN_zero m fun i hi => h0 i (by omega) (by omega)]; omega
    · rw [smN_one m n (by omega) fun i hi => h0 i (by omega), h0 n (by omega) (fun e' => e e'.symm), Nat.add_zero]
theorem smN_rev (f : Nat → Nat) (n : Nat) : smN (fun j => f (n - 1 - j)) n = smN f n := by
  induction n generalizing f with
  | zero => rfl
  | succ n ih =>
    have e1 := smN_split (fun j => f (n + 1 - 1 - j)) 1 n
    have e2 : smN (fun i => f (n + 1 - 1 - (1 + i))) n = smN (fun j => f (n - 1 - j)) n := smN_congr n fun i _ => by rw [show n + 1 - 1 - (1 + i) = n - 1 - i by omega]
    rw [e2, ih f, Nat.add_comm 1 n] at e1
    rw [e1]
    show 0 + f (n + 1 - 1 - 0) + smN f n = smN f n + f n
    rw [show n + 1 - 1 - 0 = n by omega]; omega

/-- One pair: what F gives for a bead b and a gap g below it whose distance t divides. -/
def hkP (t : Nat) (F : Nat → Nat) (B : Nat → Bool) (b g : Nat) : Nat := if B b = true ∧ B g = false ∧ g < b ∧ (b - g) % t = 0 then F ((b - g) / t) else 0
def hkS (t : Nat) (F : Nat → Nat) (B : Nat → Bool) (N : Nat) : Nat := smN (fun b => smN (fun g => hkP t F B b g) N) N
theorem hkS_lay {t : Nat} (ht : 0 < t) (F : Nat → Nat) (B : Nat → Bool) (M : Nat) : hkS t F B (t * M) = smN (fun i => hkS 1 F (fun j => B (t * j + i)) M) t := by
  unfold hkS
  rw [smN_lay]
  refine smN_congr t fun i hi => smN_congr M fun j _ => ?_
  rw [smN_lay]
  rw [smN_one i t hi fun i' hi' hne => smN_zero M fun j' _ => ?_]
  · refine smN_congr M fun j' _ => ?_
    unfold hkP
    by_cases h : j' < j
    · obtain ⟨d, rfl⟩ : ∃ d, j = j' + d := ⟨j - j', by omega⟩
      have e : t * (j' + d) + i - (t * j' + i) = t * d := by rw [Nat.mul_add]; omega
      have hd : 0 < t * d := Nat.mul_pos ht (by omega)
      have e2 : j' + d - j' = d := by omega
      rw [e, e2, Nat.mul_mod_right, Nat.mul_div_cancel_left _ ht, Nat.mod_one, Nat.div_one]
      have h3 : t * j' + i < t * (j' + d) + i := by rw [Nat.mul_add]; omega
      simp only [h3, h, true_and]
    · have h3 : ¬ t * j' + i < t * j + i := by
        have := Nat.mul_le_mul_left t (show j ≤ j' by omega); omega
      simp only [h3, h, false_and, and_false, if_false]
  · unfold hkP
    rw [if_neg]
    rintro ⟨_, _, hlt, hm⟩
    have h1 : (t * j + i) % t = (t * j' + i') % t := by
      have h2 : t * j + i = (t * j' + i') + (t * j + i - (t * j' + i')) := by omega
      rw [h2, Nat.add_mod, hm, Nat.add_zero, Nat.mod_mod]
    rw [Nat.mul_add_mod, Nat.mul_add_mod, Nat.mod_eq_of_lt hi, Nat.mod_eq_of_lt hi'] at h1
    exact hne h1.symm

def lsN (F : Int → Nat) (L : List Int) : Nat := (L.map F).sum
theorem lsN_append (F : Int → Nat) (a b : List Int) : lsN F (a ++ b) = lsN F a + lsN F b := by simp [lsN]
theorem lsN_rowF (F : Int → Nat) (f : Nat → Nat → Int) (r : Nat) : ∀ n, lsN F (rowF f r n) = smN (fun c => F (f r c)) n
  | 0 => rfl
  | n + 1 => by rw [rowF_succ, lsN_append, lsN_rowF F f r n, smN]; simp [lsN]
theorem lsN_rowsF (F : Int → Nat) (xs : List Int) (f : Nat → Nat → Int) : ∀ k, lsN F (rowsF xs f k).flatten = smN (fun r => smN (fun c => F (f r c)) (xs.getD r 0).toNat) k
  | 0 => rfl
  | k + 1 => by rw [rowsF_succ, List.flatten_append, lsN_append, lsN_rowsF F xs f k, smN]; simp [lsN_rowF]
theorem lsN_fnRow (F : Int → Nat) (f : Nat → Int) : ∀ n, lsN F (fnRow n f) = smN (fun c => F (f c)) n
  | 0 => rfl
  | n + 1 => by
    have : fnRow (n + 1) f = fnRow n f ++ [f n] := by simp [fnRow, List.range_succ]
    rw [this, lsN_append, lsN_fnRow F f n, smN]; simp [lsN]
theorem lsN_keep (F : Int → Nat) (P : Nat → Bool) : ∀ N, lsN F (((List.range N).filter P).map fun g : Nat => (g : Int)) = smN (fun g => if P g = true then F (g : Int) else 0) N
  | 0 => rfl
  | N + 1 => by
    rw [List.range_succ, List.filter_append, List.map_append, lsN_append, lsN_keep F P N, smN]
    cases h : P N <;> simp [lsN, h]
theorem lsN_filter (F : Int → Nat) (P : Int → Bool) : ∀ L : List Int, lsN F (L.filter P) = lsN (fun x => if P x = true then F x else 0) L
  | [] => rfl
  | x :: L => by
    have ih := lsN_filter F P L
    cases h : P x
    · rw [List.filter_cons_of_neg (by simp [h]), ih]; simp [lsN, h]
    · rw [List.filter_cons_of_pos h]; simp only [lsN, List.map_cons, List.sum_cons] at ih ⊢; rw [ih]; simp [h]
/-- A sum over places that go up onto the numbers with P. -/
theorem sm_onto {φ : Nat → Int} {m N : Nat} {P : Nat → Bool} (hup : ∀ j, j + 1 < m → φ j < φ (j + 1)) (hm : ∀ x : Int, (∃ c, c < m ∧ φ c = x) ↔ ∃ g : Nat, g < N ∧ P g = true ∧ (g : Int) = x) (F : Int → Nat) :
    smN (fun c => F (φ c)) m = smN (fun g => if P g = true then F (g : Int) else 0) N := by
  rw [← lsN_fnRow, ← lsN_keep]
  congr 1
  refine pw_ext (rise_pw fun j hj => ?_) ?_ fun x => ?_
  · rw [fnRow_len] at hj
    rw [fnRow_get _ _ _ (by omega), fnRow_get _ _ _ hj]; exact hup j hj
  · rw [List.pairwise_map]
    refine List.Pairwise.imp (fun h => ?_) (List.Pairwise.filter _ List.pairwise_lt_range)
    omega
  · unfold fnRow
    simp only [List.mem_map, List.mem_range, List.mem_filter]
    constructor
    · intro h
      obtain ⟨g, h1, h2, h3⟩ := (hm x).1 h
      exact ⟨g, ⟨h1, h2⟩, h3⟩
    · rintro ⟨g, ⟨h1, h2⟩, h3⟩
      exact (hm x).2 ⟨g, h1, h2, h3⟩

theorem gap_next {p : List Int} (G : Good p) (c : Nat) : gapN p c < gapN p ((c + 1 : Nat) : Int) := by
  have h1 := colH_iff G (c : Int) (by omega)
  have h2 := colH_iff G ((c + 1 : Nat) : Int) (by omega)
  have h3 := colH_bound p (c : Int)
  have h4 : colH p ((c + 1 : Nat) : Int) ≤ colH p c := by
    rcases Int.lt_or_le (colH p c) (colH p ((c + 1 : Nat) : Int)) with h | h
    · exfalso
      obtain ⟨m, hm⟩ : ∃ m : Nat, colH p c = m := ⟨(colH p c).toNat, by omega⟩
      have h5 := (h2 m).1 (by omega)
      have h6 := (h1 m).2 (by omega)
      omega
    · exact h
  unfold gapN; omega
theorem bead_num (p : List Int) {n j : Nat} (hj : j < n) : bead p n j = num p (n - 1 - j) + n := by unfold bead num; omega
theorem mem_beads {p : List Int} {n : Nat} {x : Int} : x ∈ beadsL p n ↔ ∃ j, j < n ∧ bead p n j = x := by
  unfold beadsL fnRow
  simp only [List.mem_map, List.mem_range]
theorem no_bead {p : List Int} {n : Nat} (hn : p.length ≤ n) {x : Int} (hx : 0 ≤ x) (h : x ∉ beadsL p n) (s : Nat) : num p s ≠ x - n := by
  intro e
  by_cases hs : s < n
  · exact h (mem_beads.2 ⟨n - 1 - s, by omega, by rw [bead_num p (by omega), show n - 1 - (n - 1 - s) = s by omega]; omega⟩)
  · rw [num_out (by omega)] at e; omega
def bmB (L : List Int) (b : Nat) : Bool := decide ((b : Int) ∈ L)
def gpB (L : List Int) (b g : Nat) : Bool := !bmB L g && decide (g < b)
/-- The hooks of a row are what lies between its bead and the gaps below it. -/
theorem row_sum {p : List Int} (G : Good p) {n N : Nat} (hn : p.length ≤ n) (r b : Nat) (hb : num p r + n = (b : Int)) (hN : b < N) (F : Int → Nat) :
    smN (fun c => F (hookN p r c)) (p.getD r 0).toNat = smN (fun g => if gpB (beadsL p n) b g = true then F ((b : Int) - g) else 0) N := by
  have h1 : smN (fun c => F (hookN p r c)) (p.getD r 0).toNat = smN (fun c => F ((b : Int) - (gapN p c + n))) (p.getD r 0).toNat := by
    refine smN_congr _ fun c hc => ?_
    have hc' : (c : Int) < p.getD r 0 := by omega
    have hrl : r < p.length := by
      rcases Nat.lt_or_ge r p.length with h | h
      · exact h
      · rw [getD_out h] at hc'; omega
    rw [hook_gap G hrl hc']; congr 1; omega
  rw [h1]
  refine sm_onto (φ := fun c => gapN p c + n) (F := fun x => F ((b : Int) - x)) (fun j _ => by have := gap_next G j; omega) fun x => ?_
  constructor
  · rintro ⟨c, hc, rfl⟩
    have hg := gap_lt G (c := c) (by omega)
    have hlow : 0 ≤ gapN p c + n := by have := (colH_bound p (c : Int)).2; unfold gapN; omega
    have h2 := (hg r).2.2 (by omega)
    refine ⟨(gapN p c + n).toNat, by omega, ?_, by omega⟩
    unfold gpB bmB
    rw [Bool.and_eq_true, Bool.not_eq_true', decide_eq_false_iff_not, decide_eq_true_eq]
    refine ⟨fun hm => ?_, by omega⟩
    obtain ⟨j, hj, e⟩ := mem_beads.1 hm
    rw [bead_num p hj] at e
    exact (hg (n - 1 - j)).1 (by omega)
  · rintro ⟨g, _, h2, rfl⟩
    unfold gpB bmB at h2
    rw [Bool.and_eq_true, Bool.not_eq_true', decide_eq_false_iff_not, decide_eq_true_eq] at h2
    obtain ⟨c, hc0, hc⟩ := gap_of G (no_bead hn (by omega) h2.1)
    obtain ⟨c, rfl⟩ : ∃ m : Nat, c = m := ⟨c.toNat, by omega⟩
    have h3 := (gap_lt G hc0 r).2.1 (by omega)
    exact ⟨c, by omega, by omega⟩
theorem hooks_sum {p : List Int} (G : Good p) {n N : Nat} (hn : p.length ≤ n) (hN : ∀ x ∈ beadsL p n, x < (N : Int)) (F : Int → Nat) :
    lsN F (hooksR p).flatten = smN (fun b => if bmB (beadsL p n) b = true then smN (fun g => if gpB (beadsL p n) b g = true then F ((b : Int) - g) else 0) N else 0) N := by
  unfold hooksR
  rw [lsN_rowsF]
  have h1 : smN (fun r => smN (fun c => F (hookN p r c)) (p.getD r 0).toNat) p.length = smN (fun r => smN (fun c => F (hookN p r c)) (p.getD r 0).toNat) n := by
    obtain ⟨d, rfl⟩ : ∃ d, n = p.length + d := ⟨n - p.length, by omega⟩
    rw [smN_split, smN_zero (f := fun i => smN (fun c => F (hookN p (p.length + i) c)) (p.getD (p.length + i) 0).toNat) d fun i _ => by rw [getD_out (by omega)]; rfl, Nat.add_zero]
  have hge : ∀ j, j < n → 0 ≤ bead p n j := fun j _ => by have := part_nn G (n - 1 - j); unfold bead; omega
  rw [h1, ← smN_rev]
  have h2 : smN (fun j => smN (fun c => F (hookN p (n - 1 - j) c)) (p.getD (n - 1 - j) 0).toNat) n = smN (fun j => smN (fun g => if gpB (beadsL p n) (bead p n j).toNat g = true then F (bead p n j - g) else 0) N) n := by
    refine smN_congr n fun j hj => ?_
    have h3 := hge j hj
    have h4 := hN _ (mem_beads.2 ⟨j, hj, rfl⟩)
    rw [row_sum (N := N) G hn (n - 1 - j) (bead p n j).toNat (by have := bead_num p hj; omega) (by omega) F]
    rw [show ((bead p n j).toNat : Int) = bead p n j by omega]
  rw [h2]
  rw [sm_onto (φ := bead p n) (P := bmB (beadsL p n)) (N := N) (F := fun x => smN (fun g => if gpB (beadsL p n) x.toNat g = true then F (x - g) else 0) N) (fun j hj => ?_) fun x => ?_]
  · rfl
  · have := part_down G (n - 1 - (j + 1))
    unfold bead
    rw [show n - 1 - (j + 1) + 1 = n - 1 - j by omega] at this
    omega
  · rw [← mem_beads]
    unfold bmB
    constructor
    · intro h
      obtain ⟨j, hj, e⟩ := mem_beads.1 h
      have := hN x h
      have := hge j hj
      exact ⟨x.toNat, by omega, by rw [decide_eq_true_eq, show (x.toNat : Int) = x by omega]; exact h, by omega⟩
    · rintro ⟨g, _, h, rfl⟩
      exact of_decide_eq_true h

theorem dv_nat {t b g : Nat} (h : g < b) : dvB t ((b : Int) - g) = decide ((b - g) % t = 0) ∧ (((b : Int) - g).tdiv t).toNat = (b - g) / t := by
  obtain ⟨d, rfl⟩ : ∃ d, b = g + d := ⟨b - g, by omega⟩
  have e1 : ((g + d : Nat) : Int) - g = (d : Nat) := by omega
  rw [e1, show g + d - g = d by omega]
  unfold dvB
  rw [← Int.ofNat_tmod, ← Int.ofNat_tdiv]
  refine ⟨?_, Int.toNat_natCast _⟩
  by_cases h2 : d % t = 0
  · rw [h2]; rfl
  · rw [decide_eq_false h2]
    exact beq_eq_false_iff_ne.2 (by omega)
/-- A sum over the hooks that t divides, each divided by it, is the sum over pairs of beads and gaps. -/
theorem div_sum {p : List Int} (G : Good p) {n N : Nat} (hn : p.length ≤ n) (hN : ∀ x ∈ beadsL p n, x < (N : Int)) (t : Nat) (F : Nat → Nat) :
    lsN (fun h => F h.toNat) (quoL t (divL p t)) = hkS t F (bmB (beadsL p n)) N := by
  have h1 : lsN (fun h => F h.toNat) (quoL t (divL p t)) = lsN (fun h => if dvB t h = true then F (h.tdiv t).toNat else 0) (hooksR p).flatten := by
    rw [← lsN_filter (fun h => F (h.tdiv t).toNat) (dvB t)]
    unfold divL quoL lsN
    rw [List.map_map]; rfl
  rw [h1, hooks_sum G hn hN]
  unfold hkS
  refine smN_congr N fun b _ => ?_
  cases hb : bmB (beadsL p n) b
  · rw [if_neg (by simp)]
    exact (smN_zero N fun g _ => by unfold hkP; rw [if_neg]; rintro ⟨h, _⟩; rw [hb] at h; cases h).symm
  · rw [if_pos rfl]
    refine smN_congr N fun g _ => ?_
    unfold gpB hkP
    cases hg : bmB (beadsL p n) g
    · by_cases hlt : g < b
      · obtain ⟨e1, e2⟩ := dv_nat (t := t) hlt
        rw [e1, e2]
        by_cases h2 : (b - g) % t = 0
        · simp [hlt, h2, hb]
        · simp [h2]
      · simp [hlt]
    · simp
theorem mem_run {t i : Nat} (hi : i < t) (L : List Int) (j : Nat) : bmB (rnL t L i) j = bmB L (t * j + i) := by
  have ht : (0 : Int) < t := by omega
  unfold bmB rnL
  congr 1
  refine propext ?_
  simp only [List.mem_map, List.mem_filter, decide_eq_true_eq]
  constructor
  · rintro ⟨x, ⟨hx, hm⟩, hd⟩
    have := Int.mul_ediv_add_emod x t
    rw [hd, hm] at this
    rw [show ((t * j + i : Nat) : Int) = x by rw [← this]; omega]; exact hx
  · intro h
    have := lay_div (t := t) (y := (j : Int)) hi
    exact ⟨_, ⟨h, by rw [← this.2]; congr 1; rw [Int.mul_comm]; omega⟩, by rw [← this.1]; congr 1; rw [Int.mul_comm]; omega⟩
theorem one_quo (q : List Int) : quoL (1 : Nat) (divL q (1 : Nat)) = (hooksR q).flatten := by
  unfold quoL divL
  have h : ∀ h : Int, dvB (1 : Nat) h = true := fun h => by unfold dvB; simp
  rw [List.filter_eq_self.2 fun a _ => h a]
  simp
theorem perm_of {a b : List Nat} (h : ∀ F : Nat → Nat, (a.map F).sum = (b.map F).sum) : a.Perm b := by
  rw [List.perm_iff_count]
  intro v
  have key : ∀ L : List Nat, L.count v = (L.map fun x => if x = v then 1 else 0).sum := by
    intro L
    induction L with
    | nil => rfl
    | cons x L ih => rw [List.count_cons, ih]; simp only [List.map_cons, List.sum_cons, beq_iff_eq]; omega
  rw [key, key, h]
theorem lsN_flat (F : Int → Nat) (f : Nat → List Int) : ∀ t, lsN F ((List.range t).map f).flatten = smN (fun i => lsN F (f i)) t
  | 0 => rfl
  | t + 1 => by rw [List.range_succ, List.map_append, List.flatten_append, lsN_append, lsN_flat F f t, smN]; simp
theorem quo_perm {p : List Int} (G : Good p) {t n : Nat} (ht : 0 < t) (hn : p.length ≤ n) (hq : ∀ i, i < t → Good (partsL (rnL t (beadsL p n) i)) ∧ Rises 0 1000 (rnL t (beadsL p n) i)) (hb : ∀ x ∈ beadsL p n, x ≤ 1000) :
    ((quoL t (divL p t)).map Int.toNat).Perm ((((List.range t).map fun i => (hooksR (partsL (rnL t (beadsL p n) i))).flatten).flatten).map Int.toNat) := by
  refine perm_of fun F => ?_
  rw [List.map_map, List.map_map]
  show lsN (fun h => F h.toNat) _ = lsN (fun h => F h.toNat) _
  rw [div_sum G hn (N := t * 1001) (fun x hx => by have := hb x hx; have : 1 * 1001 ≤ t * 1001 := Nat.mul_le_mul_right _ ht; omega), hkS_lay ht, lsN_flat]
  refine smN_congr t fun i hi => ?_
  obtain ⟨G2, R2⟩ := hq i hi
  have hbl := beadsL_parts R2
  rw [← one_quo, div_sum G2 (partsL_len _) (N := 1001) (fun x hx => by
    rw [hbl] at hx
    obtain ⟨k, hk, rfl⟩ := mem_getD.1 hx
    have := (R2.bd k hk).2; omega), hbl]
  congr 1
  funext j
  exact (mem_run hi _ _).symm
end Go.Proofs.Ytiebnnchaopbkaa
