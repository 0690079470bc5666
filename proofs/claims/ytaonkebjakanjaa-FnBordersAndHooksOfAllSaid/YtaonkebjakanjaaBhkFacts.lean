/-
  What the law on borders and hooks needs of a partition: the word tells it, its hooks are those of the conjugate, the squares. No walk in this text.
-/
import Derived.Test.YtaonkebjakanjaaBhkMath
import Derived.Test.YtaonkebjakanjaaFromS
namespace Go.Proofs.Ytaonkebjakanjaa
open Go.RowKit

theorem fb_reps (l : List UInt8) : ∀ k : Nat, fb (l ++ List.replicate k 82) = ((fb l).1, (fb l).2 + k)
  | 0 => by simp
  | k + 1 => by rw [List.replicate_succ', ← List.append_assoc, fb_R, fb_reps l k]; rfl
theorem hd_eq (p : List Int) : hd p = (p.getD 0 0).toNat := by
  cases p with
  | nil => rfl
  | cons x t => simp [hd, prevN, pn]
theorem word_back : ∀ p : List Int, (∀ x ∈ p, 0 ≤ x) → p.Pairwise (fun a b => b ≤ a) → fb (wordL p) = (p, hd p) ∧ (wordL p).length = p.length + hd p ∧ RU (wordL p)
  | [], _, _ => ⟨rfl, rfl, by intro c hc; simp [wordL, wordUp] at hc⟩
  | x :: t, h, hp => by
    obtain ⟨m, rfl⟩ : ∃ m : Nat, x = m := ⟨x.toNat, by have := h x (List.mem_cons_self ..); omega⟩
    have hp' := List.pairwise_cons.1 hp
    obtain ⟨i1, i2, i3⟩ := word_back t (fun y hy => h y (List.mem_cons_of_mem _ hy)) hp'.2
    have hle : hd t ≤ m := by
      rw [hd_eq]
      cases t with
      | nil => simp
      | cons a t => have := hp'.1 a (List.mem_cons_self ..); show a.toNat ≤ m; omega
    rw [wordL_cons, hd_cons, List.length_cons]
    refine ⟨?_, ?_, ?_⟩
    · rw [← List.append_assoc, fb_U, fb_reps, i1]
      show (((hd t + (m - hd t) : Nat) : Int) :: t, hd t + (m - hd t)) = _
      rw [show hd t + (m - hd t) = m by omega]
    · rw [List.length_append, List.length_append, List.length_replicate, i2, List.length_singleton]; omega
    · intro c hc
      rcases List.mem_append.1 hc with hc | hc
      · exact i3 c hc
      rcases List.mem_append.1 hc with hc | hc
      · exact .inl (List.eq_of_mem_replicate hc)
      · exact .inr (List.mem_singleton.1 hc)
theorem good_pair {xs : List Int} (G : Good xs) : (∀ x ∈ xs, 0 ≤ x) ∧ xs.Pairwise (fun a b => b ≤ a) := by
  constructor
  · intro x hx
    obtain ⟨j, hj, rfl⟩ := mem_getD_d hx
    have := G.pos j hj; omega
  · rw [List.pairwise_iff_getElem]
    intro i j hi hj hij
    have := anti_d G (Nat.le_of_lt hij) hj
    rw [List.getD_eq_getElem?_getD, List.getElem?_eq_getElem hj, List.getD_eq_getElem?_getD, List.getElem?_eq_getElem hi] at this
    exact this
theorem bl_strOf (l : List UInt8) : bl (strOf l) = l := by simp [strOf, bl]
theorem word_facts {p : List Int} (G : Good p) : fromOK (strOf (wordL p)) = true ∧ fromF (strOf (wordL p)) = p ∧ (strOf (wordL p)).size = p.length + (p.getD 0 0).toNat ∧ (strOf (wordL p)).size ≤ 60 := by
  obtain ⟨h1, h2⟩ := good_pair G
  obtain ⟨i1, i2, i3⟩ := word_back p h1 h2
  have hg : good p = true := (good_iff p).2 G
  rw [hd_eq] at i2
  have hs : (strOf (wordL p)).size ≤ 60 := by
    rw [strOf_size, i2]
    have := G.len
    rcases Nat.eq_zero_or_pos p.length with h | h
    · have : p = [] := List.eq_nil_of_length_eq_zero h
      subst this; simp
    · have := G.le 0 h; omega
  have hp : fromP (strOf (wordL p)) = p := by unfold fromP; rw [bl_strOf, i1]
  have hok : fromOK (strOf (wordL p)) = true := by
    unfold fromOK
    rw [hp, hg, bl_strOf, (ruB_iff _).2 i3, decide_eq_true hs, decide_eq_true rfl]
    rfl
  exact ⟨hok, by rw [from_yes hok, hp], by rw [strOf_size, i2], hs⟩
theorem from_word {s : ByteArray} (h : fromOK s = true) : good (fromF s) = true ∧ wordF (fromF s) = s := by
  rw [from_yes h]
  have h' := h
  unfold fromOK at h'
  rw [Bool.and_eq_true, Bool.and_eq_true, Bool.and_eq_true] at h'
  obtain ⟨_, _, hg, hw⟩ := h'
  refine ⟨hg, ?_⟩
  unfold wordF
  rw [hg, if_pos rfl, of_decide_eq_true hw, strOf_bl]
theorem hook_dual {p : List Int} (G : Good p) (r c : Nat) : hookN (cols p) c r = hookN p r c := by
  unfold hookN
  rw [cols_cols G]
  omega
theorem hook_hk {p : List Int} (G : Good p) {r c : Nat} (hr : r < p.length) (hc : (c : Int) < p.getD r 0) : hookN p r c = hk2 p r c := by
  unfold hookN hk2
  have := anti_d G (Nat.zero_le r) hr
  rw [cols_get p c (by omega)]
theorem hook_range {p : List Int} (G : Good p) {r c : Nat} (hr : r < p.length) (hc : (c : Int) < p.getD r 0) : 0 ≤ hookN p r c ∧ hookN p r c ≤ 60 := by
  rw [hook_hk G hr hc]
  unfold hk2
  have h1 := (dual G hr (c : Int)).1 hc
  have h2 := (colH_bound p (c : Int)).2
  have := G.len
  have := G.le r hr
  omega
/-- The squares over the first rows, and over the first cells of one more row. -/
def sqR (p : List Int) (f : Nat → Nat → Int) (r : Nat) : Int := smr r fun i => smr (p.getD i 0).toNat fun c => f i c * f i c
def sqX (p : List Int) (f : Nat → Nat → Int) (r c : Nat) : Int := sqR p f r + smr c fun k => f r k * f r k
theorem sqX_zero (p : List Int) (f : Nat → Nat → Int) (r : Nat) : sqX p f r 0 = sqR p f r := by unfold sqX; rw [smr_zero, Int.add_zero]
theorem sqX_succ (p : List Int) (f : Nat → Nat → Int) (r c : Nat) : sqX p f r (c + 1) = sqX p f r c + f r c * f r c := by unfold sqX; rw [smr_succ]; omega
theorem sqX_all (p : List Int) (f : Nat → Nat → Int) (r : Nat) : sqX p f r (p.getD r 0).toNat = sqR p f (r + 1) := by unfold sqX sqR; rw [smr_succ]
theorem smr_bound (g : Nat → Int) (B : Int) : ∀ n : Nat, (∀ k, k < n → 0 ≤ g k ∧ g k ≤ B) → 0 ≤ smr n g ∧ smr n g ≤ B * n
  | 0, _ => by rw [smr_zero]; simp
  | n + 1, h => by
    have := smr_bound g B n fun k hk => h k (by omega)
    have := h n (by omega)
    rw [smr_succ]
    have e : B * ((n + 1 : Nat) : Int) = B * n + B := by rw [Int.natCast_add, Int.mul_add]; simp
    omega
theorem sq_range {h : Int} (h1 : -60 ≤ h) (h2 : h ≤ 60) : 0 ≤ h * h ∧ h * h ≤ 3600 := by
  constructor
  · rcases Int.le_total 0 h with h3 | h3
    · exact Int.mul_nonneg h3 h3
    · exact Int.mul_nonneg_of_nonpos_of_nonpos h3 h3
  · have : 0 ≤ (60 - h) * (60 + h) := Int.mul_nonneg (by omega) (by omega)
    grind
theorem sqX_bound {p : List Int} (G : Good p) {f : Nat → Nat → Int} (hf : ∀ r c : Nat, r < p.length → (c : Int) < p.getD r 0 → -60 ≤ f r c ∧ f r c ≤ 60) {r c : Nat} (hr : r < p.length) (hc : (c : Int) ≤ p.getD r 0) :
    0 ≤ sqX p f r c ∧ sqX p f r c ≤ 4000000 := by
  have h1 : ∀ i, i < r → 0 ≤ smr (p.getD i 0).toNat (fun c => f i c * f i c) ∧ smr (p.getD i 0).toNat (fun c => f i c * f i c) ≤ 108000 := by
    intro i hi
    have := smr_bound (fun c => f i c * f i c) 3600 (p.getD i 0).toNat fun k hk => sq_range (hf i k (by omega) (by omega)).1 (hf i k (by omega) (by omega)).2
    have := G.le i (by omega)
    omega
  have h2 := smr_bound _ 108000 r h1
  have h3 := smr_bound (fun k => f r k * f r k) 3600 c fun k hk => sq_range (hf r k hr (by omega)).1 (hf r k hr (by omega)).2
  have := G.le r hr
  have := G.len
  unfold sqX sqR
  omega
theorem sqR_end {p : List Int} (G : Good p) : sqR p (hookN p) p.length = sqR p contN p.length + p.sum * p.sum := by
  obtain ⟨h1, h2⟩ := good_pair G
  have e := hooks_square p h1 h2
  have : sqR p (hookN p) p.length = sqH p := dbl_congr (f := fun r c => hookN p r c * hookN p r c) fun r c hr hc => by rw [hook_hk G hr hc]
  rw [this, e]; rfl
theorem cont_range {p : List Int} (G : Good p) {r c : Nat} (hr : r < p.length) (hc : (c : Int) < p.getD r 0) : -60 ≤ contN r c ∧ contN r c ≤ 60 := by
  have := G.len
  have := G.le r hr
  unfold contN; omega
theorem hooks_at {p : List Int} (f : Nat → Nat → Int) {r : Nat} (hr : r < p.length) : (rowsF p f p.length).getD r [] = rowF f r (p.getD r 0).toNat := rowsF_get p f _ r hr
theorem other_at {p : List Int} (G : Good p) {r c : Nat} (hr : r < p.length) (hc : (c : Int) < p.getD r 0) :
    c < (cols p).length ∧ r < ((cols p).getD c 0).toNat ∧ (rowsF (cols p) (hookN (cols p)) (cols p).length).getD c [] = rowF (hookN (cols p)) c ((cols p).getD c 0).toNat := by
  have h0 := anti_d G (Nat.zero_le r) hr
  have hl : c < (cols p).length := by rw [cols_len]; omega
  refine ⟨hl, ?_, rowsF_get _ _ _ _ hl⟩
  rw [cols_get p c (by omega)]
  have := (dual G hr (c : Int)).1 hc
  omega
end Go.Proofs.Ytaonkebjakanjaa
