/-
  Several texts in one.
-/
import Derived.Test.YtnjaoaamcdohoaaCE
import Derived.Test.YtnjaoaamcdohoaaCB
import Derived.Test.YtnjaoaamcdohoaaR11
/-
  Contracts: the abacus of a board.
-/
namespace Go.Proofs.Ytnjaoaamcdohoaa
open Go.RowKit

/-- The beads of a board, one after the other. -/
def bdL (t : Nat) (F : Nat → Bool) (k : Nat) : List Int := ((List.range k).filter fun x => F (atQ t x)).map fun x : Nat => (x : Int)
theorem bdL_succ_t {t : Nat} {F : Nat → Bool} {k : Nat} (h : F (atQ t k) = true) : bdL t F (k + 1) = bdL t F k ++ [(k : Int)] := by
  unfold bdL
  rw [List.range_succ, List.filter_append, List.map_append, List.filter_cons_of_pos (p := fun x => F (atQ t x)) h]; rfl
theorem bdL_succ_f {t : Nat} {F : Nat → Bool} {k : Nat} (h : F (atQ t k) = false) : bdL t F (k + 1) = bdL t F k := by
  unfold bdL
  rw [List.range_succ, List.filter_append, List.filter_cons_of_neg (p := fun x => F (atQ t x)) (by show ¬ F (atQ t k) = true; rw [h]; exact Bool.false_ne_true), List.filter_nil, List.append_nil]
theorem bdL_len (t : Nat) (F : Nat → Bool) (k : Nat) : (bdL t F k).length ≤ k := by
  unfold bdL
  rw [List.length_map]
  have := List.length_filter_le (fun x => F (atQ t x)) (List.range k)
  rw [List.length_range] at this; exact this
def abL (t : Nat) (F : Nat → Bool) : List Int := bdL t F (t * 36)

/-- What a board's abacus is: none where it is too large. -/
def abT (t : Nat) (F : Nat → Bool) : Int := if isAba t (abL t F) then (t : Int) else 0
def abX (t : Nat) (F : Nat → Bool) : List Int := if isAba t (abL t F) then abL t F else []
theorem own_set_other {w : World} {B g k : Nat} {v u : Value} {n : Nat} {xs : List Value} (h : w.ownsRow B 3 1 v n xs) (hg : g < B) : (w.setCell ⟨g, k, none⟩ u).ownsRow B 3 1 v n xs := by
  refine ⟨h.1, ?_⟩
  rcases h.2 with hn | ⟨g1, cap, cur, hv, hb, hgg, rest⟩
  · exact .inl hn
  · exact .inr ⟨g1, cap, cur, hv, hb, by rw [Below.heap_setCell _ _ _ g1 (by show g1 ≠ g; omega)]; exact hgg, rest⟩

end Go.Proofs.Ytnjaoaamcdohoaa
/-
  Plain facts: rows that rise are told by what is in them; numbers inserted; the beads of a board as a row that rises; a bead put to another place.
-/
namespace Go.Proofs.Ytnjaoaamcdohoaa
open Go.RowKit

theorem pw_ext : ∀ {a b : List Int}, a.Pairwise (· < ·) → b.Pairwise (· < ·) → (∀ x, x ∈ a ↔ x ∈ b) → a = b
  | [], [], _, _, _ => rfl
  | [], y :: r, _, _, h => absurd ((h y).2 (by simp)) (by simp)
  | x :: r, [], _, _, h => absurd ((h x).1 (by simp)) (by simp)
  | x :: r, y :: s, ha, hb, h => by
    rw [List.pairwise_cons] at ha hb
    have hxy : x = y := by
      have h1 := (h x).1 (by simp)
      have h2 := (h y).2 (by simp)
      rw [List.mem_cons] at h1 h2
      rcases h1 with h1 | h1
      · exact h1
      · rcases h2 with h2 | h2
        · exact h2.symm
        · have := ha.1 y h2
          have := hb.1 x h1
          omega
    subst hxy
    congr 1
    refine pw_ext ha.2 hb.2 fun z => ?_
    have hz := h z
    rw [List.mem_cons, List.mem_cons] at hz
    constructor
    · intro hm
      have := ha.1 z hm
      rcases hz.1 (Or.inr hm) with e | e
      · omega
      · exact e
    · intro hm
      have := hb.1 z hm
      rcases hz.2 (Or.inr hm) with e | e
      · omega
      · exact e
theorem mem_insL {xs : List Int} {x y : Int} : y ∈ insL xs x ↔ y = x ∨ y ∈ xs := by
  induction xs with
  | nil => simp [insL]
  | cons z r ih =>
    unfold insL
    split
    · rw [List.mem_cons, ih, List.mem_cons]
      constructor
      · rintro (h | h | h)
        · exact .inr (.inl h)
        · exact .inl h
        · exact .inr (.inr h)
      · rintro (h | h | h)
        · exact .inr (.inl h)
        · exact .inl h
        · exact .inr (.inr h)
    · rw [List.mem_cons]
theorem insL_pw {xs : List Int} {x : Int} (h : xs.Pairwise (· < ·)) (hx : x ∉ xs) : (insL xs x).Pairwise (· < ·) := by
  induction xs with
  | nil => simp [insL]
  | cons z r ih =>
    rw [List.pairwise_cons] at h
    rw [List.mem_cons] at hx
    unfold insL
    split
    · rename_i hzx
      rw [List.pairwise_cons]
      refine ⟨fun y hy => ?_, ih h.2 (fun hh => hx (.inr hh))⟩
      rw [mem_insL] at hy
      rcases hy with rfl | hy
      · exact hzx
      · exact h.1 y hy
    · rename_i hzx
      have hne : x ≠ z := fun e => hx (.inl e)
      rw [List.pairwise_cons]
      refine ⟨fun y hy => ?_, List.pairwise_cons.2 h⟩
      rw [List.mem_cons] at hy
      rcases hy with rfl | hy
      · omega
      · have := h.1 y hy; omega
/-- A row made by inserting the numbers of a row, one after the other. -/
def insF (ys : List Int) : List Int := ys.foldl insL []
theorem insF_snoc (ys : List Int) (y : Int) : insF (ys ++ [y]) = insL (insF ys) y := by unfold insF; rw [List.foldl_append]; rfl
theorem insF_take (ys : List Int) (k : Nat) (h : k < ys.length) : insF (ys.take (k + 1)) = insL (insF (ys.take k)) (ys.getD k 0) := by
  rw [take_snoc ys k h _ rfl, insF_snoc]
theorem insF_rev (ys : List Int) : ∀ L : List Int, L.Pairwise (· < ·) → ys.Nodup → (∀ y ∈ ys, y ∉ L) → (ys.foldl insL L).Pairwise (· < ·) ∧ (∀ x, x ∈ ys.foldl insL L ↔ x ∈ L ∨ x ∈ ys) ∧ (ys.foldl insL L).length = L.length + ys.length := by
  induction ys with
  | nil => intro L hL _ _; exact ⟨hL, fun x => by simp, by simp⟩
  | cons y r ih =>
    intro L hL hn hd
    rw [List.nodup_cons] at hn
    obtain ⟨h1, h2, h3⟩ := ih (insL L y) (insL_pw hL (hd y (by simp))) hn.2 (fun z hz hm => by
      rw [mem_insL] at hm
      rcases hm with rfl | hm
      · exact hn.1 hz
      · exact hd z (by simp [hz]) hm)
    refine ⟨h1, fun x => ?_, ?_⟩
    · rw [List.foldl_cons, h2 x, mem_insL, List.mem_cons]
      constructor
      · rintro ((h | h) | h)
        · exact .inr (.inl h)
        · exact .inl h
        · exact .inr (.inr h)
      · rintro (h | h | h)
        · exact .inl (.inr h)
        · exact .inl (.inl h)
        · exact .inr h
    · rw [List.foldl_cons, h3, insL_len, List.length_cons]; omega
theorem insF_all {ys : List Int} (h : ys.Nodup) : (insF ys).Pairwise (· < ·) ∧ (∀ x, x ∈ insF ys ↔ x ∈ ys) ∧ (insF ys).length = ys.length := by
  obtain ⟨h1, h2, h3⟩ := insF_rev ys [] List.Pairwise.nil h (fun _ _ => by simp)
  exact ⟨h1, fun x => by rw [insF, h2 x]; simp, by rw [insF, h3]; simp⟩

theorem bdL_pw (t : Nat) (F : Nat → Bool) (k : Nat) : (bdL t F k).Pairwise (· < ·) := by
  induction k with
  | zero => exact List.Pairwise.nil
  | succ k ih =>
    cases h : F (atQ t k)
    · rw [bdL_succ_f h]; exact ih
    · rw [bdL_succ_t h, List.pairwise_append]
      refine ⟨ih, by simp, fun a ha b hb => ?_⟩
      rw [List.mem_singleton] at hb
      subst hb
      unfold bdL at ha
      obtain ⟨m, hm, rfl⟩ := List.mem_map.1 ha
      have := List.mem_range.1 (List.mem_filter.1 hm).1
      omega
theorem mem_bdL {t : Nat} {F : Nat → Bool} {k : Nat} {x : Int} : x ∈ bdL t F k ↔ ∃ n : Nat, n < k ∧ F (atQ t n) = true ∧ x = n := by
  unfold bdL
  rw [List.mem_map]
  constructor
  · rintro ⟨m, hm, rfl⟩
    have h := List.mem_filter.1 hm
    exact ⟨m, List.mem_range.1 h.1, h.2, rfl⟩
  · rintro ⟨m, h1, h2, rfl⟩
    exact ⟨m, List.mem_filter.2 ⟨List.mem_range.2 h1, h2⟩, rfl⟩
theorem rise_pw {xs : List Int} (h : ∀ j, j + 1 < xs.length → xs.getD j 0 < xs.getD (j + 1) 0) : xs.Pairwise (· < ·) := by
  induction xs with
  | nil => exact List.Pairwise.nil
  | cons x r ih =>
    have ihr := ih (fun j hj => by have := h (j + 1) (by simpa using hj); simpa using this)
    rw [List.pairwise_cons]
    refine ⟨fun y hy => ?_, ihr⟩
    cases r with
    | nil => simp at hy
    | cons z s =>
      have h0 := h 0 (by simp)
      simp only [List.getD_cons_zero, List.getD_cons_succ] at h0
      rw [List.mem_cons] at hy
      rcases hy with rfl | hy
      · exact h0
      · rw [List.pairwise_cons] at ihr
        have := ihr.1 y hy; omega
theorem pw_nodup {xs : List Int} (h : xs.Pairwise (· < ·)) : xs.Nodup := by
  refine List.Pairwise.imp ?_ h
  intro a b hab; omega

/-- What a bead becomes when the one at a goes to b. -/
def mvB (a b x : Int) : Int := if x = a then b else x
def mvL (a b : Int) (xs : List Int) : List Int := xs.map (mvB a b)
theorem mem_mvL {a b : Int} {xs : List Int} (ha : a ∈ xs) {x : Int} : x ∈ mvL a b xs ↔ x = b ∨ (x ≠ a ∧ x ∈ xs) := by
  unfold mvL
  rw [List.mem_map]
  constructor
  · rintro ⟨y, hy, rfl⟩
    unfold mvB
    by_cases e : y = a
    · rw [if_pos e]; exact .inl rfl
    · rw [if_neg e]; exact .inr ⟨e, hy⟩
  · rintro (rfl | ⟨h1, h2⟩)
    · exact ⟨a, ha, by simp [mvB]⟩
    · exact ⟨x, h2, by simp [mvB, h1]⟩
theorem mvL_nodup {a b : Int} {xs : List Int} (h : xs.Nodup) (hb : b ∉ xs) : (mvL a b xs).Nodup := by
  unfold mvL
  induction xs with
  | nil => simp
  | cons x r ih =>
    rw [List.nodup_cons] at h
    rw [List.mem_cons] at hb
    rw [List.map_cons, List.nodup_cons]
    refine ⟨fun hm => ?_, ih h.2 (fun hh => hb (.inr hh))⟩
    obtain ⟨y, hy, e⟩ := List.mem_map.1 hm
    unfold mvB at e
    split at e
    · rename_i h1
      split at e
      · rename_i h2; exact h.1 (by rw [h2, ← h1]; exact hy)
      · exact hb (.inl e)
    · split at e
      · exact hb (.inr (by rw [← e]; exact hy))
      · exact h.1 (by rw [← e]; exact hy)

def canGo (xs : List Int) (a b : Int) : Bool := decide (a ∈ xs) && (decide (0 ≤ b) && !decide (b ∈ xs))
theorem at_in (i r : Nat) (h : r < 36) : 36 * i ≤ 36 * i + r ∧ 36 * i + r < 36 * i + 36 := by omega
theorem at_sub (i r : Nat) : 36 * i + r - 36 * i = r := by omega
theorem at_out (i m r : Nat) (h : r < 36) (hm : m ≠ i) : ¬ (36 * i ≤ 36 * m + r ∧ 36 * m + r < 36 * i + 36) := by omega
theorem at_216 (i r t : Nat) (h : r < 36) (hi : i < t) (ht : t ≤ 6) : 36 * i + r < 216 := by omega
theorem put_bits {t a b : Nat} {F : Nat → Bool} (ht : 0 < t) (ha : a < t * 36) (hb : b < t * 36) (hab : b % t = a % t) :
    ((F (atQ t a) && !F (atQ t b)) = false → putB t F a b = F) ∧ ((F (atQ t a) && !F (atQ t b)) = true → ∀ n, n < t * 36 → putB t F a b (atQ t n) = if n = b then true else if n = a then false else F (atQ t n)) := by
  have hc : canB t (a : Int) (b : Int) = true := by simp only [canB, Bool.and_eq_true, decide_eq_true_eq]; omega
  have hp : putB t F (a : Int) (b : Int) = setLn F (a % t) (putR (lnB F (a % t)) ((a / t : Nat) : Int) ((b / t : Nat) : Int)) := by
    simp only [putB, hc, if_true, Int.toNat_natCast]
  have hd2 : b / t < 36 := by rw [Nat.div_lt_iff_lt_mul ht, Nat.mul_comm]; exact hb
  have hcp : canPut (lnB F (a % t)) ((a / t : Nat) : Int) ((b / t : Nat) : Int) = (F (atQ t a) && !F (atQ t b)) := by
    simp only [canPut, lnB, Int.toNat_natCast, atQ, hab]
    have q0 : (0 : Int) ≤ ((b / t : Nat) : Int) := Int.natCast_nonneg _
    have q1 : ((b / t : Nat) : Int) < 36 := Int.ofNat_lt.2 hd2
    rw [decide_eq_true q0, decide_eq_true q1]; simp
  rw [hp]
  constructor
  · intro h
    rw [h] at hcp
    simp only [putR, hcp, Bool.false_eq_true, if_false]
    exact set_same F _
  · intro h n hn
    rw [h] at hcp
    have hdn : n / t < 36 := by rw [Nat.div_lt_iff_lt_mul ht, Nat.mul_comm]; exact hn
    simp only [putR, hcp, if_true, Int.toNat_natCast]
    unfold setLn
    have hat : atQ t n = 36 * (n % t) + n / t := rfl
    by_cases hm : n % t = a % t
    · rw [if_pos (by rw [hat, hm]; exact at_in _ _ hdn)]
      unfold updB lnB
      have e : atQ t n - 36 * (a % t) = n / t := by rw [hat, hm]; exact at_sub _ _
      rw [e]
      have hnb : n / t = b / t ↔ n = b := by
        constructor
        · intro h'; rw [← Nat.div_add_mod n t, ← Nat.div_add_mod b t, h', hm, hab]
        · rintro rfl; rfl
      have hna : n / t = a / t ↔ n = a := by
        constructor
        · intro h'; rw [← Nat.div_add_mod n t, ← Nat.div_add_mod a t, h', hm]
        · rintro rfl; rfl
      by_cases h1 : n = b
      · rw [if_pos (hnb.2 h1), if_pos h1]
      · rw [if_neg (fun hh => h1 (hnb.1 hh)), if_neg h1]
        by_cases h2 : n = a
        · rw [if_pos (hna.2 h2), if_pos h2]
        · rw [if_neg (fun hh => h2 (hna.1 hh)), if_neg h2, hat, hm]
    · have hneq : ¬ (36 * (a % t) ≤ atQ t n ∧ atQ t n < 36 * (a % t) + 36) := by
        rw [hat]; exact at_out _ _ _ hdn hm
      rw [if_neg hneq, if_neg (fun hh => hm (by rw [hh]; exact hab)), if_neg (fun hh => hm (by rw [hh]))]
theorem put_gen {t : Nat} {xs : List Int} (ht : 2 ≤ t ∧ t ≤ 6) (G : GoodB xs) {a b : Int} (hab : b = a + t ∨ b = a - t) :
    (canGo xs a b = false → putB t (bitsK t xs xs.length) a b = bitsK t xs xs.length) ∧
    (canGo xs a b = true → (∃ k, k < 216 ∧ bitsK t xs xs.length k ≠ putB t (bitsK t xs xs.length) a b k) ∧ abL t (putB t (bitsK t xs xs.length) a b) = insF (mvL a b xs)) := by
  have hbd : ∀ j, j < xs.length → 0 ≤ xs.getD j 0 ∧ xs.getD j 0 < (t : Int) * 36 := fun j hj => by have := G.top hj; omega
  obtain ⟨F, hF⟩ : ∃ F, F = bitsK t xs xs.length := ⟨_, rfl⟩
  have hbits := fun {x : Nat} (h : x < t * 36) => bits_at (t := t) (by omega) hbd h
  rw [← hF] at hbits ⊢
  by_cases hc : canB t a b = true
  · have h : 0 ≤ a ∧ a < (t : Int) * 36 ∧ 0 ≤ b := by simpa [canB] using hc
    obtain ⟨a, rfl⟩ : ∃ n : Nat, a = n := ⟨a.toNat, by omega⟩
    obtain ⟨b, rfl⟩ : ∃ n : Nat, b = n := ⟨b.toNat, by omega⟩
    have ha : a < t * 36 := by omega
    have h1 := hbits ha
    have hmod : b % t = a % t := by
      rcases hab with h' | h'
      · rw [show b = a + t by omega, Nat.add_mod_right]
      · rw [show a = b + t by omega, Nat.add_mod_right]
    by_cases hb : b < t * 36
    · have h2 := hbits hb
      obtain ⟨hP1, hP2⟩ := put_bits (F := F) (show 0 < t by omega) ha hb hmod
      have hcan : canGo xs (a : Int) (b : Int) = (F (atQ t a) && !F (atQ t b)) := by
        unfold canGo; rw [h1, h2, decide_eq_true (show (0 : Int) ≤ b by omega), Bool.true_and]
      rw [hcan]
      refine ⟨hP1, fun hh => ?_⟩
      have hbit := hP2 hh
      simp only [Bool.and_eq_true, Bool.not_eq_true'] at hh
      rw [h1, decide_eq_true_eq, h2, decide_eq_false_iff_not] at hh
      have hne : a ≠ b := by rintro rfl; exact hh.2 hh.1
      refine ⟨⟨atQ t a, ?_, ?_⟩, ?_⟩
      · have h3 : a % t < t := Nat.mod_lt _ (by omega)
        have h4 : a / t < 36 := by rw [Nat.div_lt_iff_lt_mul (by omega), Nat.mul_comm]; exact ha
        unfold atQ; exact at_216 _ _ _ h4 h3 ht.2
      · rw [hbit a ha, if_neg hne, if_pos rfl, h1, decide_eq_true hh.1]; decide
      · have hnd := mvL_nodup (a := (a : Int)) (pw_nodup (rise_pw G.rise.up)) hh.2
        obtain ⟨q1, q2, _⟩ := insF_all hnd
        refine pw_ext (bdL_pw _ _ _) q1 fun x => ?_
        rw [q2 x, mem_mvL hh.1]
        unfold abL
        rw [mem_bdL]
        constructor
        · rintro ⟨n, hn, hf, rfl⟩
          rw [hbit n hn] at hf
          by_cases e1 : n = b
          · exact .inl (by omega)
          · rw [if_neg e1] at hf
            by_cases e2 : n = a
            · rw [if_pos e2] at hf; cases hf
            · rw [if_neg e2, hbits hn, decide_eq_true_eq] at hf
              exact .inr ⟨by omega, hf⟩
        · rintro (rfl | ⟨h3, h4⟩)
          · exact ⟨b, hb, by rw [hbit b hb, if_pos rfl], rfl⟩
          · obtain ⟨j, hj, rfl⟩ := mem_getD.1 h4
            have hbj := hbd j hj
            obtain ⟨n, hn⟩ : ∃ n : Nat, xs.getD j 0 = n := ⟨(xs.getD j 0).toNat, by omega⟩
            rw [hn] at h3 h4 hbj ⊢
            have hnb : n ≠ b := by rintro rfl; exact hh.2 h4
            exact ⟨n, by omega, by rw [hbit n (by omega), if_neg hnb, if_neg (by omega), hbits (by omega), decide_eq_true h4], rfl⟩
    · have hnm : (a : Int) ∉ xs := by
        intro hm
        obtain ⟨j, hj, e⟩ := mem_getD.1 hm
        have := G.top hj
        omega
      have hcan : canGo xs (a : Int) (b : Int) = false := by unfold canGo; rw [decide_eq_false hnm]; rfl
      rw [hcan]
      refine ⟨fun _ => ?_, fun hh => by cases hh⟩
      rw [decide_eq_false hnm] at h1
      have hp : putB t F (a : Int) (b : Int) = setLn F (a % t) (putR (lnB F (a % t)) ((a / t : Nat) : Int) ((b / t : Nat) : Int)) := by
        simp only [putB, hc, if_true, Int.toNat_natCast]
      have hcp : canPut (lnB F (a % t)) ((a / t : Nat) : Int) ((b / t : Nat) : Int) = false := by
        unfold atQ at h1
        simp only [canPut, lnB, Int.toNat_natCast, h1, Bool.false_and, Bool.and_false]
      rw [hp]
      simp only [putR, hcp, Bool.false_eq_true, if_false]
      exact set_same F _
  · have hc' : canB t a b = false := by simpa using hc
    have hcan : canGo xs a b = false := by
      cases h : canGo xs a b
      · rfl
      · exfalso
        simp only [canGo, Bool.and_eq_true, decide_eq_true_eq] at h
        obtain ⟨j, hj, e⟩ := mem_getD.1 h.1
        have := hbd j hj
        simp only [canB, Bool.and_eq_false_iff, decide_eq_false_iff_not] at hc'
        have := h.2.1
        omega
    rw [hcan]
    exact ⟨fun _ => by simp [putB, hc'], fun hh => by cases hh⟩
end Go.Proofs.Ytnjaoaamcdohoaa
