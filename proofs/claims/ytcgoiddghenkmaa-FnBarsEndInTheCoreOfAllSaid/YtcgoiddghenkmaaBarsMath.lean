/-
  Bars taken away in any order: the core and the weight stay. No walk in this text.
-/
import Derived.Test.YtcgoiddghenkmaaBarsChk
import Derived.Test.YtcgoiddghenkmaaBrw
namespace Go.Proofs.Ytcgoiddghenkmaa
open Go.RowKit

theorem strA_at {p : List Int} (h : strB p = true) {f : List Int → Bool} (hc : ((List.range 31).all fun n => (sA 30 n n).all f) = true) : f p = true := by
  have G := strB_good h
  have h0 := G.sum0
  have h3 := G.sum
  have h1 := List.all_eq_true.1 hc p.sum.toNat (List.mem_range.2 (by omega))
  exact List.all_eq_true.1 h1 p (str_mem h (by omega))
theorem brK1_t {t : Nat} {C : List (List Int)} {p : List Int} (h : brK1 t C p = true) : (∀ b ∈ brs p t p.length, brI t (tkL p t b) = brI t p ∧ (tkL p t b).sum = p.sum - t) ∧ ((brs p t p.length).length = 0 → p ∈ C) := by
  unfold brK1 at h
  rw [Bool.and_eq_true, List.all_eq_true] at h
  refine ⟨fun b hb => by simpa using h.1 b hb, fun h0 => ?_⟩
  have e : brs p t p.length = [] := List.eq_nil_of_length_eq_zero h0
  have h2 := h.2
  rw [e] at h2
  simpa using h2
theorem bars_at {p : List Int} {t : Nat} (h : brtB p t = true) : (∀ b ∈ brs p t p.length, brI t (tkL p t b) = brI t p ∧ (tkL p t b).sum = p.sum - t) := by
  obtain ⟨ht, hs⟩ := brtB_t h
  rcases ht with e | e
  · obtain rfl : t = 3 := by omega
    exact (brK1_t (strA_at hs bars_chk3)).1
  · obtain rfl : t = 5 := by omega
    exact (brK1_t (strA_at hs bars_chk5)).1
theorem bars_uniq {p q : List Int} {t : Nat} (h : brtB p t = true) (h' : brtB q t = true) (hp : (brs p t p.length).length = 0) (hq : (brs q t q.length).length = 0) (he : brI t p = brI t q) : p = q := by
  obtain ⟨ht, hs⟩ := brtB_t h
  obtain ⟨_, hs'⟩ := brtB_t h'
  rcases ht with e | e
  · obtain rfl : t = 3 := by omega
    have h1 := List.all_eq_true.1 (List.all_eq_true.1 bars_core3 p ((brK1_t (strA_at hs bars_chk3)).2 hp)) q ((brK1_t (strA_at hs' bars_chk3)).2 hq)
    exact (of_decide_eq_true h1) he
  · obtain rfl : t = 5 := by omega
    have h1 := List.all_eq_true.1 (List.all_eq_true.1 bars_core5 p ((brK1_t (strA_at hs bars_chk5)).2 hp)) q ((brK1_t (strA_at hs' bars_chk5)).2 hq)
    exact (of_decide_eq_true h1) he
theorem first_mem {p : List Int} {t : Int} {k : Nat} (h : k < (brs p t p.length).length) : (brs p t p.length).getD k [] ∈ brs p t p.length := by
  rw [List.getD_eq_getElem?_getD, List.getElem?_eq_getElem h]; exact List.getElem_mem h
theorem bcR_inv {t : Nat} : ∀ (f : Nat) (p : List Int), brtB p t = true → p.sum.toNat < f → brtB (bcR t f p).1 t = true ∧ (brs (bcR t f p).1 t (bcR t f p).1.length).length = 0 ∧ brI t (bcR t f p).1 = brI t p ∧ (bcR t f p).1.sum + t * ((bcR t f p).2 : Int) = p.sum
  | 0, _, _, h => absurd h (Nat.not_lt_zero _)
  | f + 1, p, hb, hf => by
    by_cases h0 : (brs p t p.length).length = 0
    · rw [bcR_end h0]
      exact ⟨hb, h0, rfl, by simp⟩
    · rw [bcR_next h0]
      have h1 := take_first hb h0
      have h2 := bars_at hb _ (first_mem (p := p) (t := t) (k := 0) (by omega))
      have h4 := (strB_good (brtB_t h1.1).2).sum0
      obtain ⟨i1, i2, i3, i4⟩ := bcR_inv f _ h1.1 (by omega)
      refine ⟨i1, i2, i3.trans h2.1, ?_⟩
      have h3 := h2.2
      show (bcR t f (tkL p t ((brs p t p.length).getD 0 []))).1.sum + (t : Int) * (((bcR t f (tkL p t ((brs p t p.length).getD 0 []))).2 + 1 : Nat) : Int) = _
      rw [Int.natCast_add, Int.mul_add]
      have : (t : Int) * ((1 : Nat) : Int) = t := by simp
      omega
theorem bars_nat {p : List Int} {t : Int} (h : brtB p t = true) : ∃ T : Nat, t = T ∧ (T = 3 ∨ T = 5) := by
  rcases (brtB_t h).1 with e | e
  · exact ⟨3, e, .inl rfl⟩
  · exact ⟨5, e, .inr rfl⟩
theorem bars_one {p : List Int} {t : Int} (h : brtB p t = true) : brtB (bcF p t) t = true ∧ strB (bcF p t) = true ∧ ibF (bcF p t) t = true ∧ (bcF p t).sum + t * bwF p t = p.sum ∧ 0 ≤ bwF p t ∧ bwF p t ≤ 30 := by
  obtain ⟨T, rfl, hT⟩ := bars_nat h
  have G := strB_good (brtB_t h).2
  have := G.sum
  have := G.sum0
  obtain ⟨i1, i2, i3, i4⟩ := bcR_inv 31 p h (by omega)
  have e1 : bcF p T = (bcR T 31 p).1 := by unfold bcF; rw [if_pos h]
  have e2 : bwF p T = ((bcR T 31 p).2 : Int) := by unfold bwF; rw [if_pos h]
  rw [e1, e2]
  have h4 := (strB_good (brtB_t i1).2).sum0
  refine ⟨i1, (brtB_t i1).2, ?_, i4, by omega, ?_⟩
  · unfold ibF
    rw [i1, barF_t i1, i2]
    rfl
  · rcases hT with rfl | rfl <;> omega
theorem bars_two {p : List Int} {t : Int} (h : brtB p t = true) {k : Nat} (hk : k < (barF p t).length) : tbB p t k = true ∧ strB (tbF p t k) = true ∧ brtB (tbF p t k) t = true ∧ bcF (tbF p t k) t = bcF p t ∧ bwF (tbF p t k) t = bwF p t - 1 := by
  obtain ⟨T, rfl, hT⟩ := bars_nat h
  have hr := (bars_one h).2.2.2.1
  rw [barF_t h] at hk
  have hb : tbB p T k = true := by
    unfold tbB
    rw [h, decide_eq_true (show (0 : Int) ≤ k by omega), decide_eq_true (show (k : Int) < ((brs p T p.length).length : Int) by omega)]
    rfl
  have ef : tbF p T k = tkL p T ((brs p T p.length).getD k []) := by rw [tbF_t hb, Int.toNat_natCast]
  obtain ⟨_, h2, _, i, hi, hc⟩ := bar_ok (t := T) (brtB_t h).2 hk
  have hst := (tkL_str (brtB_t h).2 (by omega) hi hc h2).1
  obtain ⟨n1, n2⟩ := bars_at h _ (first_mem hk)
  rw [← ef] at hst n1 n2
  have hbl : brtB (tbF p T k) T = true := by
    unfold brtB
    rw [hst, Bool.and_true]
    rcases hT with rfl | rfl <;> rfl
  have hr2 := (bars_one hbl).2.2.2.1
  have e1 : bcF p T = (bcR T 31 p).1 := by unfold bcF; rw [if_pos h]
  have e2 : bcF (tbF p T k) T = (bcR T 31 (tbF p T k)).1 := by unfold bcF; rw [if_pos hbl]
  have G := strB_good (brtB_t h).2
  have := G.sum
  have := G.sum0
  have G2 := strB_good hst
  have := G2.sum
  have := G2.sum0
  obtain ⟨i1, i2, i3, i4⟩ := bcR_inv 31 p h (by omega)
  obtain ⟨j1, j2, j3, j4⟩ := bcR_inv 31 _ hbl (by omega)
  have e : bcF (tbF p T k) T = bcF p T := by
    rw [e1, e2]
    exact bars_uniq j1 i1 j2 i2 (by rw [j3, i3, n1])
  refine ⟨hb, hst, hbl, e, ?_⟩
  rw [e] at hr2
  rcases hT with rfl | rfl <;> omega
theorem bars_row {p : List Int} {t : Int} (h : brtB p t = true) : ∀ k, k < (barF p t).length → ((barF p t).getD k []).length ≤ 1048576 := by
  intro k hk
  rw [barF_t h] at hk ⊢
  have := (bar_ok (t := t) (brtB_t h).2 hk).1
  omega
theorem tbF_len (p : List Int) (t k : Int) : (tbF p t k).length ≤ 10000 := by
  cases hb : tbB p t k
  · rw [tbF_f hb]; simp
  · have h : brtB p t = true := by
      unfold tbB at hb
      rw [Bool.and_eq_true] at hb
      exact hb.1
    have h2 : 0 ≤ k ∧ k < ((brs p t p.length).length : Int) := by
      unfold tbB at hb
      simpa [h] using hb
    obtain ⟨n, rfl⟩ : ∃ n : Nat, k = n := ⟨k.toNat, by omega⟩
    have := (strB_good (bars_two h (k := n) (by rw [barF_t h]; omega)).2.1).len
    omega
end Go.Proofs.Ytcgoiddghenkmaa
