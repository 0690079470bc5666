/-
  Several texts in one.
-/
import Derived.Test.YthbkonpclflkhaaR02
import Derived.Test.YthbkonpclflkhaaCB
import Derived.Test.YthbkonpclflkhaaCA
/-
  Words of arrows up. No program in this text.
-/
namespace Go.Proofs.Ythbkonpclflkhaa

theorem Good.nil : Good [] := by
  refine ⟨by simp, fun j hj => absurd hj (by simp), fun j hj => absurd hj (by simp), fun j hj => absurd hj (by simp), by simp, by simp⟩
theorem up_eq {m : List Int} (G : Good m) (hs : m.sum ≤ 29) {t : Nat} (ht : 2 ≤ t ∧ t ≤ 6) (i : Int) : upOk m t i = auB m t i ∧ upF m t i = auL m t i ∧ (auB m t i = true → Good (auL m t i) ∧ (auL m t i).sum = m.sum + 1 ∧ 0 ≤ i ∧ i < t) := by
  cases hu : upR (red (sig m t i)) with
  | none =>
    obtain ⟨e1, e2⟩ := au_none hu
    rw [show upOk m t i = (asB m t i && (auB m t i && good (auL m t i))) by simp [upOk], show upF m t i = if asB m t i && good (auL m t i) then auL m t i else [] by simp [upF], e1, e2]
    refine ⟨by simp, by split <;> rfl, fun h => by cases h⟩
  | some r =>
    obtain ⟨e1, e2⟩ := au_some hu
    obtain ⟨h1, h2, h3⟩ := up_ok G hu
    have hres := (sg65 G h3).2
    have hm0 := Int.emod_nonneg (m.getD r 0 - r) (show (t : Int) ≠ 0 by omega)
    have hm1 := Int.emod_lt_of_pos (m.getD r 0 - r) (show (0 : Int) < t by omega)
    rw [hres] at hm0 hm1
    have hG := inc_Good G hs h1 ((add_iff G).2 h2)
    have ha : asB m t i = true := by
      unfold asB
      rw [(good_iff m).2 G, inB_iff.2 (show (2 : Int) ≤ (t : Int) ∧ (t : Int) ≤ 6 by omega), inB_iff.2 (show (0 : Int) ≤ i ∧ i ≤ (t : Int) - 1 by omega)]; rfl
    rw [show upOk m t i = (asB m t i && (auB m t i && good (auL m t i))) by simp [upOk], show upF m t i = if asB m t i && good (auL m t i) then auL m t i else [] by simp [upF], e1, e2, ha, (good_iff _).2 hG]
    exact ⟨rfl, by simp, fun _ => ⟨hG, inc_sum m r h1, hm0, hm1⟩⟩
/-- What k arrows up make, from the word's last letter on. -/
def byN (t : Nat) (word : List Int) : Nat → Option (List Int)
  | 0 => some []
  | k + 1 => (byN t word k).bind fun m => if auB m t (word.getD (word.length - 1 - k) 0) then some (auL m t (word.getD (word.length - 1 - k) 0)) else none
theorem byN_none {t : Nat} {word : List Int} {k : Nat} (h : byN t word k = none) : ∀ d, byN t word (k + d) = none
  | 0 => h
  | d + 1 => by
    have := byN_none h d
    show (byN t word (k + d)).bind _ = none
    rw [this]; rfl
theorem byN_ok {t : Nat} (ht : 2 ≤ t ∧ t ≤ 6) {word : List Int} : ∀ {k : Nat} {m : List Int}, k ≤ 30 → byN t word k = some m → Good m ∧ m.sum = k ∧ ∀ j, j < k → 0 ≤ word.getD (word.length - 1 - j) 0 ∧ word.getD (word.length - 1 - j) 0 < t
  | 0, m, _, h => by
    have e : m = [] := by simpa [byN] using h.symm
    subst e
    exact ⟨Good.nil, rfl, fun j hj => absurd hj (by omega)⟩
  | k + 1, m, hk, h => by
    cases hb : byN t word k with
    | none => rw [byN, hb] at h; cases h
    | some p =>
      obtain ⟨g, s, hl⟩ := byN_ok ht (by omega) hb
      rw [byN, hb] at h
      simp only [Option.bind_some] at h
      split at h
      · rename_i ha
        obtain ⟨_, _, h3⟩ := up_eq g (by omega) ht (word.getD (word.length - 1 - k) 0)
        obtain ⟨a, b, c⟩ := h3 ha
        injection h with h
        subst h
        refine ⟨a, by rw [b, s]; omega, fun j hj => ?_⟩
        by_cases e : j = k
        · subst e; exact c
        · exact hl j (by omega)
      · cases h
def byO (t : Nat) (word : List Int) : Option (List Int) := byN t word word.length
def byL (t : Nat) (word : List Int) : List Int := (byO t word).getD []
def byB (t : Nat) (word : List Int) : Bool := (byO t word).isSome
theorem by_some {t : Nat} {word m : List Int} (h : byN t word word.length = some m) : byL t word = m ∧ byB t word = true := by simp [byL, byB, byO, h]
theorem by_none {t : Nat} {word : List Int} {k : Nat} (hk : k ≤ word.length) (h : byN t word k = none) : byL t word = [] ∧ byB t word = false := by
  have := byN_none h (word.length - k)
  rw [show k + (word.length - k) = word.length by omega] at this
  simp [byL, byB, byO, this]
theorem by_bad {t : Nat} (ht : 2 ≤ t ∧ t ≤ 6) {word : List Int} (hl : word.length ≤ 30) (h : word.all (inB 0 ((t : Int) - 1)) = false) : byL t word = [] ∧ byB t word = false := by
  cases hb : byN t word word.length with
  | none => exact by_none (Nat.le_refl _) hb
  | some m =>
    exfalso
    obtain ⟨_, _, h3⟩ := byN_ok ht hl hb
    rw [List.all_eq_false] at h
    obtain ⟨x, hx, hn⟩ := h
    obtain ⟨j, hj, rfl⟩ := List.getElem_of_mem hx
    have := h3 (word.length - 1 - j) (by omega)
    rw [show word.length - 1 - (word.length - 1 - j) = j by omega, List.getD_eq_getElem?_getD, List.getElem?_eq_getElem hj] at this
    simp only [Option.getD_some] at this
    exact hn (inB_iff.2 (by omega))
theorem byL_len {t : Nat} (ht : 2 ≤ t ∧ t ≤ 6) {word : List Int} (hl : word.length ≤ 30) : (byL t word).length ≤ 30 := by
  cases hb : byN t word word.length with
  | none => rw [(by_none (Nat.le_refl _) hb).1]; simp
  | some m => rw [(by_some hb).1]; exact (byN_ok ht hl hb).1.len
def abwG (t : Int) (word : List Int) : Bool := inB 2 6 t && decide (word.length ≤ 30)
def abwF (t : Int) (word : List Int) : List Int := if abwG t word then byL t.toNat word else []
def abwB (t : Int) (word : List Int) : Bool := abwG t word && byB t.toNat word
theorem bound_ArrowByWord (t : Int) (word : List Int) : (abwF t word).length ≤ 1048576 := by
  unfold abwF; split
  · rename_i h
    simp only [abwG, Bool.and_eq_true, decide_eq_true_eq] at h
    have ht := inB_iff.1 h.1
    have := byL_len (t := t.toNat) (by omega) h.2
    omega
  · simp
/-! The mirror. -/
def mwL (t : Nat) (xs : List Int) : List Int := (awL t xs).map fun i => (-i) % (t : Int)
def mirF (xs : List Int) (t : Int) : List Int := if rgB xs t then byL t.toNat (mwL t.toNat xs) else []
def mirB (xs : List Int) (t : Int) : Bool := rgB xs t && byB t.toNat (mwL t.toNat xs)
theorem mwL_len (t : Nat) (xs : List Int) : (mwL t xs).length = (awL t xs).length := by simp [mwL]
theorem bound_MirrorOf (xs : List Int) (t : Int) : (mirF xs t).length ≤ 1048576 := by
  unfold mirF; split
  · rename_i h
    obtain ⟨_, G, ht, _, _⟩ := rgB_t h
    have h1 := awL_len t.toNat G
    have := byL_len (t := t.toNat) (by omega) (word := mwL t.toNat xs) (by rw [mwL_len]; exact h1)
    omega
  · simp
end Go.Proofs.Ythbkonpclflkhaa
/-
  Contracts: IsInside of the program and of the model.
-/
namespace Go.Proofs.Ythbkonpclflkhaa
open Go.RowKit

def insideF (xs ys : List Int) : Bool := (good xs && good ys) && insideB xs ys
theorem insideF_t {xs ys : List Int} (h1 : good xs = true) (h2 : good ys = true) : insideF xs ys = insideB xs ys := by simp [insideF, h1, h2]
theorem insideF_f {xs ys : List Int} (h : (good xs && good ys) = false) : insideF xs ys = false := by simp [insideF, h]

end Go.Proofs.Ythbkonpclflkhaa
