/-
  Several texts in one.
-/
import Derived.Test.YtmjncedijddmmaaR24
import Derived.Test.YtmjncedijddmmaaR21
import Derived.Test.YtmjncedijddmmaaR15
import Derived.Maps.AppendAt
import Derived.Test.YtmjncedijddmmaaCB
import Derived.Lib.FrozenHead
/-
  Contracts: RegularWith of the program and of the model (made by genrw2.py).
-/
namespace Go.Proofs.Ytmjncedijddmmaa
open Go.RowKit

def rwB8 (t n : Int) : Bool := inB 2 6 t && inB 0 12 n
def rgL (t n : Nat) : List (List Int) := (lst n n (T n n)).filter fun p => regB p t
def rwF8 (t n : Int) : List (List Int) := if rwB8 t n then rgL t.toNat n.toNat else []
theorem filt_snoc_yes {M : List (List Int)} {f : List Int → Bool} {j : Nat} (h : j < M.length) (hd : f (M.getD j []) = true) : (M.take (j + 1)).filter f = (M.take j).filter f ++ [M.getD j []] := by
  rw [List.take_succ_eq_append_getElem h, List.filter_append, List.getD_eq_getElem?_getD, List.getElem?_eq_getElem h]
  rw [List.getD_eq_getElem?_getD, List.getElem?_eq_getElem h] at hd
  rw [List.filter_cons_of_pos (by simpa using hd)]; rfl
theorem filt_snoc_no {M : List (List Int)} {f : List Int → Bool} {j : Nat} (h : j < M.length) (hd : f (M.getD j []) = false) : (M.take (j + 1)).filter f = (M.take j).filter f := by
  rw [List.take_succ_eq_append_getElem h, List.filter_append]
  rw [List.getD_eq_getElem?_getD, List.getElem?_eq_getElem h] at hd
  rw [List.filter_cons_of_neg (by simpa using hd)]; simp
theorem lst_rows {n : Nat} (hn : n ≤ 30) {r : List Int} (h : r ∈ lst n n (T n n)) : Good r ∧ r.sum = n := by
  obtain ⟨j, hj, rfl⟩ := List.getElem_of_mem h
  have hj2 : j < T n n := by rwa [lst_len] at hj
  have e := lst_get n n (T n n) j hj2
  rw [List.getD_eq_getElem?_getD, List.getElem?_eq_getElem hj] at e
  simp only [Option.getD_some] at e
  rw [e]
  exact pa_good hn hj2
theorem bound_RegularWith (t n : Int) : (rwF8 t n).length ≤ 1048576 ∧ tot (rwF8 t n) ≤ 1048576 := by
  unfold rwF8
  split
  · rename_i h
    simp only [rwB8, Bool.and_eq_true] at h
    have hn := inB_iff.1 h.2
    have h1 : (rgL t.toNat n.toNat).length ≤ 5604 := by
      have := List.length_filter_le (fun p => regB p t.toNat) (lst n.toNat n.toNat (T n.toNat n.toNat))
      rw [lst_len] at this
      have := T_bound n.toNat (by omega) n.toNat (by omega)
      unfold rgL; omega
    have h2 := tot_le (rgL t.toNat n.toNat) 30 fun r hr => (lst_rows (by omega) (List.mem_filter.1 hr).1).1.len
    omega
  · simp [tot]
end Go.Proofs.Ytmjncedijddmmaa
/-
  Contracts: the border word, the model's side; and plain facts on the word.
-/
namespace Go.Proofs.Ytmjncedijddmmaa
open Go.RowKit

def pn (p : List Int) (j : Nat) : Nat := (p.getD j 0).toNat
/-- The columns that the border has passed before row number d from below. -/
def prevN (p : List Int) (d : Nat) : Nat := if d = 0 then 0 else pn p (p.length - d)
def wordUp (p : List Int) : Nat → List UInt8
  | 0 => []
  | d + 1 => wordUp p d ++ (List.replicate (pn p (p.length - 1 - d) - prevN p d) 82 ++ [85])
def wordS (p : List Int) (d a : Nat) : List UInt8 := wordUp p d ++ List.replicate (a - prevN p d) 82
theorem prev_le {p : List Int} (G : Good p) {d : Nat} (h : d < p.length) : prevN p d ≤ pn p (p.length - 1 - d) := by
  unfold prevN pn
  split
  · omega
  · have := G.down (p.length - 1 - d) (by omega)
    rw [show p.length - 1 - d + 1 = p.length - d by omega] at this
    omega
theorem prev_succ (p : List Int) (d : Nat) : prevN p (d + 1) = pn p (p.length - 1 - d) := by
  unfold prevN; rw [if_neg (by omega), show p.length - (d + 1) = p.length - 1 - d by omega]
theorem wordS_zero (p : List Int) (d : Nat) : wordS p d (prevN p d) = wordUp p d := by simp [wordS]
theorem wordS_R (p : List Int) (d a : Nat) (h : prevN p d ≤ a) : wordS p d (a + 1) = wordS p d a ++ [82] := by
  unfold wordS
  rw [show a + 1 - prevN p d = (a - prevN p d) + 1 by omega, List.replicate_succ', List.append_assoc]
theorem wordS_U (p : List Int) (d : Nat) : wordS p d (pn p (p.length - 1 - d)) ++ [85] = wordUp p (d + 1) := by
  simp [wordS, wordUp]
theorem pn_le {p : List Int} (G : Good p) (j : Nat) : pn p j ≤ 30 := by
  unfold pn
  by_cases h : j < p.length
  · have := G.le j h; omega
  · rw [List.getD_eq_getElem?_getD, List.getElem?_eq_none (by omega)]; simp
theorem wordUp_len {p : List Int} (G : Good p) : ∀ d, (wordUp p d).length ≤ 31 * d
  | 0 => by simp [wordUp]
  | d + 1 => by
    have := wordUp_len G d
    have := pn_le G (p.length - 1 - d)
    simp only [wordUp, List.length_append, List.length_replicate, List.length_cons, List.length_nil]; omega
theorem wordS_len {p : List Int} (G : Good p) (d a : Nat) (ha : a ≤ 30) : (wordS p d a).length ≤ 31 * d + 30 := by
  have := wordUp_len G d
  simp only [wordS, List.length_append, List.length_replicate]; omega
def wordL (p : List Int) : List UInt8 := wordUp p p.length
def strOf (l : List UInt8) : ByteArray := ⟨l.toArray⟩
theorem strOf_app (l m : List UInt8) : strOf l ++ strOf m = strOf (l ++ m) := by
  apply ByteArray.ext
  simp [strOf]
theorem strOf_size (l : List UInt8) : (strOf l).size = l.length := by simp [strOf, ByteArray.size]
def wordF (p : List Int) : ByteArray := if good p then strOf (wordL p) else ByteArray.empty

end Go.Proofs.Ytmjncedijddmmaa
/-
  The partition that a border word tells: plain mathematics.
-/
namespace Go.Proofs.Ytmjncedijddmmaa
open Go.RowKit

def fbStep (s : List Int × Nat) (c : UInt8) : List Int × Nat :=
  if c = 82 then (s.1, s.2 + 1) else if c = 85 then ((s.2 : Int) :: s.1, s.2) else s
def fb (l : List UInt8) : List Int × Nat := l.foldl fbStep ([], 0)
def RU (l : List UInt8) : Prop := ∀ c ∈ l, c = 82 ∨ c = 85
theorem fb_snoc (l : List UInt8) (c : UInt8) : fb (l ++ [c]) = fbStep (fb l) c := by simp [fb, List.foldl_append]
theorem fb_R (l : List UInt8) : fb (l ++ [82]) = ((fb l).1, (fb l).2 + 1) := by rw [fb_snoc]; rfl
theorem fb_U (l : List UInt8) : fb (l ++ [85]) = (((fb l).2 : Int) :: (fb l).1, (fb l).2) := by rw [fb_snoc]; rfl
/-- The columns passed before the row that is drawn next. -/
def hd (p : List Int) : Nat := prevN p p.length
theorem hd_nil : hd [] = 0 := rfl
theorem hd_cons (x : Nat) (p : List Int) : hd ((x : Int) :: p) = x := by simp [hd, prevN, pn]
theorem pn_cons (x : Int) (p : List Int) (j : Nat) : pn (x :: p) (j + 1) = pn p j := by simp [pn]
theorem prevN_cons (x : Int) (p : List Int) (d : Nat) (h : d ≤ p.length) : prevN (x :: p) d = prevN p d := by
  unfold prevN
  split
  · rfl
  · rw [List.length_cons, show p.length + 1 - d = (p.length - d) + 1 by omega, pn_cons]
theorem wordUp_cons (x : Int) (p : List Int) : ∀ d, d ≤ p.length → wordUp (x :: p) d = wordUp p d
  | 0, _ => rfl
  | d + 1, h => by
    simp only [wordUp]
    rw [wordUp_cons x p d (by omega), prevN_cons x p d (by omega), List.length_cons, show p.length + 1 - 1 - d = (p.length - 1 - d) + 1 by omega, pn_cons]
theorem wordL_cons (x : Nat) (p : List Int) : wordL ((x : Int) :: p) = wordL p ++ (List.replicate (x - hd p) 82 ++ [85]) := by
  unfold wordL
  rw [List.length_cons]
  simp only [wordUp]
  rw [wordUp_cons _ p p.length (Nat.le_refl _), prevN_cons _ p p.length (Nat.le_refl _), List.length_cons, show p.length + 1 - 1 - p.length = 0 by omega]
  simp [pn, hd]
theorem rev_ind {α : Type} {P : List α → Prop} (h0 : P []) (h1 : ∀ l c, P l → P (l ++ [c])) (l : List α) : P l := by
  rw [← List.reverse_reverse l]
  induction l.reverse with
  | nil => exact h0
  | cons c t ih => rw [List.reverse_cons]; exact h1 _ _ ih
theorem fb_word (l : List UInt8) : RU l → hd (fb l).1 ≤ (fb l).2 ∧ wordL (fb l).1 ++ List.replicate ((fb l).2 - hd (fb l).1) 82 = l := by
  refine rev_ind (P := fun l => RU l → hd (fb l).1 ≤ (fb l).2 ∧ wordL (fb l).1 ++ List.replicate ((fb l).2 - hd (fb l).1) 82 = l) (fun _ => ⟨Nat.le_refl _, rfl⟩) ?_ l
  intro l c ih h
  obtain ⟨h1, h2⟩ := ih fun x hx => h x (by simp [hx])
  rcases h c (by simp) with rfl | rfl
  · rw [fb_R]
    refine ⟨Nat.le_succ_of_le h1, ?_⟩
    show wordL (fb l).1 ++ List.replicate ((fb l).2 + 1 - hd (fb l).1) 82 = l ++ [82]
    rw [show (fb l).2 + 1 - hd (fb l).1 = (fb l).2 - hd (fb l).1 + 1 by omega, List.replicate_succ', ← List.append_assoc, h2]
  · rw [fb_U]
    show hd (((fb l).2 : Int) :: (fb l).1) ≤ (fb l).2 ∧ wordL (((fb l).2 : Int) :: (fb l).1) ++ List.replicate ((fb l).2 - hd (((fb l).2 : Int) :: (fb l).1)) 82 = l ++ [85]
    rw [hd_cons, wordL_cons, ← List.append_assoc, h2]
    exact ⟨Nat.le_refl _, by simp⟩
theorem fb_len (l : List UInt8) : (fb l).1.length = l.count 85 ∧ (fb l).2 ≤ l.length ∧ (fb l).1.length ≤ l.length := by
  refine rev_ind (P := fun l => (fb l).1.length = l.count 85 ∧ (fb l).2 ≤ l.length ∧ (fb l).1.length ≤ l.length) ⟨rfl, Nat.le_refl _, Nat.le_refl _⟩ ?_ l
  rintro l c ⟨h1, h2, h3⟩
  rw [fb_snoc, List.count_append, List.length_append]
  unfold fbStep
  split
  · rename_i h; subst h; refine ⟨?_, ?_, ?_⟩ <;> simp_all <;> omega
  · split
    · rename_i h; subst h; refine ⟨?_, ?_, ?_⟩ <;> simp_all <;> omega
    · rename_i h; refine ⟨?_, ?_, ?_⟩ <;> simp_all <;> omega
def ends (l : List UInt8) : Prop := l = [] ∨ (l.head? = some 82 ∧ l.getLast? = some 85)
theorem wordUp_head (p : List Int) (h : 0 < pn p (p.length - 1)) : ∀ d, (wordUp p (d + 1)).head? = some 82
  | 0 => by
    simp only [wordUp, prevN, Nat.sub_zero, List.nil_append]
    obtain ⟨k, hk⟩ : ∃ k, pn p (p.length - 1) = k + 1 := ⟨_, (Nat.succ_pred_eq_of_pos h).symm⟩
    rw [hk]; simp [List.replicate_succ]
  | d + 1 => by
    have ih := wordUp_head p h d
    rw [wordUp]
    rw [List.head?_append, ih]; rfl
theorem word_ends (p : List Int) (G : Good p) : ends (wordL p) := by
  rcases Nat.eq_zero_or_pos p.length with h | h
  · left; unfold wordL; rw [h]; rfl
  · right
    obtain ⟨k, hk⟩ : ∃ k, p.length = k + 1 := ⟨_, (Nat.succ_pred_eq_of_pos h).symm⟩
    unfold wordL
    have hp : 0 < pn p (p.length - 1) := by have := G.pos (p.length - 1) (by omega); unfold pn; omega
    refine ⟨by rw [hk]; exact wordUp_head p hp k, ?_⟩
    rw [hk, wordUp, ← List.append_assoc, List.getLast?_concat]
theorem fb_ends (l : List UInt8) (hr : RU l) (G : Good (fb l).1) : wordL (fb l).1 = l ↔ ends l := by
  constructor
  · intro h; rw [← h]; exact word_ends _ G
  · intro h
    obtain ⟨h1, h2⟩ := fb_word l hr
    have e : (fb l).2 = hd (fb l).1 := by
      rcases h with rfl | ⟨_, h⟩
      · rfl
      · have hne : l ≠ [] := by rintro rfl; simp at h
        obtain ⟨m, hm⟩ : ∃ m, l = m ++ [85] := ⟨l.dropLast, by
          rw [List.getLast?_eq_some_getLast hne] at h
          have := List.dropLast_concat_getLast hne
          rw [Option.some.inj h] at this; exact this.symm⟩
        rw [hm, fb_U]; exact (hd_cons _ _).symm
    rw [e, Nat.sub_self, List.replicate_zero, List.append_nil] at h2
    exact h2
theorem fb_take (l : List UInt8) (i : Nat) (h : i < l.length) : fb (l.take (i + 1)) = fbStep (fb (l.take i)) l[i] := by
  rw [List.take_succ_eq_append_getElem h, fb_snoc]
end Go.Proofs.Ytmjncedijddmmaa
