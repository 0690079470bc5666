/-
  Several texts in one.
-/
import Derived.Test.YtkbdlhmkiolegaaR17
import Derived.Test.YtkbdlhmkiolegaaR18
import Derived.Test.YtkbdlhmkiolegaaCB
import Derived.Lib.FrozenHead
/-
  Contracts: a runner with rows, and FromRunners, of the program.
-/
namespace Go.Proofs.Ytkbdlhmkiolegaa
open Go.RowKit

/-- The bits of a row of numbers. -/
def rbK (xs : List Int) (k r : Nat) : Bool := decide ((r : Int) ∈ xs.take k)
def rbF (xs : List Int) : Nat → Bool := fun r => decide ((r : Int) ∈ xs)
theorem rbK_zero (xs : List Int) : rbK xs 0 = fun _ => false := by funext r; simp [rbK]
theorem rbK_all (xs : List Int) : rbK xs xs.length = rbF xs := by funext r; simp [rbK, rbF]
theorem rbK_succ {xs : List Int} {k n : Nat} (hk : k < xs.length) (hn : xs.getD k 0 = n) : updB (rbK xs k) n true = rbK xs (k + 1) := by
  funext r
  unfold updB rbK
  rw [take_snoc xs k hk _ hn]
  by_cases e : r = n
  · subst e; simp
  · rw [if_neg e]
    have : (r : Int) ≠ (n : Int) := by omega
    simp [this]
def rwOk (xs : List Int) : Bool := rises 0 35 xs
def rwB (xs : List Int) : Nat → Bool := if rwOk xs then rbF xs else fun _ => false

end Go.Proofs.Ytkbdlhmkiolegaa
/-
  Contracts: FromRunners of the program.
-/
namespace Go.Proofs.Ytkbdlhmkiolegaa
open Go.RowKit

theorem tot_get_le (rows : List (List Int)) (k : Nat) (hk : k < rows.length) : (rows.getD k []).length ≤ tot rows := by
  have h1 := tot_take_succ rows k hk
  have h2 := tot_take_le rows (k + 1)
  omega
/-- A board with the first k of some rows. -/
def frB (R : Nat → List Int) : Nat → Nat → Bool
  | 0 => fun _ => false
  | k + 1 => setLn (frB R k) k (rbF (R k))
theorem frB_at (R : Nat → List Int) (i r : Nat) (hr : r < 36) : ∀ k, frB R k (36 * i + r) = (decide (i < k) && rbF (R i) r)
  | 0 => by simp [frB]
  | k + 1 => by
    rw [frB]
    unfold setLn
    by_cases e : i = k
    · subst e
      rw [if_pos (at_in i r hr), at_sub]; simp
    · rw [if_neg (at_out k i r hr e), frB_at R i r hr k]
      congr 1
      rw [decide_eq_decide]; omega
def rowsR (rows : List (List Int)) : Nat → List Int := fun i => rows.getD i []
def frL (rows : List (List Int)) : List Int := insF (abfL rows.length (rowsR rows) rows.length)
def frOk (rows : List (List Int)) : Bool := inB 2 6 rows.length && (rows.all rwOk && isAba rows.length (frL rows))
def frT (rows : List (List Int)) : Int := if frOk rows then rows.length else 0
def frF (rows : List (List Int)) : List Int := if frOk rows then frL rows else []
theorem fr_no {rows : List (List Int)} (h : frOk rows = false) : frT rows = 0 ∧ frF rows = [] := by simp [frT, frF, h]
theorem fr_yes {rows : List (List Int)} (h : frOk rows = true) : frT rows = rows.length ∧ frF rows = frL rows := by simp [frT, frF, h]
theorem fr_row_no {rows : List (List Int)} {k : Nat} (hk : k < rows.length) (h : rwOk (rows.getD k []) = false) : frOk rows = false := by
  have : rows.all rwOk = false := by
    rw [List.all_eq_false]
    refine ⟨rows.getD k [], ?_, by rw [h]; simp⟩
    rw [List.getD_eq_getElem?_getD, List.getElem?_eq_getElem hk]; exact List.getElem_mem hk
  simp [frOk, this]
theorem rw_bd {xs : List Int} (h : rwOk xs = true) : ∀ x ∈ xs, 0 ≤ x ∧ x ≤ 35 := fun x hx => by
  obtain ⟨j, hj, rfl⟩ := mem_getD.1 hx
  exact (rises_Rises.1 h).bd j hj
theorem rw_nodup {xs : List Int} (h : rwOk xs = true) : xs.Nodup := pw_nodup (rise_pw (rises_Rises.1 h).up)
theorem fr_nodup {rows : List (List Int)} (h : ∀ i, i < rows.length → rwOk (rowsR rows i) = true) : (abfL rows.length (rowsR rows) rows.length).Nodup :=
  abfL_nodup _ (Nat.le_refl _) fun i hi => rw_nodup (h i hi)
theorem fr_board {rows : List (List Int)} (h0 : 0 < rows.length) (h : ∀ i, i < rows.length → rwOk (rowsR rows i) = true) : abL rows.length (frB (rowsR rows) rows.length) = frL rows := by
  obtain ⟨t, ht⟩ : ∃ t, t = rows.length := ⟨_, rfl⟩
  have hn := fr_nodup h
  have hL : frL rows = insF (abfL rows.length (rowsR rows) rows.length) := rfl
  rw [hL]
  rw [← ht] at h h0 hn ⊢
  obtain ⟨p1, p2, _⟩ := insF_all hn
  refine pw_ext (bdL_pw _ _ _) p1 fun x => ?_
  rw [p2 x, mem_abfL]
  unfold abL
  rw [mem_bdL]
  constructor
  · rintro ⟨n, hn, hf, rfl⟩
    have hd : n / t < 36 := by rw [Nat.div_lt_iff_lt_mul h0]; rw [Nat.mul_comm]; exact hn
    have hm : n % t < t := Nat.mod_lt _ h0
    unfold atQ at hf
    rw [frB_at _ _ _ hd, Bool.and_eq_true] at hf
    refine ⟨n % t, ((n / t : Nat) : Int), hm, of_decide_eq_true hf.2, ?_⟩
    have := Nat.div_add_mod n t
    rw [Nat.mul_comm] at this
    have e2 : ((n / t : Nat) : Int) * (t : Int) + ((n % t : Nat) : Int) = ((n / t * t + n % t : Nat) : Int) := rfl
    rw [e2, this]
  · rintro ⟨i, y, hi, hy, rfl⟩
    have hb := rw_bd (h i hi) y hy
    obtain ⟨m, rfl⟩ : ∃ m : Nat, y = m := ⟨y.toNat, by omega⟩
    have hm : m < 36 := by omega
    have e1 : (m * t + i) / t = m := by rw [Nat.mul_comm, Nat.mul_add_div h0, Nat.div_eq_of_lt hi]; omega
    have e2 : (m * t + i) % t = i := by rw [Nat.mul_comm, Nat.mul_add_mod, Nat.mod_eq_of_lt hi]
    refine ⟨m * t + i, ?_, ?_, rfl⟩
    · have : m * t ≤ 35 * t := Nat.mul_le_mul_right _ (by omega)
      omega
    · unfold atQ
      rw [e1, e2, frB_at _ _ _ hm, Bool.and_eq_true]
      exact ⟨decide_eq_true hi, decide_eq_true hy⟩
theorem fr_ok {rows : List (List Int)} (h0 : inB 2 6 (rows.length : Int) = true) (h : ∀ i, i < rows.length → rwOk (rowsR rows i) = true) : frOk rows = isAba rows.length (frL rows) := by
  have : rows.all rwOk = true := by
    rw [List.all_eq_true]
    intro x hx
    obtain ⟨j, hj, rfl⟩ := List.getElem_of_mem hx
    have := h j hj
    unfold rowsR at this
    rw [List.getD_eq_getElem?_getD, List.getElem?_eq_getElem hj] at this
    exact this
  simp [frOk, h0, this]
theorem bound_FromRunners (rows : List (List Int)) : (frF rows).length ≤ 1048576 := by
  unfold frF; split
  · rename_i h
    simp only [frOk, isAba, Bool.and_eq_true] at h
    have := (goodB_iff.1 h.2.2.2).len
    omega
  · simp

end Go.Proofs.Ytkbdlhmkiolegaa
/-
  Contracts: the border word, the model's side; and plain facts on the word.
-/
namespace Go.Proofs.Ytkbdlhmkiolegaa
open Go.RowKit

def pn (p : List Int) (j : Nat) : Nat := (p.getD j 0).toNat
/-- The columns that the border has passed before row number d from below. -/
def prevN (p : List Int) (d : Nat) : Nat := if d = 0 then 0 else pn p (p.length - d)
def wordUp (p : List Int) : Nat → List UInt8
  | 0 => []
  | d + 1 => wordUp p d ++ (List.replicate (pn p (p.length - 1 - d) - prevN p d) 82 ++ [85])
def wordS (p : List Int) (d a : Nat) : List UInt8 := wordUp p d ++ List.replicate (a - prevN p d) 82
theorem prev_le {p : List Int} (G : Good p) {d : Nat} (h : d < p.length) : prevN p d ≤ pn p (p.length - 1 - d) := by
  unfold prevN pn
  split
  · omega
  · have := G.down (p.length - 1 - d) (by omega)
    rw [show p.length - 1 - d + 1 = p.length - d by omega] at this
    omega
theorem prev_succ (p : List Int) (d : Nat) : prevN p (d + 1) = pn p (p.length - 1 - d) := by
  unfold prevN; rw [if_neg (by omega), show p.length - (d + 1) = p.length - 1 - d by omega]
theorem wordS_zero (p : List Int) (d : Nat) : wordS p d (prevN p d) = wordUp p d := by simp [wordS]
theorem wordS_R (p : List Int) (d a : Nat) (h : prevN p d ≤ a) : wordS p d (a + 1) = wordS p d a ++ [82] := by
  unfold wordS
  rw [show a + 1 - prevN p d = (a - prevN p d) + 1 by omega, List.replicate_succ', List.append_assoc]
theorem wordS_U (p : List Int) (d : Nat) : wordS p d (pn p (p.length - 1 - d)) ++ [85] = wordUp p (d + 1) := by
  simp [wordS, wordUp]
theorem pn_le {p : List Int} (G : Good p) (j : Nat) : pn p j ≤ 30 := by
  unfold pn
  by_cases h : j < p.length
  · have := G.le j h; omega
  · rw [List.getD_eq_getElem?_getD, List.getElem?_eq_none (by omega)]; simp
theorem wordUp_len {p : List Int} (G : Good p) : ∀ d, (wordUp p d).length ≤ 31 * d
  | 0 => by simp [wordUp]
  | d + 1 => by
    have := wordUp_len G d
    have := pn_le G (p.length - 1 - d)
    simp only [wordUp, List.length_append, List.length_replicate, List.length_cons, List.length_nil]; omega
theorem wordS_len {p : List Int} (G : Good p) (d a : Nat) (ha : a ≤ 30) : (wordS p d a).length ≤ 31 * d + 30 := by
  have := wordUp_len G d
  simp only [wordS, List.length_append, List.length_replicate]; omega
def wordL (p : List Int) : List UInt8 := wordUp p p.length
def strOf (l : List UInt8) : ByteArray := ⟨l.toArray⟩
theorem strOf_app (l m : List UInt8) : strOf l ++ strOf m = strOf (l ++ m) := by
  apply ByteArray.ext
  simp [strOf]
theorem strOf_size (l : List UInt8) : (strOf l).size = l.length := by simp [strOf, ByteArray.size]
def wordF (p : List Int) : ByteArray := if good p then strOf (wordL p) else ByteArray.empty

end Go.Proofs.Ytkbdlhmkiolegaa
