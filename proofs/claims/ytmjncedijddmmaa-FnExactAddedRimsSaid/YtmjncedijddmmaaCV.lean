/-
  Several texts in one.
-/
import Derived.Test.YtmjncedijddmmaaR17
import Derived.Test.YtmjncedijddmmaaR26
import Derived.Test.YtmjncedijddmmaaR27
import Derived.Test.YtmjncedijddmmaaCC
import Derived.Test.YtmjncedijddmmaaCB
import Derived.Test.YtmjncedijddmmaaR25
import Derived.Laws.BytesArg
import Derived.Deep.RegionWith
import Derived.Handy
/-
  Contracts: the marks of a partition, the program's side (made by genmk.py).
-/
namespace Go.Proofs.Ytmjncedijddmmaa
open Go.RowKit

def ML (L : List (Nat × Nat)) : List Value := L.flatMap fun q => [.int .u8 (q.1 : Int), .int .i64 (q.2 : Int)]
theorem ML_snoc (L : List (Nat × Nat)) (a b : Nat) : ML (L ++ [(a, b)]) = ML L ++ [.int .u8 (a : Int), .int .i64 (b : Int)] := by simp [ML]
theorem ML_len (L : List (Nat × Nat)) : (ML L).length = L.length * 2 := by
  induction L with
  | nil => rfl
  | cons q t ih => simp only [ML, List.flatMap_cons, List.length_append, List.length_cons, List.length_nil] at ih ⊢; omega
theorem ML_get : ∀ (L : List (Nat × Nat)) (j : Nat), j < L.length → (ML L)[2 * j]? = some (.int .u8 ((L.getD j (0, 0)).1 : Int)) ∧ (ML L)[2 * j + 1]? = some (.int .i64 ((L.getD j (0, 0)).2 : Int))
  | [], j, h => absurd h (by simp)
  | q :: t, 0, _ => by simp [ML]
  | q :: t, j + 1, h => by
    have := ML_get t j (by simpa using h)
    have e : ML (q :: t) = [.int .u8 (q.1 : Int), .int .i64 (q.2 : Int)] ++ ML t := by simp [ML]
    rw [e, List.getElem?_append_right (by simp; omega), List.getElem?_append_right (by simp; omega)]
    simp only [List.length_cons, List.length_nil, List.getD_cons_succ]
    rw [show 2 * (j + 1) - (0 + 1 + 1) = 2 * j by omega, show 2 * (j + 1) + 1 - (0 + 1 + 1) = 2 * j + 1 by omega]
    exact this
theorem ML_take (L : List (Nat × Nat)) (k : Nat) : (ML L).take (k * 2) = ML (L.take k) := by
  induction L generalizing k with
  | nil => simp [ML]
  | cons q t ih =>
    cases k with
    | zero => simp [ML]
    | succ k =>
      have e : ML (q :: t) = [.int .u8 (q.1 : Int), .int .i64 (q.2 : Int)] ++ ML t := by simp [ML]
      rw [e, List.take_succ_cons, show ML (q :: t.take k) = [.int .u8 (q.1 : Int), .int .i64 (q.2 : Int)] ++ ML (t.take k) by simp [ML], ← ih k]
      rw [show (k + 1) * 2 = k * 2 + 1 + 1 by omega]; rfl
theorem mark_at {w : World} {x y : Value} {t : TypeId} (j : Nat) (u : Value) (h : [x, y][j]? = some u) : (w.alloc (.cells #[x, y] t)).cell? ((⟨w.heap.size, 0, none⟩ : Addr).add j) = some u := by
  match j, h with
  | 0, h => simp at h; subst h; simp [Addr.add]
  | 1, h => simp at h; subst h; simp [Addr.add]
theorem mark_cell (x y : Int) : ∀ u ∈ [Value.int .u8 x, .int .i64 y], u.oneCell' = true := by
  intro u hu; simp at hu; rcases hu with rfl | rfl <;> rfl
theorem filt_mem (p : Nat → Bool) (k r : Nat) : ((r : Int) ∈ filt p k) ↔ (r < k ∧ p r = true) := by
  simp only [filt, List.mem_map, List.mem_filter, List.mem_range]
  constructor
  · rintro ⟨a, h, e⟩
    have : a = r := by omega
    subst this; exact h
  · intro h; exact ⟨r, h, rfl⟩
theorem sgB_A {xs : List Int} {t : Nat} {i : Int} {r : Nat} (h : addB xs r = true) (h2 : (xs.getD r 0 - r) % (t : Int) = i) : sgB xs t i r = 65 := by unfold sgB; rw [if_pos ⟨h, h2⟩]
theorem sgB_R {xs : List Int} {t : Nat} {i : Int} {r : Nat} (h : ¬ (addB xs r = true ∧ (xs.getD r 0 - r) % (t : Int) = i)) (h1 : r < xs.length ∧ corB xs r = true) (h2 : (xs.getD r 0 - 1 - r) % (t : Int) = i) : sgB xs t i r = 82 := by unfold sgB; rw [if_neg h, if_pos ⟨h1, h2⟩]
theorem sgB_0 {xs : List Int} {t : Nat} {i : Int} {r : Nat} (h : ¬ (addB xs r = true ∧ (xs.getD r 0 - r) % (t : Int) = i)) (h1 : ¬ ((r < xs.length ∧ corB xs r = true) ∧ (xs.getD r 0 - 1 - r) % (t : Int) = i)) : sgB xs t i r = 0 := by unfold sgB; rw [if_neg h, if_neg h1]

end Go.Proofs.Ytmjncedijddmmaa
/-
  Contracts: marks that are left, and their letters, the program's side.
-/
namespace Go.Proofs.Ytmjncedijddmmaa
open Go.RowKit

theorem redS_noM {st : List (Nat × Nat)} {m : Nat × Nat} (h : ¬ (m.1 = 82 ∧ 0 < st.length ∧ (st.getD (st.length - 1) (0, 0)).1 = 65)) : redS st m = st ++ [m] := if_neg h
theorem redS_yesM {st : List (Nat × Nat)} {m : Nat × Nat} (h : m.1 = 82 ∧ 0 < st.length ∧ (st.getD (st.length - 1) (0, 0)).1 = 65) : redS st m = st.take (st.length - 1) := if_pos h

theorem Try.infoU8 : (Try.prog.info? 5).map (fun i => (i.zero, i.size, i.bytes)) = some (some (.int .u8 0), 1, 1) := by kernel_rfl
def LN (M : List (Nat × Nat)) : List Int := M.map fun q => (q.1 : Int)
def BV (xs : List Int) : List Value := xs.map (Value.int .u8)
theorem LN_len (M : List (Nat × Nat)) : (LN M).length = M.length := by simp [LN]
theorem LN_str (M : List (Nat × Nat)) : strOfNums (LN M) = strOf (ltrs M) := by
  simp [strOfNums, strOf, LN, ltrs, Function.comp_def]
theorem BV_get (xs : List Int) (j : Nat) (h : j < xs.length) : (BV xs)[j]? = some (.int .u8 (xs.getD j 0)) := by
  simp [BV, List.getD, h]
theorem u8_at {w : World} {x : Value} {t : TypeId} (j : Nat) (u : Value) (h : [x][j]? = some u) : (w.alloc (.cells #[x] t)).cell? ((⟨w.heap.size, 0, none⟩ : Addr).add j) = some u := by
  match j, h with
  | 0, h => simp at h; subst h; simp [Addr.add]
theorem u8_cell (x : Int) : ∀ u ∈ [Value.int .u8 x], u.oneCell' = true := by
  intro u hu; simp at hu; subst hu; rfl

end Go.Proofs.Ytmjncedijddmmaa
/-
  Contracts: the rows whose letter is left, for both arrows of the program (made by genrw.py).
-/
namespace Go.Proofs.Ytmjncedijddmmaa
open Go.RowKit

def RN (l : List Nat) : List Int := l.map fun n : Nat => (n : Int)
theorem RN_len (l : List Nat) : (RN l).length = l.length := by simp [RN]
theorem RN_snoc (l : List Nat) (n : Nat) : RN (l ++ [n]) = RN l ++ [(n : Int)] := by simp [RN]
theorem sigM_len31 {xs : List Int} (hl : xs.length ≤ 30) (t : Nat) (i : Int) : (red (sig xs t i)).length ≤ 31 := by
  have := red_len (sig xs t i); have := sig_len (xs := xs) t i; omega

end Go.Proofs.Ytmjncedijddmmaa
