/-
  Several texts in one.
-/
import Derived.Test.YtmiifdedmjfgkaaR07
import Derived.Test.YtmiifdedmjfgkaaBase2
/-
  Plain facts: the rows that meet a test, in order. No program in this text.
-/
namespace Go.Proofs.Ytmiifdedmjfgkaa

def filt (p : Nat → Bool) (k : Nat) : List Int := ((List.range k).filter p).map fun i : Nat => (i : Int)
theorem filt_yes {p : Nat → Bool} {k : Nat} (h : p k = true) : filt p (k + 1) = filt p k ++ [(k : Int)] := by simp [filt, List.range_succ, List.filter_append, h]
theorem filt_no {p : Nat → Bool} {k : Nat} (h : p k = false) : filt p (k + 1) = filt p k := by simp [filt, List.range_succ, List.filter_append, h]
theorem filt_len (p : Nat → Bool) (k : Nat) : (filt p k).length ≤ k := by
  unfold filt; rw [List.length_map]
  have := List.length_filter_le p (List.range k)
  rw [List.length_range] at this; exact this
theorem filt_zero (p : Nat → Bool) : filt p 0 = [] := rfl
def corB (xs : List Int) (r : Nat) : Bool := decide (r + 1 = xs.length) || decide (xs.getD (r + 1) 0 < xs.getD r 0)
def addB (xs : List Int) (r : Nat) : Bool := decide (r = 0) || (decide (r = xs.length) || decide (xs.getD r 0 < xs.getD (r - 1) 0))
def corF (xs : List Int) : List Int := if good xs then filt (corB xs) xs.length else []
def addF (xs : List Int) : List Int := if good xs then filt (addB xs) (xs.length + 1) else []
theorem corF_t {xs : List Int} (h : good xs = true) : corF xs = filt (corB xs) xs.length := by simp [corF, h]
theorem corF_f {xs : List Int} (h : good xs = false) : corF xs = [] := by simp [corF, h]
theorem addF_t {xs : List Int} (h : good xs = true) : addF xs = filt (addB xs) (xs.length + 1) := by simp [addF, h]
theorem addF_f {xs : List Int} (h : good xs = false) : addF xs = [] := by simp [addF, h]
theorem bound_CornersOf (xs : List Int) : (corF xs).length ≤ 1048576 := by
  unfold corF
  split
  · rename_i h
    have := filt_len (corB xs) xs.length
    have := ((good_iff xs).1 h).len
    omega
  · simp
theorem bound_AddableOf (xs : List Int) : (addF xs).length ≤ 1048576 := by
  unfold addF
  split
  · rename_i h
    have := filt_len (addB xs) (xs.length + 1)
    have := ((good_iff xs).1 h).len
    omega
  · simp
theorem cor_last {xs : List Int} {r : Nat} (h : r + 1 = xs.length) : corB xs r = true := by simp [corB, h]
theorem cor_lt {xs : List Int} {r : Nat} (h : xs.getD (r + 1) 0 < xs.getD r 0) : corB xs r = true := by
  unfold corB; rw [decide_eq_true h, Bool.or_true]
theorem cor_no {xs : List Int} {r : Nat} (h : r + 1 ≠ xs.length) (h2 : ¬ xs.getD (r + 1) 0 < xs.getD r 0) : corB xs r = false := by
  unfold corB; rw [decide_eq_false h, decide_eq_false h2]; rfl
theorem add_zero (xs : List Int) : addB xs 0 = true := by simp [addB]
theorem add_last (xs : List Int) : addB xs xs.length = true := by
  unfold addB; rw [decide_eq_true (p := xs.length = xs.length) rfl, Bool.true_or, Bool.or_true]
theorem add_lt {xs : List Int} {r : Nat} (h : xs.getD r 0 < xs.getD (r - 1) 0) : addB xs r = true := by
  unfold addB; rw [decide_eq_true h, Bool.or_true, Bool.or_true]
theorem add_no {xs : List Int} {r : Nat} (h : r ≠ 0) (h1 : r ≠ xs.length) (h2 : ¬ xs.getD r 0 < xs.getD (r - 1) 0) : addB xs r = false := by
  unfold addB; rw [decide_eq_false h, decide_eq_false h1, decide_eq_false h2]; rfl
end Go.Proofs.Ytmiifdedmjfgkaa
/-
  Rows that are pushed, one after the other: a slice of slices that grows.
-/
namespace Go.Proofs.Ytmiifdedmjfgkaa
open Go.RowKit

/-! rows that are pushed, one after the other -/
structure Push (w : World) (B : Nat) (v : Value) (rows : List (List Int)) (P : Nat → Option Addr) (C : Nat → Nat) : Prop where
  out : w.ownsRow B 22 1 v rows.length (RL P C rows)
  row : ∀ j, j < rows.length → Own w B (P j) (C j) (rows.getD j [])
  apart : ∀ i j, i < j → j < rows.length → ∀ b, (P i).map Addr.block = some b → (P j).map Addr.block ≠ some b
theorem push_nil (w : World) (B : Nat) : Push w B (.slice none 0 0) [] (fun _ => none) (fun _ => 0) :=
  ⟨World.ownsRow_nil w B _ _, fun j h => absurd h (by simp), fun i j _ h => absurd h (by simp)⟩
theorem row_ne' {w : World} {B B' : Nat} {n : Nat} {v : Value} {vs : List Value} {A : Option Addr} {c' : Nat} {r : List Int} (h : w.ownsRow B 22 1 v n vs) (hr : Own w B' A c' r) : ∀ b, A.map Addr.block = some b → v.ownBlock ≠ some b := by
  intro b hb e
  rcases h.2 with ⟨rfl, _⟩ | ⟨g1, cap, cur1, rfl, hb1, hg1, rest⟩
  · simp [Value.ownBlock] at e
  · have e1 : g1 = b := by simpa [Value.ownBlock] using e
    subst e1
    exact row_ne ⟨h.1, .inr ⟨g1, cap, cur1, rfl, hb1, hg1, rest⟩⟩ hr hb
theorem Push.below {w w' : World} {B : Nat} {v : Value} {rows : List (List Int)} {P : Nat → Option Addr} {C : Nat → Nat} (h : Push w B v rows P C) (hb : Below w.heap.size w w') : Push w' B v rows P C := by
  refine ⟨?_, fun j hj => (h.row j hj).below hb, h.apart⟩
  have ho := h.out
  refine ⟨ho.1, ?_⟩
  rcases ho.2 with hn | ⟨g, cap, cur, hv, hbb, hgg, rest⟩
  · exact .inl hn
  · exact .inr ⟨g, cap, cur, hv, hbb, by rw [hb.block g (Array.getElem?_eq_some_iff.1 hgg).1]; exact hgg, rest⟩
def setAt {α : Type} (P : Nat → α) (n : Nat) (a : α) : Nat → α := fun j => if j = n then a else P j
theorem setAt_eq {α : Type} (P : Nat → α) (n : Nat) (a : α) : setAt P n a n = a := by simp [setAt]
theorem setAt_ne {α : Type} (P : Nat → α) {n j : Nat} (a : α) (h : j ≠ n) : setAt P n a j = P j := by simp [setAt, h]
theorem getD_snoc_lt (rows : List (List Int)) (r : List Int) (j : Nat) (h : j < rows.length) : (rows ++ [r]).getD j [] = rows.getD j [] := by
  rw [List.getD_eq_getElem?_getD, List.getElem?_append_left h, ← List.getD_eq_getElem?_getD]
theorem getD_snoc_eq (rows : List (List Int)) (r : List Int) : (rows ++ [r]).getD rows.length [] = r := by simp [List.getD]
theorem RL_snoc (P : Nat → Option Addr) (C : Nat → Nat) (rows : List (List Int)) (r : List Int) (A : Option Addr) (c : Nat) :
    RL (setAt P rows.length A) (setAt C rows.length c) (rows ++ [r]) = RL P C rows ++ [.slice A r.length c] := by
  unfold RL
  rw [List.length_append, List.length_singleton, List.range_succ, List.map_append]
  congr 1
  · refine List.map_congr_left fun j hj => ?_
    have hj' : j < rows.length := List.mem_range.1 hj
    rw [setAt_ne P A (by omega), setAt_ne C c (by omega), getD_snoc_lt rows r j hj']
  · simp [setAt_eq]
/-- One row more: it was made behind the world w0 (its blocks are from w0's size on); the append wrote the outer row's own block alone. -/
theorem Push.push {w0 w1 w2 : World} {B : Nat} {v v' : Value} {rows : List (List Int)} {P : Nat → Option Addr} {C : Nat → Nat} {A : Option Addr} {c : Nat} {r : List Int} {o : Obj}
    (h : Push w0 B v rows P C) (hb : Below w0.heap.size w0 w1) (hr : Own w1 w0.heap.size A c r) (hB : B ≤ w0.heap.size)
    (ho : w2.ownsRow B 22 1 v' (rows.length + 1) (RL P C rows ++ [.slice A r.length c])) (hg : (w1.alloc o).grownBy w2 v.ownBlock) :
    Push w2 B v' (rows ++ [r]) (setAt P rows.length A) (setAt C rows.length c) := by
  have h1 := h.below hb
  have keep : ∀ {A' : Option Addr} {c' : Nat} {r' : List Int}, Own w1 B A' c' r' → Own w2 B A' c' r' := fun {A' c' r'} hx => by
    refine hx.keep fun b hbb hlt => ?_
    have e1 : (w1.alloc o).heap[b]? = w1.heap[b]? := Below.heap_alloc _ _ _ hlt
    rw [← e1]
    exact hg.block b (by simp; omega) (fun e => row_ne' h1.out hx b hbb e.symm)
  refine ⟨by rw [RL_snoc, List.length_append]; exact ho, fun j hj => ?_, fun i j hij hj b hbi => ?_⟩
  · rw [List.length_append, List.length_singleton] at hj
    by_cases e : j = rows.length
    · subst e
      rw [setAt_eq, setAt_eq, getD_snoc_eq]
      exact keep (hr.more hB)
    · rw [setAt_ne P A e, setAt_ne C c e, getD_snoc_lt rows r j (by omega)]
      exact keep (h1.row j (by omega))
  · rw [List.length_append, List.length_singleton] at hj
    rw [setAt_ne P A (show i ≠ rows.length by omega)] at hbi
    by_cases e : j = rows.length
    · subst e
      rw [setAt_eq]
      intro he
      have := (hr.block b he).1
      have := ((h.row i (by omega)).block b hbi).2
      omega
    · rw [setAt_ne P A e]
      exact h.apart i j hij (by omega) b hbi
theorem Push.own2 {w : World} {B : Nat} {v : Value} {rows : List (List Int)} {P : Nat → Option Addr} {C : Nat → Nat} (h : Push w B v rows P C) : ∃ A c, v = .slice A rows.length c ∧ Own2 w B w.heap.size A c rows := by
  have ho := h.out
  rcases ho.2 with ⟨hv, h0⟩ | ⟨g, cap, cur, hv, _⟩
  · have e : rows = [] := List.eq_nil_of_length_eq_zero h0
    subst e
    exact ⟨none, 0, hv, own2_nil _ _ _⟩
  · refine ⟨some ⟨g, 0, none⟩, cap, hv, P, C, by rw [← hv]; exact ho, fun b hb => ?_, h.row, fun j hj b hb => ((h.row j hj).block b hb).2, h.apart⟩
    exact (ho.lt b (by rw [hv]; simpa [Value.ownBlock] using hb)).2
theorem one_cellS (A : Option Addr) (n c : Nat) : ∀ u ∈ [Value.slice A n c], u.oneCell' = true := by
  intro u hu; simp at hu; subst hu; rfl
theorem Own2.more {w : World} {B B' S : Nat} {A : Option Addr} {c : Nat} {rows : List (List Int)} (h : Own2 w B S A c rows) (hB : B' ≤ B) : Own2 w B' S A c rows := by
  obtain ⟨P, C, h⟩ := h
  refine ⟨P, C, ⟨h.out.1, ?_⟩, h.outS, fun j hj => (h.row j hj).more hB, h.rowS, h.apart⟩
  rcases h.out.2 with hn | ⟨g, cap, cur, hv, hb, rest⟩
  · exact .inl hn
  · exact .inr ⟨g, cap, cur, hv, Nat.le_trans hB hb, rest⟩
end Go.Proofs.Ytmiifdedmjfgkaa
