/-
  Slices of slices of ints, read or owned, and the contracts of the laws' own helpers on them: eqIntSS, markIntSS, heldIntSS.
-/
import Derived.Test.YtmiifdedmjfgkaaR01
namespace Go.Proofs.Ytmiifdedmjfgkaa
open Go.RowKit

/-- From w to w' only blocks from B on and below S, and new ones, have turned. -/
structure Only (w w' : World) (B S : Nat) : Prop where
  os : w'.os = w.os
  tape : w'.tape = w.tape
  output : w'.output = w.output
  size : w.heap.size ≤ w'.heap.size
  block : ∀ k, k < w.heap.size → (k < B ∨ S ≤ k) → w'.heap[k]? = w.heap[k]?
theorem Only.refl (w : World) (B S : Nat) : Only w w B S := ⟨rfl, rfl, rfl, Nat.le_refl _, fun _ _ _ => rfl⟩
theorem Only.of_grown {w w' : World} {row : Option Nat} {B S : Nat} (h : w.grownBy w' row) (hb : ∀ b, row = some b → B ≤ b ∧ b < S) : Only w w' B S :=
  ⟨h.os, h.tape, h.output, h.size, fun k hk ho => h.block k hk (fun e => by have := hb k e.symm; omega)⟩
theorem Only.trans {a b c : World} {B S : Nat} (h : Only a b B S) (k : Only b c B S) : Only a c B S :=
  ⟨k.os.trans h.os, k.tape.trans h.tape, k.output.trans h.output, Nat.le_trans h.size k.size, fun i hi ho => (k.block i (Nat.lt_of_lt_of_le hi h.size) ho).trans (h.block i hi ho)⟩
theorem Below.only {n : Nat} {a b c : World} {B S : Nat} (h : Below n a b) (k : Only b c B S) (hn : n ≤ B) (hb : n ≤ b.heap.size) : Below n a c :=
  ⟨k.os.trans h.os, k.tape.trans h.tape, k.output.trans h.output, Nat.le_trans h.size k.size, fun i hi => (k.block i (by omega) (.inl (by omega))).trans (h.block i hi)⟩
theorem Own.only {w w' : World} {B0 : Nat} {A : Option Addr} {c : Nat} {xs : List Int} {B S B' S' : Nat} (h : Own w B0 A c xs) (k : ∀ b, A.map Addr.block = some b → B ≤ b ∧ b < S) (o : Only w w' B' S') (hd : S ≤ B' ∨ S' ≤ B) : Own w' B0 A c xs :=
  h.keep fun b hb hlt => o.block b hlt (by have := k b hb; omega)
theorem Cells.only {w w' : World} {A : Option Addr} {xs : List Int} {B S : Nat} (h : Cells w A xs) (o : Only w w' B S) (hd : ∀ b, A.map Addr.block = some b → b < w.heap.size → b < B ∨ S ≤ b) : Cells w' A xs :=
  h.keep fun b hb hlt => o.block b hlt (hd b hb hlt)

theorem Try.infoInts : (Try.prog.info? 22).map (fun i => (i.zero, i.size, i.bytes)) = some (some (.slice none 0 0), 1, 24) := by kernel_rfl

def RL (P : Nat → Option Addr) (C : Nat → Nat) (rows : List (List Int)) : List Value := (List.range rows.length).map fun j => .slice (P j) (rows.getD j []).length (C j)
theorem RL_len (P : Nat → Option Addr) (C : Nat → Nat) (rows : List (List Int)) : (RL P C rows).length = rows.length := by simp [RL]
theorem RL_get (P : Nat → Option Addr) (C : Nat → Nat) (rows : List (List Int)) (j : Nat) (h : j < rows.length) : (RL P C rows)[j]? = some (.slice (P j) (rows.getD j []).length (C j)) := by
  rw [RL, List.getElem?_map, List.getElem?_range h]; rfl

/-- The slice of slices at A reads as rows. -/
def Cells2 (w : World) (A : Option Addr) (rows : List (List Int)) : Prop :=
  ∃ (P : Nat → Option Addr) (C : Nat → Nat), (0 < rows.length → ∃ b o, A = some ⟨b, o, none⟩ ∧ ∀ j, j < rows.length → w.cell? ⟨b, o + j, none⟩ = some (.slice (P j) (rows.getD j []).length (C j))) ∧
    ∀ j, j < rows.length → Cells w (P j) (rows.getD j [])

structure Own2At (w : World) (B S : Nat) (A : Option Addr) (c : Nat) (rows : List (List Int)) (P : Nat → Option Addr) (C : Nat → Nat) : Prop where
  out : w.ownsRow B 22 1 (.slice A rows.length c) rows.length (RL P C rows)
  outS : ∀ b, A.map Addr.block = some b → b < S
  row : ∀ j, j < rows.length → Own w B (P j) (C j) (rows.getD j [])
  rowS : ∀ j, j < rows.length → ∀ b, (P j).map Addr.block = some b → b < S
  apart : ∀ i j, i < j → j < rows.length → ∀ b, (P i).map Addr.block = some b → (P j).map Addr.block ≠ some b
/-- The slice of slices at A is the call's own, from block B on and below S, its rows in blocks of their own. -/
def Own2 (w : World) (B S : Nat) (A : Option Addr) (c : Nat) (rows : List (List Int)) : Prop := ∃ P C, Own2At w B S A c rows P C

theorem ownsRow_block {w : World} {B e n : Nat} {A : Option Addr} {m c : Nat} {xs : List Value} (h : w.ownsRow B e 1 (.slice A m c) n xs) : ∀ b, A.map Addr.block = some b → B ≤ b ∧ b < w.heap.size := by
  intro b hb
  refine World.ownsRow.lt h b ?_
  cases A with
  | none => simp at hb
  | some a => simpa [Value.ownBlock] using hb
theorem ownsRow_keep {w w' : World} {B e n : Nat} {A : Option Addr} {m c : Nat} {xs : List Value} (h : w.ownsRow B e 1 (.slice A m c) n xs) (hk : ∀ b, A.map Addr.block = some b → b < w.heap.size → w'.heap[b]? = w.heap[b]?) : w'.ownsRow B e 1 (.slice A m c) n xs := by
  refine ⟨h.1, ?_⟩
  rcases h.2 with hn | ⟨g, cap, cur, hv, hb, hgg, rest⟩
  · exact .inl hn
  · refine .inr ⟨g, cap, cur, hv, hb, ?_, rest⟩
    have hA : A = some ⟨g, 0, none⟩ := by injection hv
    rw [hk g (by rw [hA]; rfl) (Array.getElem?_eq_some_iff.1 hgg).1]
    exact hgg

theorem row_ne {w : World} {B B' : Nat} {g : Nat} {n c c' : Nat} {m : Nat} {vs : List Value} {A : Option Addr} {r : List Int} (h : w.ownsRow B 22 1 (.slice (some ⟨g, 0, none⟩) m c) n vs) (hr : Own w B' A c' r) : A.map Addr.block ≠ some g := by
  intro e
  rcases h.2 with ⟨h', _⟩ | ⟨g1, _, cur1, hv1, _, hg1, _⟩
  · simp at h'
  rcases hr.2 with ⟨h2, _⟩ | ⟨g2, _, cur2, hv2, _, hg2, _⟩
  · have hA : A = none := by injection h2
    rw [hA] at e; simp at e
  · have hA : A = some ⟨g2, 0, none⟩ := by injection hv2
    rw [hA] at e
    have e2 : g2 = g := by simpa using e
    have e1 : g1 = g := by injection hv1 with h1; injection h1 with h1; injection h1 with h1; exact h1.symm
    subst e1 e2
    rw [hg1] at hg2
    injection hg2 with hg2
    injection hg2 with _ ht
    exact absurd ht (by decide)
theorem Own2.cells {w : World} {B S : Nat} {A : Option Addr} {c : Nat} {rows : List (List Int)} (h : Own2 w B S A c rows) : Cells2 w A rows := by
  obtain ⟨P, C, h⟩ := h
  refine ⟨P, C, fun hp => ?_, fun j hj => (h.row j hj).cells⟩
  rcases h.out.2 with ⟨_, h0⟩ | ⟨g, cap, cur, hv, _⟩
  · omega
  · have hA : A = some ⟨g, 0, none⟩ := by injection hv
    subst hA
    refine ⟨g, 0, rfl, fun j hj => ?_⟩
    rw [Nat.zero_add, World.ownsRow.cellAt h.out j (by omega), RL_get P C rows j hj]
theorem Own2.keep {w w' : World} {B S : Nat} {A : Option Addr} {c : Nat} {rows : List (List Int)} (h : Own2 w B S A c rows) (hk : ∀ b, b < w.heap.size → B ≤ b → b < S → w'.heap[b]? = w.heap[b]?) : Own2 w' B S A c rows := by
  obtain ⟨P, C, h⟩ := h
  exact ⟨P, C, ownsRow_keep h.out fun b hb hlt => hk b hlt (ownsRow_block h.out b hb).1 (h.outS b hb), h.outS,
    fun j hj => (h.row j hj).keep fun b hb hlt => hk b hlt ((h.row j hj).block b hb).1 (h.rowS j hj b hb), h.rowS, h.apart⟩
theorem Own2.below {w w' : World} {B S : Nat} {A : Option Addr} {c : Nat} {rows : List (List Int)} (h : Own2 w B S A c rows) (hb : Below w.heap.size w w') : Own2 w' B S A c rows := h.keep fun b hlt _ _ => hb.block b hlt
theorem Own2.only {w w' : World} {B S : Nat} {A : Option Addr} {c : Nat} {rows : List (List Int)} {B' S' : Nat} (h : Own2 w B S A c rows) (o : Only w w' B' S') (hd : S ≤ B' ∨ S' ≤ B) : Own2 w' B S A c rows := h.keep fun b hlt h1 h2 => o.block b hlt (by omega)
theorem own2_nil (w : World) (B S : Nat) : Own2 w B S none 0 [] := ⟨fun _ => none, fun _ => 0, World.ownsRow_nil w B _ _, fun b h => by simp at h, fun j h => absurd h (by simp), fun j h => absurd h (by simp), fun i j _ h => absurd h (by simp)⟩

def tot : List (List Int) → Nat
  | [] => 0
  | r :: t => r.length + tot t
def marks2 : Int → List (List Int) → List (List Int)
  | _, [] => []
  | k, r :: t => marks k r.length :: marks2 (k + r.length) t
theorem marks2_len : ∀ (rows : List (List Int)) (k : Int), (marks2 k rows).length = rows.length
  | [], _ => rfl
  | r :: t, k => by simp [marks2, marks2_len t]
theorem tot_take_succ : ∀ (rows : List (List Int)) (j : Nat), j < rows.length → tot (rows.take (j + 1)) = tot (rows.take j) + (rows.getD j []).length
  | [], j, h => absurd h (by simp)
  | r :: t, 0, _ => by simp [tot]
  | r :: t, j + 1, h => by
    have := tot_take_succ t j (by simpa using h)
    simp only [List.take_succ_cons, tot, List.getD_cons_succ, this]; omega
theorem tot_take_le : ∀ (rows : List (List Int)) (j : Nat), tot (rows.take j) ≤ tot rows
  | [], j => by simp
  | r :: t, 0 => by simp [tot]
  | r :: t, j + 1 => by simp only [List.take_succ_cons, tot]; have := tot_take_le t j; omega
theorem marks2_get : ∀ (rows : List (List Int)) (k : Int) (j : Nat), j < rows.length → (marks2 k rows).getD j [] = marks (k + tot (rows.take j)) (rows.getD j []).length
  | [], _, j, h => absurd h (by simp)
  | r :: t, k, 0, _ => by simp [marks2, tot]
  | r :: t, k, j + 1, h => by
    have := marks2_get t (k + r.length) j (by simpa using h)
    simp only [marks2, List.getD_cons_succ, this, List.take_succ_cons, tot]
    congr 1
    omega

/-- The rows as they stand when the first k of them are marked. -/
def mid (q : Int) (rows : List (List Int)) (k j : Nat) : List Int := if j < k then marks (q + tot (rows.take j)) (rows.getD j []).length else rows.getD j []
theorem mid_len (q : Int) (rows : List (List Int)) (k j : Nat) : (mid q rows k j).length = (rows.getD j []).length := by unfold mid; split <;> simp [marks_len]

end Go.Proofs.Ytmiifdedmjfgkaa
