/-
  Rows on runners: the list of them, and slices of slices that grow each for itself.
-/
import Derived.Test.YtnhjofcmaodamaaMovF
import Derived.Maps.AppendAt
import Derived.Deep.RegionLaw
namespace Go.Proofs.Ytnhjofcmaodamaa
open Go.RowKit

/-- The rows of the beads on a runner. -/
def rnL (t : Nat) (xs : List Int) (i : Nat) : List Int := (xs.filter fun x => decide (x % (t : Int) = (i : Int))).map fun x => x / (t : Int)
def rnS (t : Nat) (xs : List Int) : List (List Int) := (List.range t).map (rnL t xs)
theorem rnS_len (t : Nat) (xs : List Int) : (rnS t xs).length = t := by simp [rnS]
theorem rnS_get (t : Nat) (xs : List Int) (i : Nat) (h : i < t) : (rnS t xs).getD i [] = rnL t xs i := by simp [rnS, List.getD, h]
theorem rnL_snoc (t : Nat) (xs : List Int) (x : Int) (m i : Nat) (hm : x % (t : Int) = (m : Int)) : rnL t (xs ++ [x]) i = if i = m then rnL t xs i ++ [x / (t : Int)] else rnL t xs i := by
  unfold rnL
  rw [List.filter_append]
  by_cases h : i = m
  · subst h
    rw [if_pos rfl]
    simp [hm]
  · rw [if_neg h]
    have : ¬ (m : Int) = (i : Int) := by omega
    simp [hm, this]
theorem rnS_snoc (t : Nat) (xs : List Int) (x : Int) (m : Nat) (hm : x % (t : Int) = (m : Int)) : (rnS t xs).set m (rnL t xs m ++ [x / (t : Int)]) = rnS t (xs ++ [x]) := by
  apply List.ext_getElem
  · simp [rnS]
  · intro j h1 h2
    rw [List.length_set, rnS_len] at h1
    rw [List.getElem_set]
    simp only [rnS, List.getElem_map, List.getElem_range]
    rw [rnL_snoc t xs x m j hm]
    by_cases e : m = j
    · subst e; simp
    · rw [if_neg e, if_neg (fun h => e h.symm)]
theorem rnL_len (t : Nat) (xs : List Int) (i : Nat) : (rnL t xs i).length ≤ xs.length := by
  unfold rnL; rw [List.length_map]; exact List.length_filter_le _ _

/-- An append onto a slice of the call's own, as one step of a region that draws; it tells where the row lies. -/
theorem step_append_own {P : Program} {ops : Array Oper} {o : Oper} {a : Act} {w : World} {K : Act → World → Prop} {Q : Exit → Act → World → Prop} {E : Prop}
    (hg : o.guard = none) (s x : Operand) (t : TypeId) (hop : o.op = Op.call { callee := Callee.builtin Builtin.append, args := #[s, x], argTypes := #[t, t] })
    (base : Nat) (e : TypeId) (i : TypeInfo) (z : Value) (size bytes : Nat) (h1 : P.underlying t = some (.slice e)) (h2 : P.info? e = some i) (h3 : i.zero = some z) (h4 : i.size = size) (h5 : i.bytes = bytes) (h6 : z.cells.size = size) (h7 : 0 < size)
    (v : Value) (n : Nat) (xs : List Value) (hs : a.eval s = v) (hown : w.ownsRow base e size v n xs)
    (ad : Addr) (m c : Nat) (news : List Value) (hx : a.eval x = .slice (some ad) m c) (hn : news.length = m * size) (hc : ∀ j u, news[j]? = some u → w.cell? (ad.add j) = some u) (h1c : ∀ u ∈ news, u.oneCell' = true)
    (b1 : n + m ≤ maxLen) (b2 : (n + m) * bytes ≤ 140737488355328) (hb : base ≤ w.heap.size)
    (hK : ∀ v' w', w'.ownsRow base e size v' (n + m) (xs ++ news) → w.grownBy w' v.ownBlock → (v'.ownBlock = v.ownBlock ∨ v'.ownBlock = some w.heap.size) → K (a.put o.dst v') w') :
    if Region.wanted o (yielded ops a.tmps) = true then Oper.wp P o a w K Q else E := by
  have hw : Region.wanted o (yielded ops a.tmps) = true := by simp [Region.wanted, hg]
  rw [if_pos hw]
  obtain ⟨v', w', hrun, r1, r2, _, r3⟩ := run_append_own_at (P := P) w base t o.type e i z size bytes h1 h2 h3 h4 h5 h6 h7 v n xs hown ad m c news hn hc h1c b1 b2 hb
  unfold Oper.wp
  simp [execOp, hop, resolve, invoke, builtin, hs, hx, hrun, Result.andThen]
  exact hK v' w' r1 r2 r3

/-- A made slice of slices, each of which grows for itself. -/
structure Gr (w : World) (B g t : Nat) (rows : List (List Int)) (P : Nat → Option Addr) (C : Nat → Nat) : Prop where
  len : rows.length = t
  out : w.ownsRow B 22 1 (.slice (some ⟨g, 0, none⟩) t t) t (RL P C rows)
  row : ∀ j, j < t → Own w B (P j) (C j) (rows.getD j [])
  apart : ∀ i j, i < j → j < t → ∀ b, (P i).map Addr.block = some b → (P j).map Addr.block ≠ some b
theorem Gr.below {w w' : World} {B g t : Nat} {rows : List (List Int)} {P : Nat → Option Addr} {C : Nat → Nat} (h : Gr w B g t rows P C) (hb : Below w.heap.size w w') : Gr w' B g t rows P C :=
  ⟨h.len, ownsRow_keep h.out fun b _ hlt => hb.block b hlt, fun j hj => (h.row j hj).below hb, h.apart⟩
theorem Gr.own2 {w : World} {B g t : Nat} {rows : List (List Int)} {P : Nat → Option Addr} {C : Nat → Nat} (h : Gr w B g t rows P C) : Own2 w B w.heap.size (some ⟨g, 0, none⟩) t rows := by
  refine ⟨P, C, by rw [h.len]; exact h.out, fun b hb => (ownsRow_block h.out b hb).2, fun j hj => h.row j (by rw [← h.len]; exact hj), fun j hj b hb => ((h.row j (by rw [← h.len]; exact hj)).block b hb).2, fun i j hij hj => h.apart i j hij (by rw [← h.len]; exact hj)⟩
theorem RL_set (P : Nat → Option Addr) (C : Nat → Nat) (rows : List (List Int)) (i : Nat) (hi : i < rows.length) (r : List Int) (A : Option Addr) (c : Nat) :
    (RL P C rows).set i (.slice A r.length c) = RL (setAt P i A) (setAt C i c) (rows.set i r) := by
  unfold RL
  apply List.ext_getElem
  · simp
  · intro j h1 h2
    rw [List.getElem_set]
    simp only [List.getElem_map, List.getElem_range]
    by_cases e : i = j
    · subst e
      rw [if_pos rfl, setAt_eq, setAt_eq]
      simp [List.getD, hi]
    · rw [if_neg e, setAt_ne P A (fun h => e h.symm), setAt_ne C c (fun h => e h.symm)]
      simp [List.getD, e]
theorem Gr.outAfter {w w5 : World} {B g t : Nat} {rows : List (List Int)} {P : Nat → Option Addr} {C : Nat → Nat} (h : Gr w B g t rows P C) {i : Nat} (hi : i < t) {o : Obj} (hg : (w.alloc o).grownBy w5 ((P i).map Addr.block)) :
    w5.ownsRow B 22 1 (.slice (some ⟨g, 0, none⟩) t t) t (RL P C rows) := by
  refine ownsRow_keep h.out fun b hb hlt => ?_
  have hbg : b = g := by simpa using hb.symm
  subst hbg
  rw [hg.block b (by simp; omega) (fun e => row_ne h.out (h.row i hi) e.symm)]; exact Below.heap_alloc _ _ _ hlt
theorem Gr.push {w w5 : World} {B g t : Nat} {rows : List (List Int)} {P : Nat → Option Addr} {C : Nat → Nat} (h : Gr w B g t rows P C) {i : Nat} (hi : i < t) {o : Obj} {A' : Option Addr} {c' : Nat} {r : List Int}
    (ho : Own w5 B A' c' r) (hg : (w.alloc o).grownBy w5 ((P i).map Addr.block)) (hat : A'.map Addr.block = (P i).map Addr.block ∨ A'.map Addr.block = some (w.alloc o).heap.size) :
    Gr (w5.setCell ⟨g, i, none⟩ (.slice A' r.length c')) B g t (rows.set i r) (setAt P i A') (setAt C i c') := by
  have hil : i < rows.length := by rw [h.len]; exact hi
  have hgne : ∀ {w' : World} {A : Option Addr} {c : Nat} {x : List Int}, w'.ownsRow B 22 1 (.slice (some ⟨g, 0, none⟩) t t) t (RL P C rows) → Own w' B A c x → A.map Addr.block ≠ some g := fun h1 h2 => row_ne h1 h2
  have keepO : ∀ b, b < w.heap.size → some b ≠ (P i).map Addr.block → w5.heap[b]? = w.heap[b]? := fun b hb hne => by
    rw [hg.block b (by simp; omega) hne]; exact Below.heap_alloc _ _ _ hb
  have hout5 : w5.ownsRow B 22 1 (.slice (some ⟨g, 0, none⟩) t t) t (RL P C rows) := by
    refine ownsRow_keep h.out fun b hb hlt => keepO b hlt (fun e => ?_)
    have hbg : b = g := by simpa using hb.symm
    subst hbg
    exact hgne h.out (h.row i hi) e.symm
  refine ⟨by rw [List.length_set]; exact h.len, ?_, fun j hj => ?_, fun a b hab hb c hc => ?_⟩
  · have hst := (World.ownsRow.stored hout5 i (.slice A' r.length c')).1
    rw [RL_set P C rows i hil r A' c'] at hst
    exact hst
  · by_cases e : j = i
    · subst e
      rw [setAt_eq, setAt_eq]
      have : (rows.set j r).getD j [] = r := by simp [List.getD, hil]
      rw [this]
      exact ho.keep fun b hb _ => Below.heap_setCell _ _ _ b (fun e2 => hgne hout5 ho (by rw [hb]; exact congrArg some e2))
    · rw [setAt_ne P A' e, setAt_ne C c' e]
      have : (rows.set i r).getD j [] = rows.getD j [] := by
        rw [List.getD_eq_getElem?_getD, List.getD_eq_getElem?_getD, List.getElem?_set_ne (fun hh => e hh.symm)]
      rw [this]
      have hj0 := h.row j hj
      have h5 : Own w5 B (P j) (C j) (rows.getD j []) := hj0.keep fun b hb hlt => keepO b hlt (fun e2 => by
        rcases Nat.lt_or_gt_of_ne e with hlt' | hgt'
        · exact h.apart j i hlt' hi b hb e2.symm
        · exact h.apart i j hgt' hj b e2.symm hb)
      exact h5.keep fun b hb _ => Below.heap_setCell _ _ _ b (fun e2 => hgne hout5 h5 (by rw [hb]; exact congrArg some e2))
  · have old : ∀ j, j < t → ∀ b, (P j).map Addr.block = some b → b < w.heap.size := fun j hj b hb => ((h.row j hj).block b hb).2
    by_cases ea : a = i
    · subst ea
      rw [setAt_eq] at hc
      rw [setAt_ne P A' (by omega)]
      intro hbb
      rcases hat with h1 | h1
      · rw [h1] at hc; exact h.apart a b hab hb c hc hbb
      · rw [h1] at hc; injection hc with hc; have := old b hb c hbb; simp at hc; omega
    · rw [setAt_ne P A' ea] at hc
      by_cases eb : b = i
      · subst eb
        rw [setAt_eq]
        intro hbb
        rcases hat with h1 | h1
        · rw [h1] at hbb; exact h.apart a b hab hb c hc hbb
        · rw [h1] at hbb; injection hbb with hbb; have := old a (by omega) c hc; simp at hbb; omega
      · rw [setAt_ne P A' eb]
        exact h.apart a b hab hb c hc
end Go.Proofs.Ytnhjofcmaodamaa
