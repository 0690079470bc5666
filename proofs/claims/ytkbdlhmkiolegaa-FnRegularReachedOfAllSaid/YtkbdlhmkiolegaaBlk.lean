/-
  A block that holds a variable of many cells (an array, a struct of arrays), its cells told by a function: what is read of it, and what a store leaves; whole variables loaded and stored; two of them compared.
-/
import Derived.Test.YtkbdlhmkiolegaaCB
import Derived.Deep.MidRow
import Derived.DeepKeys
namespace Go.Proofs.Ytkbdlhmkiolegaa
open Go.RowKit

def caL (n : Nat) (c : Nat → Value) : List Value := (List.range n).map c
def ca (n : Nat) (c : Nat → Value) : Array Value := (caL n c).toArray
theorem caL_len (n : Nat) (c : Nat → Value) : (caL n c).length = n := by simp [caL]
theorem ca_size (n : Nat) (c : Nat → Value) : (ca n c).size = n := by simp [ca, caL]
theorem caL_get (n : Nat) (c : Nat → Value) (k : Nat) (h : k < n) : (caL n c)[k]? = some (c k) := by rw [caL, List.getElem?_map, List.getElem?_range h]; rfl
theorem ca_get (n : Nat) (c : Nat → Value) (k : Nat) (h : k < n) : (ca n c)[k]? = some (c k) := by unfold ca; rw [List.getElem?_toArray]; exact caL_get n c k h
theorem caL_ext {n : Nat} {c d : Nat → Value} (h : ∀ k, k < n → c k = d k) : caL n c = caL n d := List.map_congr_left fun k hk => h k (List.mem_range.1 hk)
theorem ca_ext {n : Nat} {c d : Nat → Value} (h : ∀ k, k < n → c k = d k) : ca n c = ca n d := by unfold ca; rw [caL_ext h]
def updV (c : Nat → Value) (k : Nat) (v : Value) : Nat → Value := fun j => if j = k then v else c j
theorem ca_set (n : Nat) (c : Nat → Value) (k : Nat) (v : Value) : (ca n c).setIfInBounds k v = ca n (updV c k v) := by
  apply Array.ext_getElem?
  intro j
  rw [Array.getElem?_setIfInBounds]
  by_cases hj : j < n
  · rw [ca_get n (updV c k v) j hj, ca_size]
    unfold updV
    by_cases e : k = j
    · subst e; simp [hj]
    · rw [if_neg e, if_neg (fun h => e h.symm), ca_get n c j hj]
  · have h1 : (ca n c)[j]? = none := Array.getElem?_eq_none (by rw [ca_size]; omega)
    have h2 : (ca n (updV c k v))[j]? = none := Array.getElem?_eq_none (by rw [ca_size]; omega)
    rw [h1, h2, ca_size]
    by_cases e : k = j
    · subst e; simp [hj]
    · rw [if_neg e]

def Blk (W : World) (g : Nat) (t : TypeId) (n : Nat) (c : Nat → Value) : Prop := W.heap[g]? = some (.cells (ca n c) t (0, 0))
theorem Blk.lt {W : World} {g : Nat} {t : TypeId} {n : Nat} {c : Nat → Value} (h : Blk W g t n c) : g < W.heap.size := (Array.getElem?_eq_some_iff.1 h).1
theorem Blk.cell {W : World} {g : Nat} {t : TypeId} {n : Nat} {c : Nat → Value} (h : Blk W g t n c) {k : Nat} (hk : k < n) : W.cell? ⟨g, k, none⟩ = some (c k) := by
  simp only [World.cell?, show W.heap[g]? = _ from h]; exact ca_get n c k hk
theorem Blk.froz {W : World} {g : Nat} {t : TypeId} {n : Nat} {c : Nat → Value} (h : Blk W g t n c) (k : Nat) : W.frozen? ⟨g, k, none⟩ = false := by simp [World.frozen?, show W.heap[g]? = _ from h]
theorem Blk.new (W : World) (t : TypeId) (n : Nat) (c : Nat → Value) : Blk (W.alloc (.cells (ca n c) t)) W.heap.size t n c := heap_alloc_new W _
theorem Blk.keep {W W' : World} {g : Nat} {t : TypeId} {n : Nat} {c : Nat → Value} (h : Blk W g t n c) (hk : W'.heap[g]? = W.heap[g]?) : Blk W' g t n c := hk.trans h
theorem Blk.below {W W' : World} {m g : Nat} {t : TypeId} {n : Nat} {c : Nat → Value} (h : Blk W g t n c) (hb : Below m W W') (hn : g < m) : Blk W' g t n c := h.keep (hb.block g hn)
theorem Blk.next {W W' : World} {g : Nat} {t : TypeId} {n : Nat} {c : Nat → Value} (h : Blk W g t n c) (hb : Below W.heap.size W W') : Blk W' g t n c := h.below hb h.lt
theorem Blk.alloc {W : World} {g : Nat} {t : TypeId} {n : Nat} {c : Nat → Value} (h : Blk W g t n c) (o : Obj) : Blk (W.alloc o) g t n c := h.keep ((World.grownBy_alloc W o none).block g h.lt (by simp))
theorem Blk.set {W : World} {g : Nat} {t : TypeId} {n : Nat} {c : Nat → Value} (h : Blk W g t n c) (k : Nat) (v : Value) : Blk (W.setCell ⟨g, k, none⟩ v) g t n (updV c k v) := by
  have := heap_setCell_same W g k (ca n c) t v h
  rw [ca_set] at this; exact this
theorem Blk.other {W : World} {g g' k : Nat} {t : TypeId} {n : Nat} {c : Nat → Value} (h : Blk W g t n c) (hne : g ≠ g') (v : Value) : Blk (W.setCell ⟨g', k, none⟩ v) g t n c := h.keep (Below.heap_setCell _ _ _ g (fun e => hne (by rw [e])))
theorem Blk.to {W : World} {g : Nat} {t : TypeId} {n : Nat} {c d : Nat → Value} (h : Blk W g t n c) (e : ∀ k, k < n → c k = d k) : Blk W g t n d := by unfold Blk at *; rw [← ca_ext e]; exact h
/-- A part stored at once. -/
def midV (c : Nat → Value) (o m : Nat) (d : Nat → Value) : Nat → Value := fun j => if o ≤ j ∧ j < o + m then d (j - o) else c j
theorem Blk.setL {g : Nat} {t : TypeId} {n : Nat} : ∀ (vs : List Value) (o : Nat) {W : World} {c : Nat → Value}, Blk W g t n c → Blk (W.setCells g o vs) g t n (midV c o vs.length (fun j => vs.getD j undef))
  | [], o, W, c, h => h.to fun k _ => by unfold midV; rw [if_neg (by rw [List.length_nil]; omega)]
  | v :: r, o, W, c, h => by
    have ih := Blk.setL r (o + 1) (h.set o v)
    refine Blk.to ih fun k _ => ?_
    unfold midV updV
    by_cases h1 : k = o
    · subst h1; rw [if_neg (by omega), if_pos rfl, if_pos (by rw [List.length_cons]; omega), Nat.sub_self]; rfl
    · by_cases h2 : o + 1 ≤ k ∧ k < o + 1 + r.length
      · rw [if_pos h2, if_pos (by simp; omega)]
        obtain ⟨d, hd⟩ : ∃ d, k - o = d + 1 := ⟨k - o - 1, by omega⟩
        rw [hd, show k - (o + 1) = d by omega]; rfl
      · rw [if_neg h2, if_neg h1, if_neg (by simp; omega)]
theorem Blk.setMid {W : World} {g : Nat} {t : TypeId} {n : Nat} {c : Nat → Value} (h : Blk W g t n c) (o m : Nat) (d : Nat → Value) : Blk (W.setCells g o (caL m d)) g t n (midV c o m d) := by
  have := Blk.setL (caL m d) o h
  rw [caL_len] at this
  refine this.to fun k _ => ?_
  unfold midV
  split
  · rename_i hk
    show (caL m d).getD (k - o) undef = d (k - o)
    rw [List.getD_eq_getElem?_getD, caL_get m d (k - o) (by omega)]; rfl
  · rfl
theorem setCells_below (g : Nat) : ∀ (vs : List Value) (o : Nat) (w W : World) (m : Nat), Below m w W → m ≤ g → Below m w (W.setCells g o vs)
  | [], _, _, _, _, h, _ => h
  | _ :: r, o, w, _, m, h, hg => setCells_below g r (o + 1) w _ m (h.setCell hg _) hg
theorem setCells_size (g : Nat) : ∀ (vs : List Value) (o : Nat) (W : World), (W.setCells g o vs).heap.size = W.heap.size
  | [], _, _ => rfl
  | v :: r, o, W => by rw [World.setCells, setCells_size g r]; simp
theorem setCells_other (g g' : Nat) (hne : g' ≠ g) : ∀ (vs : List Value) (o : Nat) (W : World), (W.setCells g o vs).heap[g']? = W.heap[g']?
  | [], _, _ => rfl
  | v :: r, o, W => by rw [World.setCells, setCells_other g g' hne r]; exact Below.heap_setCell _ _ _ g' (fun e => hne (by rw [e]))
theorem Blk.otherL {W : World} {g g' o : Nat} {t : TypeId} {n : Nat} {c : Nat → Value} (h : Blk W g t n c) (hne : g ≠ g') (vs : List Value) : Blk (W.setCells g' o vs) g t n c := h.keep (setCells_other g' g hne vs o W)
theorem Blk.range {W : World} {g : Nat} {t : TypeId} {n : Nat} {c : Nat → Value} (h : Blk W g t n c) (o m : Nat) (ho : o + m ≤ n) (d : Nat → Value) (hd : ∀ k, k < m → d k = c (o + k)) : W.rangeAt g o (caL m d) := fun j v hv => by
  have hj : j < m := by have := (List.getElem?_eq_some_iff.1 hv).1; rwa [caL_len] at this
  rw [caL_get m d j hj] at hv
  injection hv with hv
  rw [← hv, hd j hj]
  exact h.cell (by omega)
theorem Blk.there {W : World} {g : Nat} {t : TypeId} {n : Nat} {c : Nat → Value} (h : Blk W g t n c) (o m : Nat) (ho : o + m ≤ n) : W.there g o m := fun j hj => ⟨by rw [h.cell (show o + j < n by omega)]; rfl, h.froz _⟩
theorem setRow_blk {W : World} {g : Nat} {t : TypeId} {n : Nat} {c : Nat → Value} (h : Blk W g t n c) (d : Nat → Value) : Blk (W.setRow g (ca n d)) g t n d := setRow_heap W g (ca n c) (ca n d) t (0, 0) h
theorem setRow_below {w W : World} {m g : Nat} (h : Below m w W) (hg : m ≤ g) (cs : Array Value) : Below m w (W.setRow g cs) :=
  ⟨h.os, h.tape, h.output, by rw [size_setRow]; exact h.size, fun k hk => (setRow_other W g k cs (by omega)).trans (h.block k hk)⟩
theorem Blk.otherR {W : World} {g g' : Nat} {t : TypeId} {n : Nat} {c : Nat → Value} (h : Blk W g t n c) (hne : g ≠ g') (cs : Array Value) : Blk (W.setRow g' cs) g t n c := h.keep (setRow_other W g' g cs (by omega))

/-- A whole variable loaded: the walk stops here and asks what its block holds. -/
theorem wpList_load_ex {P : Program} {ops : Array Oper} {rest : List Oper} {o : Oper} {a : Act} {w : World} {Q : Exit → Act → World → Prop} (hgd : o.guard = none) (ty : TypeId) (x : Operand) (ho : o.op = .load ty x)
    (g : Nat) (hx : a.eval x = .pointer (some ⟨g, 0, none⟩)) (d : TypeDesc) (hu : P.underlying ty = some d) (hd : (match d with | .struct _ | .array _ _ => true | _ => false) = true)
    (h : ∃ cs t fr, w.heap[g]? = some (.cells cs t fr) ∧ (P.info? ty).map (·.size) = some cs.size ∧ wpList P ops Q rest (a.put o.dst (.agg cs)) w) : wpList P ops Q (o :: rest) a w := by
  obtain ⟨cs, t, fr, hg, hi, hk⟩ := h
  exact wpList_load_row hgd ty x ho g hx t cs fr d hg hu hd hi hk

/-! bits -/
def bitV (f : Nat → Bool) : Nat → Value := fun k => .bool (f k)
def updB (f : Nat → Bool) (k : Nat) (b : Bool) : Nat → Bool := fun j => if j = k then b else f j
theorem updV_bit (f : Nat → Bool) (k : Nat) (b : Bool) : updV (bitV f) k (.bool b) = bitV (updB f k b) := by
  funext j; unfold updV bitV updB; split <;> rfl
theorem bit_one (n : Nat) (f : Nat → Bool) : ∀ v ∈ caL n (bitV f), v.oneCell' = true := by
  intro v hv
  simp only [caL, List.mem_map] at hv
  obtain ⟨k, _, rfl⟩ := hv
  rfl
theorem ca_one {n : Nat} {c : Nat → Value} (h : ∀ k, k < n → (c k).oneCell' = true) : (ca n c).all (·.oneCell') = true := by
  unfold ca
  refine all_oneCell_toArray fun v hv => ?_
  simp only [caL, List.mem_map, List.mem_range] at hv
  obtain ⟨k, hk, rfl⟩ := hv
  exact h k hk
/-- A board: its count, then the bits of its lines. -/
def brdV (t : Int) (F : Nat → Bool) : Nat → Value := fun k => if k = 0 then .int .i64 t else .bool (F (k - 1))
def rnV (f : Nat → Bool) : Value := .agg (ca 36 (bitV f))
def bdV (t : Int) (F : Nat → Bool) : Value := .agg (ca 217 (brdV t F))
end Go.Proofs.Ytkbdlhmkiolegaa
