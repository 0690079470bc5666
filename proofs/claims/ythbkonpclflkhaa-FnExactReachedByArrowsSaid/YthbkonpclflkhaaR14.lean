/-
  Several texts in one.
-/
import Derived.Test.YthbkonpclflkhaaCB
import Derived.Shelf.SlSortCmp.Whole1
import Derived.Lib.OwnBridge
import Derived.Deep.MidRow
import Derived.DeepKeys
/-
  The library's sort of rows by an order of partitions.
-/
namespace Go.Proofs.Ythbkonpclflkhaa
open Go.RowKit Go.Shelf Go.Sort

theorem sw_block {α : Type} [Inhabited α] (enc : α → Value) (w : World) (g m : Nat) (d : Array α) (os : Array Obj) (b : Nat) (hb : b ≠ g) (hlt : b < w.heap.size) : (sortWorld enc w g 0 m d os).heap[b]? = w.heap[b]? := by
  unfold sortWorld
  rw [heap_grow_old _ _ (by rw [size_putRow]; exact hlt)]
  simp [putRow, mapBlock, Sort.ahead, Array.getElem?_modify, show ¬ g = b from fun e => hb e.symm]
theorem getD_range_perm {ys : List Nat} {n : Nat} (h : ys.Perm (List.range n)) (j : Nat) (hj : j < n) : ys.getD j 0 < n := by
  have hl : ys.length = n := by rw [h.length_eq, List.length_range]
  have hm : ys.getD j 0 ∈ ys := by rw [List.getD_eq_getElem?_getD, List.getElem?_eq_getElem (by omega)]; exact List.getElem_mem _
  exact List.mem_range.1 (h.mem_iff.1 hm)
theorem getD_range_inj {ys : List Nat} {n : Nat} (h : ys.Perm (List.range n)) (i j : Nat) (hij : i < j) (hj : j < n) : ys.getD i 0 ≠ ys.getD j 0 := by
  have hl : ys.length = n := by rw [h.length_eq, List.length_range]
  have hn : ys.Nodup := h.nodup_iff.2 List.nodup_range
  rw [List.getD_eq_getElem?_getD, List.getElem?_eq_getElem (by omega), List.getD_eq_getElem?_getD, List.getElem?_eq_getElem (by omega)]
  intro e
  have := (List.getElem_inj hn).1 e
  omega
theorem map_range_getD (rows : List (List Int)) : (List.range rows.length).map (fun i => rows.getD i []) = rows := by
  apply List.ext_getElem?
  intro j
  rw [List.getElem?_map]
  by_cases h : j < rows.length
  · rw [List.getElem?_range h, List.getElem?_eq_getElem h, Option.map_some, List.getD_eq_getElem?_getD, List.getElem?_eq_getElem h]; rfl
  · rw [List.getElem?_eq_none (by simp; omega), List.getElem?_eq_none (by omega)]; rfl

theorem swo_on {α β : Type} {cf : α → α → Int} (h : SWO (ltOf cf)) (f : β → α) : SWO (ltOf fun i j => cf (f i) (f j)) :=
  ⟨fun x => h.irrefl (f x), fun x y z h1 h2 => h.trans (f x) (f y) (f z) h1 h2, fun x y z h1 h2 => h.ntrans (f x) (f y) (f z) h1 h2⟩

theorem sortRows_any {ρ : Ren} (L : SlLaysF.n6 Try.prog ρ) (gf : Nat) (eg : ∀ args w, (callFunc gf args).run Try.prog w = .ok (.enter gf args) w) (cf : List Int → List Int → Int) (hO : SWO (ltOf cf))
    (hcmp : ∀ W A B c d xs ys, good xs = true → good ys = true → Cells W A xs → Cells W B ys → Calls Try.prog gf #[.slice A xs.length c, .slice B ys.length d] W fun e w' => e = .returned (.int .i64 (cf xs ys)) ∧ ∃ q os, w' = grow (W.drewN q) os)
    (w : World) (B g c : Nat) (rows : List (List Int)) (P : Nat → Option Addr) (C : Nat → Nat) (hgood : ∀ r ∈ rows, good r = true) (hlen : rows.length < 1000000) (hp : Push w B (.slice (some ⟨g, 0, none⟩) rows.length c) rows P C) :
    Calls Try.prog (ρ.f 6) #[.slice (some ⟨g, 0, none⟩) rows.length c, .func (.func gf) #[] #[]] w fun e w' => e = .returned (.tuple #[]) ∧ ∃ rows' P' C', rows'.Perm rows ∧ (∀ i j, i < j → j < rows.length → ltOf cf (rows'.getD j []) (rows'.getD i []) = false) ∧
      Push w' B (.slice (some ⟨g, 0, none⟩) rows.length c) rows' P' C' ∧ B ≤ g ∧ ∀ B0 w0, B0 ≤ g → Below B0 w0 w → Below B0 w0 w' := by
  obtain ⟨n, hn⟩ : ∃ n, n = rows.length := ⟨_, rfl⟩
  obtain ⟨enc, henc⟩ : ∃ enc : Nat → Value, enc = fun j => .slice (P j) (rows.getD j []).length (C j) := ⟨_, rfl⟩
  have hout : w.ownsRow B 22 1 (.slice (some ⟨g, 0, none⟩) n c) n ((List.range n).map enc) := by
    have h := hp.out
    rw [hn, henc]; exact h
  obtain ⟨g', cap', hv, hBg, hgw, hnc, hcm, -, hH⟩ := Lib.holds_of_ownsRow hout (fun e => by injection e with h1; cases h1)
  injection hv with h1 h2 h3
  injection h1 with h1
  injection h1 with h1
  subst h1; subst h3
  have hcells : ∀ W : World, (∀ b, b ≠ g → b < w.heap.size → W.heap[b]? = w.heap[b]?) → ∀ x, Cells W (P x) (rows.getD x []) := by
    intro W hW x
    by_cases hx : x < rows.length
    · have ho := hp.row x hx
      exact (ho.keep fun b hb hlt => hW b (fun e => by
        have := row_ne' hp.out ho b hb
        rw [e] at this
        exact this rfl) hlt).cells
    · rw [List.getD_eq_getElem?_getD, List.getElem?_eq_none (by omega)]; exact Cells.nil _ _
  have hgd : ∀ x, good (rows.getD x []) = true := by
    intro x
    by_cases hx : x < rows.length
    · exact hgood _ (by rw [List.getD_eq_getElem?_getD, List.getElem?_eq_getElem hx]; exact List.getElem_mem hx)
    · rw [List.getD_eq_getElem?_getD, List.getElem?_eq_none (by omega)]; rfl
  have hs : (List.range n).toArray.size = n := by simp
  have hlays : CmpLays1 Try.prog gf #[] enc (fun i j => cf (rows.getD i []) (rows.getD j [])) g 0 (List.range n).toArray.size w := by
    intro m os dk _ x y
    have h := hcmp (sortWorld enc w g 0 m dk os) (P x) (P y) (C x) (C y) (rows.getD x []) (rows.getD y []) (hgd x) (hgd y) (hcells _ (fun b h1 h2 => sw_block enc w g m dk os b h1 h2) x) (hcells _ (fun b h1 h2 => sw_block enc w g m dk os b h1 h2) y)
    rw [henc]
    rw [henc] at h
    exact h
  have hone : OneCell enc := by rw [henc]; exact fun _ => rfl
  have hcall := Any.slices_SortFunc L enc hone (fun i j => cf (rows.getD i []) (rows.getD j [])) (swo_on hO fun i => rows.getD i []) gf #[] g 0 c (List.range n).toArray w eg hlays hH hgw (by rw [hs]; omega)
  rw [hs] at hcall
  rw [← hn]
  refine hcall.mono ?_
  rintro e w' ⟨rfl, d', m, os, ⟨hds, -, hperm⟩, hsort, rfl⟩
  have hd'n : d'.size = n := by rw [hds, hs]
  have hys : d'.toList.Perm (List.range n) := by
    have e1 : (d'.extract 0 n) = d' := by rw [← hd'n]; exact Array.extract_size
    have e2 : ((List.range n).toArray.extract 0 n) = (List.range n).toArray := by
      have := Array.extract_size (xs := (List.range n).toArray)
      rw [hs] at this; exact this
    rw [e1, e2] at hperm
    exact hperm
  obtain ⟨ys, hyse⟩ : ∃ ys, ys = d'.toList := ⟨_, rfl⟩
  rw [← hyse] at hys
  have hyl : ys.length = n := by rw [hys.length_eq, List.length_range]
  have hda : d' = ys.toArray := by rw [hyse]
  have hget : ∀ j, j < n → d'[j]! = ys.getD j 0 := by
    intro j hj
    rw [hda, List.getD_eq_getElem?_getD, List.getElem?_eq_getElem (by omega)]
    simp [getElem!_pos, hyl, hj]
  have hblk : ∀ b, b ≠ g → b < w.heap.size → (sortWorld enc w g 0 m d' os).heap[b]? = w.heap[b]? := fun b h1 h2 => sw_block enc w g m d' os b h1 h2
  have hlt := getD_range_perm hys
  have hinj := getD_range_inj hys
  have hr' : ∀ j, j < n → (ys.map fun i => rows.getD i []).getD j [] = rows.getD (ys.getD j 0) [] := by
    intro j hj
    rw [List.getD_eq_getElem?_getD, List.getElem?_map, List.getElem?_eq_getElem (by omega), List.getD_eq_getElem?_getD (l := ys), List.getElem?_eq_getElem (by omega)]; rfl
  refine ⟨rfl, ys.map fun i => rows.getD i [], fun j => P (ys.getD j 0), fun j => C (ys.getD j 0), ?_, ?_, ⟨?_, ?_, ?_⟩, hBg, ?_⟩
  · have := hys.map fun i => rows.getD i []
    rw [hn, map_range_getD] at this
    exact this
  · intro i j hij hj
    have h := hsort i j (Nat.zero_le _) hij (by omega)
    rw [hget j (by omega), hget i (by omega)] at h
    rw [hr' j (by omega), hr' i (by omega)]
    exact h
  · have e1 : RL (fun j => P (ys.getD j 0)) (fun j => C (ys.getD j 0)) (ys.map fun i => rows.getD i []) = ys.map enc := by
      apply List.ext_getElem?
      intro j
      by_cases hj : j < n
      · rw [RL_get _ _ _ _ (by rw [List.length_map]; omega), hr' j hj, List.getElem?_map, List.getElem?_eq_getElem (by omega), henc]
        rw [List.getD_eq_getElem?_getD (l := ys), List.getElem?_eq_getElem (by omega)]; rfl
      · rw [List.getElem?_eq_none (by rw [RL_len, List.length_map]; omega), List.getElem?_eq_none (by rw [List.length_map]; omega)]
    rw [e1, List.length_map, hyl]
    have h2 := Lib.ownsRow_putRow (q := m) (k := n) hout hyl (Nat.le_refl _)
    rw [List.take_of_length_le (by omega), ← hda] at h2
    exact ownsRow_keep h2 fun b _ hb => by unfold sortWorld; exact heap_grow_old _ _ hb
  · intro j hj
    rw [List.length_map, hyl] at hj
    have ho := hp.row (ys.getD j 0) (by rw [← hn]; exact hlt j hj)
    rw [hr' j hj]
    exact ho.keep fun b hb hl => hblk b (fun e => by
      have := row_ne' hp.out ho b hb
      rw [e] at this
      exact this rfl) hl
  · intro i j hij hj b hb he
    rw [List.length_map, hyl] at hj
    have h1 := hlt i (by omega)
    have h2 := hlt j hj
    rcases Nat.lt_or_gt_of_ne (hinj i j hij hj) with h | h
    · exact hp.apart _ _ h (by rw [← hn]; exact h2) b hb he
    · exact hp.apart _ _ h (by rw [← hn]; exact h1) b he hb
  · intro B0 w0 hB0 hbel
    have h3 := Lib.below_putRow (enc := enc) (q := m) (d := d') hbel hB0
    refine ⟨h3.os, h3.tape, h3.output, ?_, fun k hk => ?_⟩
    · unfold sortWorld; rw [size_grow]; have := h3.size; omega
    · unfold sortWorld
      by_cases hks : k < (putRow enc (Sort.ahead w m) g 0 d').heap.size
      · rw [heap_grow_old _ _ hks]; exact h3.block k hk
      · rw [size_putRow] at hks
        exact absurd (show k < w.heap.size by have := hbel.size; omega) hks
end Go.Proofs.Ythbkonpclflkhaa
/-
  A block that holds a variable of many cells (an array, a struct of arrays), its cells told by a function: what is read of it, and what a store leaves; whole variables loaded and stored; two of them compared.
-/
namespace Go.Proofs.Ythbkonpclflkhaa
open Go.RowKit

def caL (n : Nat) (c : Nat → Value) : List Value := (List.range n).map c
def ca (n : Nat) (c : Nat → Value) : Array Value := (caL n c).toArray
theorem caL_len (n : Nat) (c : Nat → Value) : (caL n c).length = n := by simp [caL]
theorem ca_size (n : Nat) (c : Nat → Value) : (ca n c).size = n := by simp [ca, caL]
theorem caL_get (n : Nat) (c : Nat → Value) (k : Nat) (h : k < n) : (caL n c)[k]? = some (c k) := by rw [caL, List.getElem?_map, List.getElem?_range h]; rfl
theorem ca_get (n : Nat) (c : Nat → Value) (k : Nat) (h : k < n) : (ca n c)[k]? = some (c k) := by unfold ca; rw [List.getElem?_toArray]; exact caL_get n c k h
theorem caL_ext {n : Nat} {c d : Nat → Value} (h : ∀ k, k < n → c k = d k) : caL n c = caL n d := List.map_congr_left fun k hk => h k (List.mem_range.1 hk)
theorem ca_ext {n : Nat} {c d : Nat → Value} (h : ∀ k, k < n → c k = d k) : ca n c = ca n d := by unfold ca; rw [caL_ext h]
def updV (c : Nat → Value) (k : Nat) (v : Value) : Nat → Value := fun j => if j = k then v else c j
theorem ca_set (n : Nat) (c : Nat → Value) (k : Nat) (v : Value) : (ca n c).setIfInBounds k v = ca n (updV c k v) := by
  apply Array.ext_getElem?
  intro j
  rw [Array.getElem?_setIfInBounds]
  by_cases hj : j < n
  · rw [ca_get n (updV c k v) j hj, ca_size]
    unfold updV
    by_cases e : k = j
    · subst e; simp [hj]
    · rw [if_neg e, if_neg (fun h => e h.symm), ca_get n c j hj]
  · have h1 : (ca n c)[j]? = none := Array.getElem?_eq_none (by rw [ca_size]; omega)
    have h2 : (ca n (updV c k v))[j]? = none := Array.getElem?_eq_none (by rw [ca_size]; omega)
    rw [h1, h2, ca_size]
    by_cases e : k = j
    · subst e; simp [hj]
    · rw [if_neg e]

def Blk (W : World) (g : Nat) (t : TypeId) (n : Nat) (c : Nat → Value) : Prop := W.heap[g]? = some (.cells (ca n c) t (0, 0))
theorem Blk.lt {W : World} {g : Nat} {t : TypeId} {n : Nat} {c : Nat → Value} (h : Blk W g t n c) : g < W.heap.size := (Array.getElem?_eq_some_iff.1 h).1
theorem Blk.cell {W : World} {g : Nat} {t : TypeId} {n : Nat} {c : Nat → Value} (h : Blk W g t n c) {k : Nat} (hk : k < n) : W.cell? ⟨g, k, none⟩ = some (c k) := by
  simp only [World.cell?, show W.heap[g]? = _ from h]; exact ca_get n c k hk
theorem Blk.froz {W : World} {g : Nat} {t : TypeId} {n : Nat} {c : Nat → Value} (h : Blk W g t n c) (k : Nat) : W.frozen? ⟨g, k, none⟩ = false := by simp [World.frozen?, show W.heap[g]? = _ from h]
theorem Blk.new (W : World) (t : TypeId) (n : Nat) (c : Nat → Value) : Blk (W.alloc (.cells (ca n c) t)) W.heap.size t n c := heap_alloc_new W _
theorem Blk.keep {W W' : World} {g : Nat} {t : TypeId} {n : Nat} {c : Nat → Value} (h : Blk W g t n c) (hk : W'.heap[g]? = W.heap[g]?) : Blk W' g t n c := hk.trans h
theorem Blk.below {W W' : World} {m g : Nat} {t : TypeId} {n : Nat} {c : Nat → Value} (h : Blk W g t n c) (hb : Below m W W') (hn : g < m) : Blk W' g t n c := h.keep (hb.block g hn)
theorem Blk.next {W W' : World} {g : Nat} {t : TypeId} {n : Nat} {c : Nat → Value} (h : Blk W g t n c) (hb : Below W.heap.size W W') : Blk W' g t n c := h.below hb h.lt
theorem Blk.alloc {W : World} {g : Nat} {t : TypeId} {n : Nat} {c : Nat → Value} (h : Blk W g t n c) (o : Obj) : Blk (W.alloc o) g t n c := h.keep ((World.grownBy_alloc W o none).block g h.lt (by simp))
theorem Blk.set {W : World} {g : Nat} {t : TypeId} {n : Nat} {c : Nat → Value} (h : Blk W g t n c) (k : Nat) (v : Value) : Blk (W.setCell ⟨g, k, none⟩ v) g t n (updV c k v) := by
  have := heap_setCell_same W g k (ca n c) t v h
  rw [ca_set] at this; exact this
theorem Blk.other {W : World} {g g' k : Nat} {t : TypeId} {n : Nat} {c : Nat → Value} (h : Blk W g t n c) (hne : g ≠ g') (v : Value) : Blk (W.setCell ⟨g', k, none⟩ v) g t n c := h.keep (Below.heap_setCell _ _ _ g (fun e => hne (by rw [e])))
theorem Blk.to {W : World} {g : Nat} {t : TypeId} {n : Nat} {c d : Nat → Value} (h : Blk W g t n c) (e : ∀ k, k < n → c k = d k) : Blk W g t n d := by unfold Blk at *; rw [← ca_ext e]; exact h
/-- A part stored at once. -/
def midV (c : Nat → Value) (o m : Nat) (d : Nat → Value) : Nat → Value := fun j => if o ≤ j ∧ j < o + m then d (j - o) else c j
theorem Blk.setL {g : Nat} {t : TypeId} {n : Nat} : ∀ (vs : List Value) (o : Nat) {W : World} {c : Nat → Value}, Blk W g t n c → Blk (W.setCells g o vs) g t n (midV c o vs.length (fun j => vs.getD j undef))
  | [], o, W, c, h => h.to fun k _ => by unfold midV; rw [if_neg (by rw [List.length_nil]; omega)]
  | v :: r, o, W, c, h => by
    have ih := Blk.setL r (o + 1) (h.set o v)
    refine Blk.to ih fun k _ => ?_
    unfold midV updV
    by_cases h1 : k = o
    · subst h1; rw [if_neg (by omega), if_pos rfl, if_pos (by rw [List.length_cons]; omega), Nat.sub_self]; rfl
    · by_cases h2 : o + 1 ≤ k ∧ k < o + 1 + r.length
      · rw [if_pos h2, if_pos (by simp; omega)]
        obtain ⟨d, hd⟩ : ∃ d, k - o = d + 1 := ⟨k - o - 1, by omega⟩
        rw [hd, show k - (o + 1) = d by omega]; rfl
      · rw [if_neg h2, if_neg h1, if_neg (by simp; omega)]
theorem Blk.setMid {W : World} {g : Nat} {t : TypeId} {n : Nat} {c : Nat → Value} (h : Blk W g t n c) (o m : Nat) (d : Nat → Value) : Blk (W.setCells g o (caL m d)) g t n (midV c o m d) := by
  have := Blk.setL (caL m d) o h
  rw [caL_len] at this
  refine this.to fun k _ => ?_
  unfold midV
  split
  · rename_i hk
    show (caL m d).getD (k - o) undef = d (k - o)
    rw [List.getD_eq_getElem?_getD, caL_get m d (k - o) (by omega)]; rfl
  · rfl
theorem setCells_below (g : Nat) : ∀ (vs : List Value) (o : Nat) (w W : World) (m : Nat), Below m w W → m ≤ g → Below m w (W.setCells g o vs)
  | [], _, _, _, _, h, _ => h
  | _ :: r, o, w, _, m, h, hg => setCells_below g r (o + 1) w _ m (h.setCell hg _) hg
theorem setCells_size (g : Nat) : ∀ (vs : List Value) (o : Nat) (W : World), (W.setCells g o vs).heap.size = W.heap.size
  | [], _, _ => rfl
  | v :: r, o, W => by rw [World.setCells, setCells_size g r]; simp
theorem setCells_other (g g' : Nat) (hne : g' ≠ g) : ∀ (vs : List Value) (o : Nat) (W : World), (W.setCells g o vs).heap[g']? = W.heap[g']?
  | [], _, _ => rfl
  | v :: r, o, W => by rw [World.setCells, setCells_other g g' hne r]; exact Below.heap_setCell _ _ _ g' (fun e => hne (by rw [e]))
theorem Blk.otherL {W : World} {g g' o : Nat} {t : TypeId} {n : Nat} {c : Nat → Value} (h : Blk W g t n c) (hne : g ≠ g') (vs : List Value) : Blk (W.setCells g' o vs) g t n c := h.keep (setCells_other g' g hne vs o W)
theorem Blk.range {W : World} {g : Nat} {t : TypeId} {n : Nat} {c : Nat → Value} (h : Blk W g t n c) (o m : Nat) (ho : o + m ≤ n) (d : Nat → Value) (hd : ∀ k, k < m → d k = c (o + k)) : W.rangeAt g o (caL m d) := fun j v hv => by
  have hj : j < m := by have := (List.getElem?_eq_some_iff.1 hv).1; rwa [caL_len] at this
  rw [caL_get m d j hj] at hv
  injection hv with hv
  rw [← hv, hd j hj]
  exact h.cell (by omega)
theorem Blk.there {W : World} {g : Nat} {t : TypeId} {n : Nat} {c : Nat → Value} (h : Blk W g t n c) (o m : Nat) (ho : o + m ≤ n) : W.there g o m := fun j hj => ⟨by rw [h.cell (show o + j < n by omega)]; rfl, h.froz _⟩
theorem setRow_blk {W : World} {g : Nat} {t : TypeId} {n : Nat} {c : Nat → Value} (h : Blk W g t n c) (d : Nat → Value) : Blk (W.setRow g (ca n d)) g t n d := setRow_heap W g (ca n c) (ca n d) t (0, 0) h
theorem setRow_below {w W : World} {m g : Nat} (h : Below m w W) (hg : m ≤ g) (cs : Array Value) : Below m w (W.setRow g cs) :=
  ⟨h.os, h.tape, h.output, by rw [size_setRow]; exact h.size, fun k hk => (setRow_other W g k cs (by omega)).trans (h.block k hk)⟩
theorem Blk.otherR {W : World} {g g' : Nat} {t : TypeId} {n : Nat} {c : Nat → Value} (h : Blk W g t n c) (hne : g ≠ g') (cs : Array Value) : Blk (W.setRow g' cs) g t n c := h.keep (setRow_other W g' g cs (by omega))

/-- A whole variable loaded: the walk stops here and asks what its block holds. -/
theorem wpList_load_ex {P : Program} {ops : Array Oper} {rest : List Oper} {o : Oper} {a : Act} {w : World} {Q : Exit → Act → World → Prop} (hgd : o.guard = none) (ty : TypeId) (x : Operand) (ho : o.op = .load ty x)
    (g : Nat) (hx : a.eval x = .pointer (some ⟨g, 0, none⟩)) (d : TypeDesc) (hu : P.underlying ty = some d) (hd : (match d with | .struct _ | .array _ _ => true | _ => false) = true)
    (h : ∃ cs t fr, w.heap[g]? = some (.cells cs t fr) ∧ (P.info? ty).map (·.size) = some cs.size ∧ wpList P ops Q rest (a.put o.dst (.agg cs)) w) : wpList P ops Q (o :: rest) a w := by
  obtain ⟨cs, t, fr, hg, hi, hk⟩ := h
  exact wpList_load_row hgd ty x ho g hx t cs fr d hg hu hd hi hk

/-! bits -/
def bitV (f : Nat → Bool) : Nat → Value := fun k => .bool (f k)
def updB (f : Nat → Bool) (k : Nat) (b : Bool) : Nat → Bool := fun j => if j = k then b else f j
theorem updV_bit (f : Nat → Bool) (k : Nat) (b : Bool) : updV (bitV f) k (.bool b) = bitV (updB f k b) := by
  funext j; unfold updV bitV updB; split <;> rfl
theorem bit_one (n : Nat) (f : Nat → Bool) : ∀ v ∈ caL n (bitV f), v.oneCell' = true := by
  intro v hv
  simp only [caL, List.mem_map] at hv
  obtain ⟨k, _, rfl⟩ := hv
  rfl
theorem ca_one {n : Nat} {c : Nat → Value} (h : ∀ k, k < n → (c k).oneCell' = true) : (ca n c).all (·.oneCell') = true := by
  unfold ca
  refine all_oneCell_toArray fun v hv => ?_
  simp only [caL, List.mem_map, List.mem_range] at hv
  obtain ⟨k, hk, rfl⟩ := hv
  exact h k hk
/-- A board: its count, then the bits of its lines. -/
def brdV (t : Int) (F : Nat → Bool) : Nat → Value := fun k => if k = 0 then .int .i64 t else .bool (F (k - 1))
def rnV (f : Nat → Bool) : Value := .agg (ca 36 (bitV f))
def bdV (t : Int) (F : Nat → Bool) : Value := .agg (ca 217 (brdV t F))
end Go.Proofs.Ythbkonpclflkhaa
