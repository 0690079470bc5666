/-
  Several texts in one.
-/
import Derived.Test.YtiebnnchaopbkaaCB
import Derived.Test.YtiebnnchaopbkaaCC
import Derived.Test.YtiebnnchaopbkaaCA
import Derived.Test.YtiebnnchaopbkaaR03
import Derived.Deep.MidRow
import Derived.DeepKeys
/-
  Contracts: CountsOf of the program and of the model.
-/
namespace Go.Proofs.Ytiebnnchaopbkaa
open Go.RowKit

def cnt (r : Nat) (xs : List Int) (j : Nat) : Int := ((xs.filter fun x => decide (x % (r : Int) = (j : Int))).length : Nat)
def cntL (r : Nat) (xs : List Int) : List Int := fnRow r (cnt r xs)
def cntK (r : Nat) (xs : List Int) (k : Nat) : List Int := cntL r (xs.take k)
theorem cntK_zero (r : Nat) (xs : List Int) : cntK r xs 0 = fnRow r (fun _ => 0) := rowF_ext _ _ _ fun j _ => by simp [cnt]
theorem cntK_all (r : Nat) (xs : List Int) : cntK r xs xs.length = cntL r xs := by unfold cntK; rw [List.take_of_length_le (Nat.le_refl _)]
theorem cntK_len (r : Nat) (xs : List Int) (k : Nat) : (cntK r xs k).length = r := fnRow_len _ _
theorem cntK_succ (r : Nat) (xs : List Int) (k m : Nat) (hk : k < xs.length) (hm : xs.getD k 0 % (r : Int) = (m : Int)) (hmr : m < r) : (cntK r xs k).set m ((cntK r xs k).getD m 0 + 1) = cntK r xs (k + 1) := by
  unfold cntK cntL
  rw [fnRow_get _ _ _ hmr, fnRow_set]
  refine rowF_ext _ _ _ fun j _ => ?_
  rw [List.take_succ_eq_append_getElem hk]
  have e : xs[k] = xs.getD k 0 := by simp [List.getD, hk]
  unfold cnt
  rw [e, List.filter_append, List.length_append]
  by_cases h : j = m
  · subst h
    rw [if_pos rfl]
    simp only [List.filter_cons, List.filter_nil, hm, decide_true, if_true, List.length_singleton]
    omega
  · rw [if_neg h]
    have : ¬ xs.getD k 0 % (r : Int) = (j : Int) := by rw [hm]; omega
    simp only [List.filter_cons, List.filter_nil, this, decide_false, Bool.false_eq_true, if_false, List.length_nil]
    omega
theorem cntK_bd (r : Nat) (xs : List Int) (k m : Nat) (hm : m < r) : 0 ≤ (cntK r xs k).getD m 0 ∧ (cntK r xs k).getD m 0 ≤ k := by
  unfold cntK cntL
  rw [fnRow_get _ _ _ hm]
  unfold cnt
  have := List.length_filter_le (fun x => decide (x % (r : Int) = (m : Int))) (xs.take k)
  have h2 : (xs.take k).length ≤ k := by rw [List.length_take]; omega
  omega
def countsF (r : Int) (xs : List Int) : List Int := if isAba r xs then cntL r.toNat xs else []
theorem bound_CountsOf (r : Int) (xs : List Int) : (countsF r xs).length ≤ 1048576 := by
  unfold countsF; split
  · rename_i h
    simp only [isAba, Bool.and_eq_true] at h
    have := inB_iff.1 h.1
    unfold cntL; rw [fnRow_len]; omega
  · simp

set_option maxRecDepth 100000 in
set_option maxHeartbeats 1000000 in
theorem impl_CountsOf (r : Int) (A : Option Addr) (c : Nat) (xs : List Int) (w : World) (hl : xs.length ≤ 1048576) (hc : Cells w A xs) :
    Calls Try.prog 31 #[.agg #[.int .i64 r, .slice A xs.length c]] w fun e w' => ∃ A' c', e = .returned (.tuple #[.slice A' (countsF r xs).length c', .bool (isAba r xs)]) ∧ Own w' w.heap.size A' c' (countsF r xs) ∧ Below w.heap.size w w' := by
  have y0 := Box2.new w 49 (.int .i64 r) (.slice A xs.length c)
  have b0 : Below w.heap.size w (w.alloc (.cells #[.int .i64 r, .slice A xs.length c] 49)) := (Below.refl _ _).alloc (Nat.le_refl _) _
  cases hg : isAba r xs
  · rw [show countsF r xs = [] by simp [countsF, hg]]
    have HG := hid hg; clear hg
    go_enter Try.func31, Try.ntmps31
    go_wp2_with (go_at_call 54; refine (IsAbacus_b _ _ _ _ _ hl (hc.below b0) _ HG.out).mono ?_; rintro e w' ⟨rfl, b1⟩)
    go_ret2
    exact ⟨none, 0, rfl, own_nil _ _, Below.next b0 b1⟩
  have hg2 := hg
  simp only [isAba, Bool.and_eq_true] at hg2
  have hr := inB_iff.1 hg2.1
  have G := goodB_iff.1 hg2.2
  obtain ⟨m, rfl⟩ : ∃ m : Nat, r = m := ⟨r.toNat, by omega⟩
  rw [show countsF (m : Int) xs = cntL m xs by simp [countsF, hg], show (cntL m xs).length = m from fnRow_len _ _]
  have hlen := G.len
  have HB := hid G.rise.bd
  have HG := hid hg; clear hg hg2 G
  have hmk := run_make_row' (P := Try.prog) 28 3 (.int .i64 0) 8 Try.underlying28 Try.infoInt rfl .i64 .i64 m (by omega) (by omega)
  go_enter Try.func31, Try.ntmps31
  go_wp2_with fail
  refine (IsAbacus_b _ _ _ _ _ hl (hc.below b0) _ HG.out).mono ?_
  rintro e w1 ⟨rfl, b1⟩
  have B1 := Below.next b0 b1
  have y1 := y0.next b1
  have f1 := y1.cell0
  have f2 := y1.cell1
  obtain ⟨w2, hw2⟩ : ∃ w2, w2 = w1.alloc (.cells (madeCells #[.int .i64 0] m) 3) := ⟨_, rfl⟩
  have o2 : Own w2 w1.heap.size (some ⟨w1.heap.size, 0, none⟩) m (cntK m xs 0) := by rw [hw2, cntK_zero]; exact own_made w1 m (by omega)
  have b2 : Below w1.heap.size w1 w2 := by rw [hw2]; exact (Below.refl _ _).alloc (Nat.le_refl _) _
  have g1 : (w1.alloc (.cells (madeCells #[.int .i64 0] m) 3)).cell? ⟨w.heap.size, 1, none⟩ = some (.slice A xs.length c) := (y1.alloc _).cell1
  have z1 := B1.size
  have zz := b1.size
  go_wp2_with fail
  rw [← hw2]
  clear hw2 g1 f1 f2
  go_loopw [6, 16] (fun _ i wr => ∃ k : Nat, k ≤ xs.length ∧ i = .int .i64 k ∧ Own wr w1.heap.size (some ⟨w1.heap.size, 0, none⟩) m (cntK m xs k) ∧ Below w1.heap.size w1 wr) (fun _ i _ => xs.length - (intOf i).toNat)
  case atStart => exact ⟨0, Nat.zero_le _, rfl, o2, b2⟩
  case round =>
    obtain ⟨k, hk, rfl, hown, hbel⟩ := hrel
    have yr := y1.next hbel
    have f1 := yr.cell0
    have f2 := yr.cell1
    by_cases hlt : k < xs.length
    · obtain ⟨b, o, rfl, hcc⟩ := (hc.later (Below.next B1 hbel)) (by omega)
      have hck := hcc k hlt
      have hxb := HB.out k hlt
      obtain ⟨i, hi⟩ : ∃ i : Nat, xs.getD k 0 = (i : Int) := ⟨(xs.getD k 0).toNat, by omega⟩
      have hmlt : i % m < m := Nat.mod_lt _ (by omega)
      have hcur := own_get hown (k := i % m) (by rw [cntK_len]; exact hmlt)
      have hfz := own_froz hown (i % m)
      have hbd := cntK_bd m xs k (i % m) hmlt
      have hst := own_len (own_set hown (i % m) ((cntK m xs k).getD (i % m) 0 + 1)) (cntK_succ m xs k (i % m) hlt (by rw [hi]; rfl) hmlt)
      obtain ⟨u, hu⟩ : ∃ u, u = (cntK m xs k).getD (i % m) 0 := ⟨_, rfl⟩
      rw [← hu] at hcur hst hbd
      rw [hi] at hck hxb
      have HS := hid hst
      have htm : Int.tmod (i : Int) (m : Int) = ((i % m : Nat) : Int) := by rfl
      clear hcc hst hu hown hi
      go_wp2_with fail
      go_roundw
      case rel => exact ⟨k + 1, by omega, by go_num, HS.out, hbel.setCell (Nat.le_refl _) _⟩
      case measure => simp [intOf]; omega
    · have hkl : k = xs.length := by omega
      subst hkl
      have HO := hid hown; clear hown
      go_wp2_with fail
      go_ret2
      exact ⟨_, _, rfl, (own_len HO.out (cntK_all m xs)).more z1, Below.next B1 hbel⟩

end Go.Proofs.Ytiebnnchaopbkaa
/-
  Plain facts on residues of contents, and how many cells have each.
-/
namespace Go.Proofs.Ytiebnnchaopbkaa
open Go.RowKit

theorem tmod_resid {x t : Int} (ht : 2 ≤ t ∧ t ≤ 6) : -t < Int.tmod x t ∧ Int.tmod x t < t ∧ Int.tmod (Int.tmod x t + t) t = x % t := by
  by_cases h : 0 ≤ x
  · rw [Int.tmod_eq_emod_of_nonneg h]
    have h1 := Int.emod_nonneg x (show t ≠ 0 by omega)
    have h2 := Int.emod_lt_of_pos x (show 0 < t by omega)
    refine ⟨by omega, h2, ?_⟩
    rw [Int.tmod_eq_emod_of_nonneg (by omega), Int.add_emod_right, Int.emod_emod]
  · have e : Int.tmod x t = -((-x) % t) := by
      rw [← Int.tmod_eq_emod_of_nonneg (show 0 ≤ -x by omega), Int.neg_tmod, Int.neg_neg]
    have h1 := Int.emod_nonneg (-x) (show t ≠ 0 by omega)
    have h2 := Int.emod_lt_of_pos (-x) (show 0 < t by omega)
    rw [e]
    refine ⟨by omega, by omega, ?_⟩
    rw [Int.tmod_eq_emod_of_nonneg (by omega), Int.add_emod_right]
    have : t = 2 ∨ t = 3 ∨ t = 4 ∨ t = 5 ∨ t = 6 := by omega
    rcases this with rfl | rfl | rfl | rfl | rfl <;> omega
theorem cntL_len (t : Nat) (L : List Int) : (cntL t L).length = t := fnRow_len _ _
theorem cntL_nil (t : Nat) : cntL t [] = fnRow t (fun _ => 0) := rowF_ext _ _ _ fun j _ => by simp [cnt]
theorem cnt_snoc (t : Nat) (L : List Int) (x : Int) (m : Nat) (hm : x % (t : Int) = (m : Int)) (j : Nat) : cnt t (L ++ [x]) j = if j = m then cnt t L j + 1 else cnt t L j := by
  unfold cnt
  rw [List.filter_append, List.length_append]
  by_cases h : j = m
  · subst h
    rw [if_pos rfl]
    simp only [List.filter_cons, List.filter_nil, hm, decide_true, if_true, List.length_singleton]
    omega
  · rw [if_neg h]
    have : ¬ x % (t : Int) = (j : Int) := by rw [hm]; omega
    simp only [List.filter_cons, List.filter_nil, this, decide_false, Bool.false_eq_true, if_false, List.length_nil]
    omega
theorem cntL_snoc (t : Nat) (L : List Int) (x : Int) (m : Nat) (hm : x % (t : Int) = (m : Int)) (hmt : m < t) : (cntL t L).set m ((cntL t L).getD m 0 + 1) = cntL t (L ++ [x]) := by
  unfold cntL
  rw [fnRow_get _ _ _ hmt, fnRow_set]
  refine rowF_ext _ _ _ fun j _ => ?_
  rw [cnt_snoc t L x m hm]
  by_cases h : j = m
  · subst h; simp
  · simp [h]
theorem cnt_bd (t : Nat) (L : List Int) (j : Nat) : 0 ≤ cnt t L j ∧ cnt t L j ≤ L.length := by
  unfold cnt
  have := List.length_filter_le (fun x => decide (x % (t : Int) = (j : Int))) L
  omega
/-- The contents, cell by cell. -/
def contL (xs : List Int) (k : Nat) : List Int := (rowsF xs contN k).flatten
theorem contL_succ (xs : List Int) (k : Nat) : contL xs (k + 1) = contL xs k ++ rowF contN k (xs.getD k 0).toNat := by
  unfold contL; rw [rowsF_succ, List.flatten_append]; simp
theorem contL_len {xs : List Int} (G : Good xs) (k : Nat) (hk : k ≤ xs.length) : (contL xs k).length ≤ 900 := by
  have := tot_rowsF xs contN G.le k hk
  have := G.len
  unfold contL; rw [flat_len]; omega
theorem rowF_mem {f : Nat → Nat → Int} {r n : Nat} {x : Int} (h : x ∈ rowF f r n) : ∃ c, c < n ∧ x = f r c := by
  unfold rowF at h
  obtain ⟨c, hc, rfl⟩ := List.mem_map.1 h
  exact ⟨c, List.mem_range.1 hc, rfl⟩
theorem contL_bd {xs : List Int} (G : Good xs) : ∀ (k : Nat), k ≤ xs.length → ∀ x, x ∈ contL xs k → -30 ≤ x ∧ x ≤ 30
  | 0, _, x, hx => absurd hx (by simp [contL, rowsF])
  | k + 1, hk, x, hx => by
    rw [contL_succ, List.mem_append] at hx
    rcases hx with hx | hx
    · exact contL_bd G k (by omega) x hx
    · obtain ⟨c, hc, rfl⟩ := rowF_mem hx
      have := G.le k (by omega)
      have := G.len
      unfold contN
      omega
theorem getD_mem' {L : List Int} {k : Nat} (h : k < L.length) : L.getD k 0 ∈ L := by
  rw [List.getD_eq_getElem?_getD, List.getElem?_eq_getElem h]; exact List.getElem_mem h
def resB (xs : List Int) (t : Int) : Bool := good xs && inB 2 6 t
def resF (xs : List Int) (t : Int) : List Int := if resB xs t then cntL t.toNat (contL xs xs.length) else []
theorem resF_f {xs : List Int} {t : Int} (h : resB xs t = false) : resF xs t = [] := by simp [resF, h]
theorem resF_t {xs : List Int} {t : Nat} (h : resB xs t = true) : resF xs t = cntL t (contL xs xs.length) := by simp [resF, h]
theorem bound_ResidueCounts (xs : List Int) (t : Int) : (resF xs t).length ≤ 1048576 := by
  unfold resF; split
  · rename_i h
    simp only [resB, Bool.and_eq_true] at h
    have := inB_iff.1 h.2
    rw [cntL_len]; omega
  · simp
end Go.Proofs.Ytiebnnchaopbkaa
/-
  A block that holds a variable of many cells (an array, a struct of arrays), its cells told by a function: what is read of it, and what a store leaves; whole variables loaded and stored; two of them compared.
-/
namespace Go.Proofs.Ytiebnnchaopbkaa
open Go.RowKit

def caL (n : Nat) (c : Nat → Value) : List Value := (List.range n).map c
def ca (n : Nat) (c : Nat → Value) : Array Value := (caL n c).toArray
theorem caL_len (n : Nat) (c : Nat → Value) : (caL n c).length = n := by simp [caL]
theorem ca_size (n : Nat) (c : Nat → Value) : (ca n c).size = n := by simp [ca, caL]
theorem caL_get (n : Nat) (c : Nat → Value) (k : Nat) (h : k < n) : (caL n c)[k]? = some (c k) := by rw [caL, List.getElem?_map, List.getElem?_range h]; rfl
theorem ca_get (n : Nat) (c : Nat → Value) (k : Nat) (h : k < n) : (ca n c)[k]? = some (c k) := by unfold ca; rw [List.getElem?_toArray]; exact caL_get n c k h
theorem caL_ext {n : Nat} {c d : Nat → Value} (h : ∀ k, k < n → c k = d k) : caL n c = caL n d := List.map_congr_left fun k hk => h k (List.mem_range.1 hk)
theorem ca_ext {n : Nat} {c d : Nat → Value} (h : ∀ k, k < n → c k = d k) : ca n c = ca n d := by unfold ca; rw [caL_ext h]
def updV (c : Nat → Value) (k : Nat) (v : Value) : Nat → Value := fun j => if j = k then v else c j
theorem ca_set (n : Nat) (c : Nat → Value) (k : Nat) (v : Value) : (ca n c).setIfInBounds k v = ca n (updV c k v) := by
  apply Array.ext_getElem?
  intro j
  rw [Array.getElem?_setIfInBounds]
  by_cases hj : j < n
  · rw [ca_get n (updV c k v) j hj, ca_size]
    unfold updV
    by_cases e : k = j
    · subst e; simp [hj]
    · rw [if_neg e, if_neg (fun h => e h.symm), ca_get n c j hj]
  · have h1 : (ca n c)[j]? = none := Array.getElem?_eq_none (by rw [ca_size]; omega)
    have h2 : (ca n (updV c k v))[j]? = none := Array.getElem?_eq_none (by rw [ca_size]; omega)
    rw [h1, h2, ca_size]
    by_cases e : k = j
    · subst e; simp [hj]
    · rw [if_neg e]

def Blk (W : World) (g : Nat) (t : TypeId) (n : Nat) (c : Nat → Value) : Prop := W.heap[g]? = some (.cells (ca n c) t (0, 0))
theorem Blk.lt {W : World} {g : Nat} {t : TypeId} {n : Nat} {c : Nat → Value} (h : Blk W g t n c) : g < W.heap.size := (Array.getElem?_eq_some_iff.1 h).1
theorem Blk.cell {W : World} {g : Nat} {t : TypeId} {n : Nat} {c : Nat → Value} (h : Blk W g t n c) {k : Nat} (hk : k < n) : W.cell? ⟨g, k, none⟩ = some (c k) := by
  simp only [World.cell?, show W.heap[g]? = _ from h]; exact ca_get n c k hk
theorem Blk.froz {W : World} {g : Nat} {t : TypeId} {n : Nat} {c : Nat → Value} (h : Blk W g t n c) (k : Nat) : W.frozen? ⟨g, k, none⟩ = false := by simp [World.frozen?, show W.heap[g]? = _ from h]
theorem Blk.new (W : World) (t : TypeId) (n : Nat) (c : Nat → Value) : Blk (W.alloc (.cells (ca n c) t)) W.heap.size t n c := heap_alloc_new W _
theorem Blk.keep {W W' : World} {g : Nat} {t : TypeId} {n : Nat} {c : Nat → Value} (h : Blk W g t n c) (hk : W'.heap[g]? = W.heap[g]?) : Blk W' g t n c := hk.trans h
theorem Blk.below {W W' : World} {m g : Nat} {t : TypeId} {n : Nat} {c : Nat → Value} (h : Blk W g t n c) (hb : Below m W W') (hn : g < m) : Blk W' g t n c := h.keep (hb.block g hn)
theorem Blk.next {W W' : World} {g : Nat} {t : TypeId} {n : Nat} {c : Nat → Value} (h : Blk W g t n c) (hb : Below W.heap.size W W') : Blk W' g t n c := h.below hb h.lt
theorem Blk.alloc {W : World} {g : Nat} {t : TypeId} {n : Nat} {c : Nat → Value} (h : Blk W g t n c) (o : Obj) : Blk (W.alloc o) g t n c := h.keep ((World.grownBy_alloc W o none).block g h.lt (by simp))
theorem Blk.set {W : World} {g : Nat} {t : TypeId} {n : Nat} {c : Nat → Value} (h : Blk W g t n c) (k : Nat) (v : Value) : Blk (W.setCell ⟨g, k, none⟩ v) g t n (updV c k v) := by
  have := heap_setCell_same W g k (ca n c) t v h
  rw [ca_set] at this; exact this
theorem Blk.other {W : World} {g g' k : Nat} {t : TypeId} {n : Nat} {c : Nat → Value} (h : Blk W g t n c) (hne : g ≠ g') (v : Value) : Blk (W.setCell ⟨g', k, none⟩ v) g t n c := h.keep (Below.heap_setCell _ _ _ g (fun e => hne (by rw [e])))
theorem Blk.to {W : World} {g : Nat} {t : TypeId} {n : Nat} {c d : Nat → Value} (h : Blk W g t n c) (e : ∀ k, k < n → c k = d k) : Blk W g t n d := by unfold Blk at *; rw [← ca_ext e]; exact h
/-- A part stored at once. -/
def midV (c : Nat → Value) (o m : Nat) (d : Nat → Value) : Nat → Value := fun j => if o ≤ j ∧ j < o + m then d (j - o) else c j
theorem Blk.setL {g : Nat} {t : TypeId} {n : Nat} : ∀ (vs : List Value) (o : Nat) {W : World} {c : Nat → Value}, Blk W g t n c → Blk (W.setCells g o vs) g t n (midV c o vs.length (fun j => vs.getD j undef))
  | [], o, W, c, h => h.to fun k _ => by unfold midV; rw [if_neg (by rw [List.length_nil]; omega)]
  | v :: r, o, W, c, h => by
    have ih := Blk.setL r (o + 1) (h.set o v)
    refine Blk.to ih fun k _ => ?_
    unfold midV updV
    by_cases h1 : k = o
    · subst h1; rw [if_neg (by omega), if_pos rfl, if_pos (by rw [List.length_cons]; omega), Nat.sub_self]; rfl
    · by_cases h2 : o + 1 ≤ k ∧ k < o + 1 + r.length
      · rw [if_pos h2, if_pos (by simp; omega)]
        obtain ⟨d, hd⟩ : ∃ d, k - o = d + 1 := ⟨k - o - 1, by omega⟩
        rw [hd, show k - (o + 1) = d by omega]; rfl
      · rw [if_neg h2, if_neg h1, if_neg (by simp; omega)]
theorem Blk.setMid {W : World} {g : Nat} {t : TypeId} {n : Nat} {c : Nat → Value} (h : Blk W g t n c) (o m : Nat) (d : Nat → Value) : Blk (W.setCells g o (caL m d)) g t n (midV c o m d) := by
  have := Blk.setL (caL m d) o h
  rw [caL_len] at this
  refine this.to fun k _ => ?_
  unfold midV
  split
  · rename_i hk
    show (caL m d).getD (k - o) undef = d (k - o)
    rw [List.getD_eq_getElem?_getD, caL_get m d (k - o) (by omega)]; rfl
  · rfl
theorem setCells_below (g : Nat) : ∀ (vs : List Value) (o : Nat) (w W : World) (m : Nat), Below m w W → m ≤ g → Below m w (W.setCells g o vs)
  | [], _, _, _, _, h, _ => h
  | _ :: r, o, w, _, m, h, hg => setCells_below g r (o + 1) w _ m (h.setCell hg _) hg
theorem setCells_size (g : Nat) : ∀ (vs : List Value) (o : Nat) (W : World), (W.setCells g o vs).heap.size = W.heap.size
  | [], _, _ => rfl
  | v :: r, o, W => by rw [World.setCells, setCells_size g r]; simp
theorem setCells_other (g g' : Nat) (hne : g' ≠ g) : ∀ (vs : List Value) (o : Nat) (W : World), (W.setCells g o vs).heap[g']? = W.heap[g']?
  | [], _, _ => rfl
  | v :: r, o, W => by rw [World.setCells, setCells_other g g' hne r]; exact Below.heap_setCell _ _ _ g' (fun e => hne (by rw [e]))
theorem Blk.otherL {W : World} {g g' o : Nat} {t : TypeId} {n : Nat} {c : Nat → Value} (h : Blk W g t n c) (hne : g ≠ g') (vs : List Value) : Blk (W.setCells g' o vs) g t n c := h.keep (setCells_other g' g hne vs o W)
theorem Blk.range {W : World} {g : Nat} {t : TypeId} {n : Nat} {c : Nat → Value} (h : Blk W g t n c) (o m : Nat) (ho : o + m ≤ n) (d : Nat → Value) (hd : ∀ k, k < m → d k = c (o + k)) : W.rangeAt g o (caL m d) := fun j v hv => by
  have hj : j < m := by have := (List.getElem?_eq_some_iff.1 hv).1; rwa [caL_len] at this
  rw [caL_get m d j hj] at hv
  injection hv with hv
  rw [← hv, hd j hj]
  exact h.cell (by omega)
theorem Blk.there {W : World} {g : Nat} {t : TypeId} {n : Nat} {c : Nat → Value} (h : Blk W g t n c) (o m : Nat) (ho : o + m ≤ n) : W.there g o m := fun j hj => ⟨by rw [h.cell (show o + j < n by omega)]; rfl, h.froz _⟩
theorem setRow_blk {W : World} {g : Nat} {t : TypeId} {n : Nat} {c : Nat → Value} (h : Blk W g t n c) (d : Nat → Value) : Blk (W.setRow g (ca n d)) g t n d := setRow_heap W g (ca n c) (ca n d) t (0, 0) h
theorem setRow_below {w W : World} {m g : Nat} (h : Below m w W) (hg : m ≤ g) (cs : Array Value) : Below m w (W.setRow g cs) :=
  ⟨h.os, h.tape, h.output, by rw [size_setRow]; exact h.size, fun k hk => (setRow_other W g k cs (by omega)).trans (h.block k hk)⟩
theorem Blk.otherR {W : World} {g g' : Nat} {t : TypeId} {n : Nat} {c : Nat → Value} (h : Blk W g t n c) (hne : g ≠ g') (cs : Array Value) : Blk (W.setRow g' cs) g t n c := h.keep (setRow_other W g' g cs (by omega))

/-- A whole variable loaded: the walk stops here and asks what its block holds. -/
theorem wpList_load_ex {P : Program} {ops : Array Oper} {rest : List Oper} {o : Oper} {a : Act} {w : World} {Q : Exit → Act → World → Prop} (hgd : o.guard = none) (ty : TypeId) (x : Operand) (ho : o.op = .load ty x)
    (g : Nat) (hx : a.eval x = .pointer (some ⟨g, 0, none⟩)) (d : TypeDesc) (hu : P.underlying ty = some d) (hd : (match d with | .struct _ | .array _ _ => true | _ => false) = true)
    (h : ∃ cs t fr, w.heap[g]? = some (.cells cs t fr) ∧ (P.info? ty).map (·.size) = some cs.size ∧ wpList P ops Q rest (a.put o.dst (.agg cs)) w) : wpList P ops Q (o :: rest) a w := by
  obtain ⟨cs, t, fr, hg, hi, hk⟩ := h
  exact wpList_load_row hgd ty x ho g hx t cs fr d hg hu hd hi hk

/-! bits -/
def bitV (f : Nat → Bool) : Nat → Value := fun k => .bool (f k)
def updB (f : Nat → Bool) (k : Nat) (b : Bool) : Nat → Bool := fun j => if j = k then b else f j
theorem updV_bit (f : Nat → Bool) (k : Nat) (b : Bool) : updV (bitV f) k (.bool b) = bitV (updB f k b) := by
  funext j; unfold updV bitV updB; split <;> rfl
theorem bit_one (n : Nat) (f : Nat → Bool) : ∀ v ∈ caL n (bitV f), v.oneCell' = true := by
  intro v hv
  simp only [caL, List.mem_map] at hv
  obtain ⟨k, _, rfl⟩ := hv
  rfl
theorem ca_one {n : Nat} {c : Nat → Value} (h : ∀ k, k < n → (c k).oneCell' = true) : (ca n c).all (·.oneCell') = true := by
  unfold ca
  refine all_oneCell_toArray fun v hv => ?_
  simp only [caL, List.mem_map, List.mem_range] at hv
  obtain ⟨k, hk, rfl⟩ := hv
  exact h k hk
/-- A board: its count, then the bits of its lines. -/
def brdV (t : Int) (F : Nat → Bool) : Nat → Value := fun k => if k = 0 then .int .i64 t else .bool (F (k - 1))
def rnV (f : Nat → Bool) : Value := .agg (ca 36 (bitV f))
def bdV (t : Int) (F : Nat → Bool) : Value := .agg (ca 217 (brdV t F))
end Go.Proofs.Ytiebnnchaopbkaa
