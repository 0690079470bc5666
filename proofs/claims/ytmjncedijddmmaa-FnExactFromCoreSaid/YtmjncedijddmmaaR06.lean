/-
  Several texts in one.
-/
import Derived.Test.YtmjncedijddmmaaR01
import Derived.Test.YtmjncedijddmmaaCB
/-
  Plain facts on Maya's numbers of a list of parts, as the model and the program tell them.
-/
namespace Go.Proofs.Ytmjncedijddmmaa

def num (p : List Int) (i : Nat) : Int := p.getD i 0 - i - 1
def mayaA (p : List Int) : Nat → List Int
  | 0 => []
  | k + 1 => mayaA p k ++ if 0 ≤ num p k then [num p k] else []
def heldL (p : List Int) (k : Nat) : List Int := (List.range k).map (num p)
def mayaB (p : List Int) : Nat → List Int
  | 0 => []
  | j + 1 => mayaB p j ++ if (-1 - (j : Int)) ∈ heldL p p.length then [] else [-1 - (j : Int)]
def mayaL (p : List Int) : List Int := mayaA p p.length ++ mayaB p p.length
def mayaF (p : List Int) : List Int := if good p then mayaL p else []
theorem mayaA_yes {p : List Int} {k : Nat} {x : Int} (hx : x = num p k) (h : 0 ≤ x) : mayaA p (k + 1) = mayaA p k ++ [x] := by subst hx; simp only [mayaA]; rw [if_pos h]
theorem mayaA_no {p : List Int} {k : Nat} {x : Int} (hx : x = num p k) (h : ¬ 0 ≤ x) : mayaA p (k + 1) = mayaA p k := by subst hx; simp only [mayaA]; rw [if_neg h, List.append_nil]
theorem mayaB_yes {p : List Int} {j : Nat} (h : (-1 - (j : Int)) ∈ heldL p p.length) : mayaB p (j + 1) = mayaB p j := by simp only [mayaB]; rw [if_pos h, List.append_nil]
theorem mayaB_no {p : List Int} {j : Nat} (h : ¬ (-1 - (j : Int)) ∈ heldL p p.length) : mayaB p (j + 1) = mayaB p j ++ [-1 - (j : Int)] := by simp only [mayaB]; rw [if_neg h]
theorem mayaA_len (p : List Int) : ∀ k, (mayaA p k).length ≤ k
  | 0 => by simp [mayaA]
  | k + 1 => by have := mayaA_len p k; simp only [mayaA, List.length_append]; split <;> simp <;> omega
theorem mayaB_len (p : List Int) : ∀ k, (mayaB p k).length ≤ k
  | 0 => by simp [mayaB]
  | k + 1 => by have := mayaB_len p k; simp only [mayaB, List.length_append]; split <;> simp <;> omega
theorem heldL_len (p : List Int) (k : Nat) : (heldL p k).length = k := by simp [heldL]
theorem heldL_succ (p : List Int) (k : Nat) : heldL p (k + 1) = heldL p k ++ [num p k] := by simp [heldL, List.range_succ]
theorem heldL_get (p : List Int) (k j : Nat) (h : j < k) : (heldL p k).getD j 0 = num p j := by simp [heldL, List.getD, h]
theorem mayaL_len (p : List Int) : (mayaL p).length ≤ 2 * p.length := by
  unfold mayaL; rw [List.length_append]; have := mayaA_len p p.length; have := mayaB_len p p.length; omega
theorem bound_MayaOf (p : List Int) : (mayaF p).length ≤ 1048576 := by
  unfold mayaF; split
  · rename_i h; have := ((good_iff p).1 h).len; have := mayaL_len p; omega
  · simp
theorem num_bd {p : List Int} (G : Good p) {i : Nat} (h : i < p.length) : -31 ≤ num p i ∧ num p i ≤ 30 := by
  have := G.pos i h; have := G.le i h; have := G.len; unfold num; omega
/-- A bead at a place stands for a number that is held. -/
theorem bead_held (p : List Int) (j : Nat) (hj : j < p.length) : ((p.length - 1 - j : Nat) : Int) ∈ beadsL p p.length ↔ (-1 - (j : Int)) ∈ heldL p p.length := by
  have key : ∀ i, i < p.length → bead p p.length (p.length - 1 - i) = num p i + p.length := by
    intro i hi
    unfold bead num
    rw [show p.length - 1 - (p.length - 1 - i) = i by omega]; omega
  constructor
  · intro h
    simp only [beadsL, fnRow, List.mem_map, List.mem_range] at h
    obtain ⟨i, hi, e⟩ := h
    simp only [heldL, List.mem_map, List.mem_range]
    refine ⟨p.length - 1 - i, by omega, ?_⟩
    have := key (p.length - 1 - i) (by omega)
    rw [show p.length - 1 - (p.length - 1 - i) = i by omega] at this
    omega
  · intro h
    simp only [heldL, List.mem_map, List.mem_range] at h
    obtain ⟨i, hi, e⟩ := h
    simp only [beadsL, fnRow, List.mem_map, List.mem_range]
    refine ⟨p.length - 1 - i, by omega, ?_⟩
    have := key i hi
    omega
end Go.Proofs.Ytmjncedijddmmaa
/-
  Contracts: CountsOf of the program and of the model.
-/
namespace Go.Proofs.Ytmjncedijddmmaa
open Go.RowKit

def cnt (r : Nat) (xs : List Int) (j : Nat) : Int := ((xs.filter fun x => decide (x % (r : Int) = (j : Int))).length : Nat)
def cntL (r : Nat) (xs : List Int) : List Int := fnRow r (cnt r xs)
def cntK (r : Nat) (xs : List Int) (k : Nat) : List Int := cntL r (xs.take k)
theorem cntK_zero (r : Nat) (xs : List Int) : cntK r xs 0 = fnRow r (fun _ => 0) := rowF_ext _ _ _ fun j _ => by simp [cnt]
theorem cntK_all (r : Nat) (xs : List Int) : cntK r xs xs.length = cntL r xs := by unfold cntK; rw [List.take_of_length_le (Nat.le_refl _)]
theorem cntK_len (r : Nat) (xs : List Int) (k : Nat) : (cntK r xs k).length = r := fnRow_len _ _
theorem cntK_succ (r : Nat) (xs : List Int) (k m : Nat) (hk : k < xs.length) (hm : xs.getD k 0 % (r : Int) = (m : Int)) (hmr : m < r) : (cntK r xs k).set m ((cntK r xs k).getD m 0 + 1) = cntK r xs (k + 1) := by
  unfold cntK cntL
  rw [fnRow_get _ _ _ hmr, fnRow_set]
  refine rowF_ext _ _ _ fun j _ => ?_
  rw [List.take_succ_eq_append_getElem hk]
  have e : xs[k] = xs.getD k 0 := by simp [List.getD, hk]
  unfold cnt
  rw [e, List.filter_append, List.length_append]
  by_cases h : j = m
  · subst h
    rw [if_pos rfl]
    simp only [List.filter_cons, List.filter_nil, hm, decide_true, if_true, List.length_singleton]
    omega
  · rw [if_neg h]
    have : ¬ xs.getD k 0 % (r : Int) = (j : Int) := by rw [hm]; omega
    simp only [List.filter_cons, List.filter_nil, this, decide_false, Bool.false_eq_true, if_false, List.length_nil]
    omega
theorem cntK_bd (r : Nat) (xs : List Int) (k m : Nat) (hm : m < r) : 0 ≤ (cntK r xs k).getD m 0 ∧ (cntK r xs k).getD m 0 ≤ k := by
  unfold cntK cntL
  rw [fnRow_get _ _ _ hm]
  unfold cnt
  have := List.length_filter_le (fun x => decide (x % (r : Int) = (m : Int))) (xs.take k)
  have h2 : (xs.take k).length ≤ k := by rw [List.length_take]; omega
  omega
def countsF (r : Int) (xs : List Int) : List Int := if isAba r xs then cntL r.toNat xs else []
theorem bound_CountsOf (r : Int) (xs : List Int) : (countsF r xs).length ≤ 1048576 := by
  unfold countsF; split
  · rename_i h
    simp only [isAba, Bool.and_eq_true] at h
    have := inB_iff.1 h.1
    unfold cntL; rw [fnRow_len]; omega
  · simp

set_option maxRecDepth 100000 in
set_option maxHeartbeats 1000000 in
theorem impl_CountsOf (r : Int) (A : Option Addr) (c : Nat) (xs : List Int) (w : World) (hl : xs.length ≤ 1048576) (hc : Cells w A xs) :
    Calls Try.prog 59 #[.agg #[.int .i64 r, .slice A xs.length c]] w fun e w' => ∃ A' c', e = .returned (.tuple #[.slice A' (countsF r xs).length c', .bool (isAba r xs)]) ∧ Own w' w.heap.size A' c' (countsF r xs) ∧ Below w.heap.size w w' := by
  have y0 := Box2.new w 56 (.int .i64 r) (.slice A xs.length c)
  have b0 : Below w.heap.size w (w.alloc (.cells #[.int .i64 r, .slice A xs.length c] 56)) := (Below.refl _ _).alloc (Nat.le_refl _) _
  cases hg : isAba r xs
  · rw [show countsF r xs = [] by simp [countsF, hg]]
    have HG := hid hg; clear hg
    go_enter Try.func59, Try.ntmps59
    go_wp2_with (go_at_call 73; refine (IsAbacus_b _ _ _ _ _ hl (hc.below b0) _ HG.out).mono ?_; rintro e w' ⟨rfl, b1⟩)
    go_ret2
    exact ⟨none, 0, rfl, own_nil _ _, Below.next b0 b1⟩
  have hg2 := hg
  simp only [isAba, Bool.and_eq_true] at hg2
  have hr := inB_iff.1 hg2.1
  have G := goodB_iff.1 hg2.2
  obtain ⟨m, rfl⟩ : ∃ m : Nat, r = m := ⟨r.toNat, by omega⟩
  rw [show countsF (m : Int) xs = cntL m xs by simp [countsF, hg], show (cntL m xs).length = m from fnRow_len _ _]
  have hlen := G.len
  have HB := hid G.rise.bd
  have HG := hid hg; clear hg hg2 G
  have hmk := run_make_row' (P := Try.prog) 22 3 (.int .i64 0) 8 Try.underlying22 Try.infoInt rfl .i64 .i64 m (by omega) (by omega)
  go_enter Try.func59, Try.ntmps59
  go_wp2_with fail
  refine (IsAbacus_b _ _ _ _ _ hl (hc.below b0) _ HG.out).mono ?_
  rintro e w1 ⟨rfl, b1⟩
  have B1 := Below.next b0 b1
  have y1 := y0.next b1
  have f1 := y1.cell0
  have f2 := y1.cell1
  obtain ⟨w2, hw2⟩ : ∃ w2, w2 = w1.alloc (.cells (madeCells #[.int .i64 0] m) 3) := ⟨_, rfl⟩
  have o2 : Own w2 w1.heap.size (some ⟨w1.heap.size, 0, none⟩) m (cntK m xs 0) := by rw [hw2, cntK_zero]; exact own_made w1 m (by omega)
  have b2 : Below w1.heap.size w1 w2 := by rw [hw2]; exact (Below.refl _ _).alloc (Nat.le_refl _) _
  have g1 : (w1.alloc (.cells (madeCells #[.int .i64 0] m) 3)).cell? ⟨w.heap.size, 1, none⟩ = some (.slice A xs.length c) := (y1.alloc _).cell1
  have z1 := B1.size
  have zz := b1.size
  go_wp2_with fail
  rw [← hw2]
  clear hw2 g1 f1 f2
  go_loopw [6, 16] (fun _ i wr => ∃ k : Nat, k ≤ xs.length ∧ i = .int .i64 k ∧ Own wr w1.heap.size (some ⟨w1.heap.size, 0, none⟩) m (cntK m xs k) ∧ Below w1.heap.size w1 wr) (fun _ i _ => xs.length - (intOf i).toNat)
  case atStart => exact ⟨0, Nat.zero_le _, rfl, o2, b2⟩
  case round =>
    obtain ⟨k, hk, rfl, hown, hbel⟩ := hrel
    have yr := y1.next hbel
    have f1 := yr.cell0
    have f2 := yr.cell1
    by_cases hlt : k < xs.length
    · obtain ⟨b, o, rfl, hcc⟩ := (hc.later (Below.next B1 hbel)) (by omega)
      have hck := hcc k hlt
      have hxb := HB.out k hlt
      obtain ⟨i, hi⟩ : ∃ i : Nat, xs.getD k 0 = (i : Int) := ⟨(xs.getD k 0).toNat, by omega⟩
      have hmlt : i % m < m := Nat.mod_lt _ (by omega)
      have hcur := own_get hown (k := i % m) (by rw [cntK_len]; exact hmlt)
      have hfz := own_froz hown (i % m)
      have hbd := cntK_bd m xs k (i % m) hmlt
      have hst := own_len (own_set hown (i % m) ((cntK m xs k).getD (i % m) 0 + 1)) (cntK_succ m xs k (i % m) hlt (by rw [hi]; rfl) hmlt)
      obtain ⟨u, hu⟩ : ∃ u, u = (cntK m xs k).getD (i % m) 0 := ⟨_, rfl⟩
      rw [← hu] at hcur hst hbd
      rw [hi] at hck hxb
      have HS := hid hst
      have htm : Int.tmod (i : Int) (m : Int) = ((i % m : Nat) : Int) := by rfl
      clear hcc hst hu hown hi
      go_wp2_with fail
      go_roundw
      case rel => exact ⟨k + 1, by omega, by go_num, HS.out, hbel.setCell (Nat.le_refl _) _⟩
      case measure => simp [intOf]; omega
    · have hkl : k = xs.length := by omega
      subst hkl
      have HO := hid hown; clear hown
      go_wp2_with fail
      go_ret2
      exact ⟨_, _, rfl, (own_len HO.out (cntK_all m xs)).more z1, Below.next B1 hbel⟩

end Go.Proofs.Ytmjncedijddmmaa
