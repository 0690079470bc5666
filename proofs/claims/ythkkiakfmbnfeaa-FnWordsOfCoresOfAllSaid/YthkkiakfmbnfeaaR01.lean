/-
  Several texts in one.
-/
import Derived.Test.YthkkiakfmbnfeaaCA
import Derived.Test.YthkkiakfmbnfeaaCB
/-
  The conjugate of a partition is one, of as many cells, and undoes itself. No program in this text.
-/
namespace Go.Proofs.Ythkkiakfmbnfeaa

theorem anti_d {xs : List Int} (G : Good xs) {i j : Nat} (h : i ≤ j) (hj : j < xs.length) : xs.getD j 0 ≤ xs.getD i 0 := by
  have := down_le xs G.down i (j - i) (by omega)
  rwa [show i + (j - i) = j by omega] at this
/-- How many parts are greater than c. -/
theorem col_cut {xs : List Int} (G : Good xs) (c : Int) : ∃ n : Nat, n ≤ xs.length ∧ (∀ j, j < n → c < xs.getD j 0) ∧ (n < xs.length → xs.getD n 0 ≤ c) ∧ colH xs c = n := by
  have key : ∀ k, k ≤ xs.length → (∀ j, j < k → c < xs.getD j 0) ∨ ∃ n, n < k ∧ (∀ j, j < n → c < xs.getD j 0) ∧ xs.getD n 0 ≤ c := by
    intro k
    induction k with
    | zero => intro _; exact .inl fun j h => absurd h (Nat.not_lt_zero _)
    | succ k ih =>
      intro hk
      rcases ih (by omega) with h | ⟨n, h1, h2, h3⟩
      · rcases Int.lt_or_le c (xs.getD k 0) with hc | hc
        · refine .inl fun j hj => ?_
          rcases Nat.lt_or_ge j k with h4 | h4
          · exact h j h4
          · rw [show j = k by omega]; exact hc
        · exact .inr ⟨k, by omega, h, hc⟩
      · exact .inr ⟨n, by omega, h2, h3⟩
  rcases key xs.length (Nat.le_refl _) with h | ⟨n, h1, h2, h3⟩
  · exact ⟨xs.length, Nat.le_refl _, h, fun h => absurd h (Nat.lt_irrefl _), colH_eq xs c _ (Nat.le_refl _) h (fun h => absurd h (Nat.lt_irrefl _)) G.down⟩
  · exact ⟨n, by omega, h2, fun _ => h3, colH_eq xs c n (by omega) h2 (fun _ => h3) G.down⟩
theorem dual {xs : List Int} (G : Good xs) {r : Nat} (hr : r < xs.length) (c : Int) : c < xs.getD r 0 ↔ (r : Int) < colH xs c := by
  obtain ⟨n, h1, h2, h3, e⟩ := col_cut G c
  rw [e]
  constructor
  · intro h
    rcases Nat.lt_or_ge r n with h4 | h4
    · omega
    · have := h3 (by omega)
      have := anti_d G h4 hr
      omega
  · intro h
    exact h2 r (by omega)
theorem colH_anti (xs : List Int) {c d : Int} (h : c ≤ d) : colH xs d ≤ colH xs c := by
  induction xs with
  | nil => simp [colH]
  | cons x t ih =>
    simp only [colH, List.map_cons, List.sum_cons] at ih ⊢
    split <;> split <;> omega
theorem ones_sum (x : Int) (h : 0 ≤ x) : ∀ M : Nat, x ≤ M → ((List.range M).map fun c : Nat => if (c : Int) < x then (1 : Int) else 0).sum = x := by
  have key : ∀ M : Nat, ((List.range M).map fun c : Nat => if (c : Int) < x then (1 : Int) else 0).sum = if x ≤ M then x else M := by
    intro M
    induction M with
    | zero => simp; omega
    | succ M ih =>
      rw [List.range_succ, List.map_append, List.sum_append, ih]
      simp only [List.map_cons, List.map_nil, List.sum_cons, List.sum_nil]
      split <;> split <;> split <;> omega
  intro M hM
  rw [key, if_pos hM]
theorem cols_sumM (M : Nat) : ∀ xs : List Int, (∀ x ∈ xs, 0 ≤ x ∧ x ≤ M) → ((List.range M).map fun c : Nat => colH xs (c : Int)).sum = xs.sum
  | [], _ => by
    have : ∀ M : Nat, ((List.range M).map fun _ : Nat => (0 : Int)).sum = 0 := by
      intro M
      induction M with
      | zero => rfl
      | succ M ih => rw [List.range_succ, List.map_append, List.sum_append, ih]; rfl
    simpa [colH] using this M
  | x :: t, h => by
    have ih := cols_sumM M t fun y hy => h y (List.mem_cons_of_mem _ hy)
    have e : ∀ L : List Nat, (L.map fun c : Nat => colH (x :: t) (c : Int)).sum = (L.map fun c : Nat => if (c : Int) < x then (1 : Int) else 0).sum + (L.map fun c : Nat => colH t (c : Int)).sum := by
      intro L
      induction L with
      | nil => rfl
      | cons a L ih2 =>
        simp only [List.map_cons, List.sum_cons, ih2]
        simp only [colH, List.map_cons, List.sum_cons]
        omega
    rw [e, ih, ones_sum x (h x (List.mem_cons_self ..)).1 M (h x (List.mem_cons_self ..)).2, List.sum_cons]
theorem mem_getD_d {xs : List Int} {x : Int} (h : x ∈ xs) : ∃ j, j < xs.length ∧ xs.getD j 0 = x := by
  obtain ⟨j, hj, e⟩ := List.mem_iff_getElem.1 h
  exact ⟨j, hj, by rw [List.getD_eq_getElem?_getD, List.getElem?_eq_getElem hj]; exact e⟩
theorem cols_sum {xs : List Int} (G : Good xs) : (cols xs).sum = xs.sum := by
  refine cols_sumM _ xs fun x hx => ?_
  obtain ⟨j, hj, rfl⟩ := mem_getD_d hx
  have := G.pos j hj
  have := anti_d G (Nat.zero_le j) hj
  omega
theorem cols_first {xs : List Int} (G : Good xs) : (cols xs).getD 0 0 = xs.length := by
  rcases Nat.eq_zero_or_pos xs.length with h | h
  · have : xs = [] := List.eq_nil_of_length_eq_zero h
    subst this; rfl
  · have := G.pos 0 h
    rw [cols_get xs 0 (by omega)]
    exact sum_ones xs _ fun j hj => by have := G.pos j hj; omega
theorem cols_good {xs : List Int} (G : Good xs) : Good (cols xs) := by
  have hs := cols_sum G
  have hlen : (cols xs).length ≤ 30 := by
    rw [cols_len]
    rcases Nat.eq_zero_or_pos xs.length with h | h
    · have : xs = [] := List.eq_nil_of_length_eq_zero h
      subst this; simp
    · have := G.le 0 h; omega
  have hg : ∀ j, j < (cols xs).length → (cols xs).getD j 0 = colH xs j ∧ 1 ≤ colH xs j := by
    intro j hj
    rw [cols_len] at hj
    refine ⟨cols_get xs j hj, ?_⟩
    have h0 : 0 < xs.length := by
      rcases Nat.eq_zero_or_pos xs.length with h | h
      · have : xs = [] := List.eq_nil_of_length_eq_zero h
        subst this; simp at hj
      · exact h
    have := (dual G h0 (j : Int)).1 (by omega)
    omega
  have hl := G.len
  refine ⟨hlen, fun j hj => by rw [(hg j hj).1]; exact (hg j hj).2, fun j hj => ?_, fun j hj => ?_, by rw [hs]; exact G.sum0, by rw [hs]; exact G.sum⟩
  · rw [(hg j hj).1]
    have := (colH_bound xs j).2
    omega
  · rw [(hg (j + 1) hj).1, (hg j (by omega)).1]
    exact colH_anti xs (by omega)
theorem cols_cols {xs : List Int} (G : Good xs) : cols (cols xs) = xs := by
  have G2 := cols_good G
  have hf := cols_first G
  have hlen : (cols (cols xs)).length = xs.length := by rw [cols_len, hf]; omega
  refine List.ext_getElem? fun j => ?_
  rcases Nat.lt_or_ge j xs.length with hj | hj
  · have e : (cols (cols xs)).getD j 0 = xs.getD j 0 := by
      rw [cols_get _ j (by rw [hf]; omega)]
      have h1 := G.pos j hj
      have h0 := anti_d G (Nat.zero_le j) hj
      rw [colH_eq (cols xs) j (xs.getD j 0).toNat (by rw [cols_len]; omega) (fun c hc => ?_) (fun hc => ?_) G2.down]
      · omega
      · rw [cols_get xs c (by omega)]
        exact (dual G hj (c : Int)).1 (by omega)
      · rw [cols_len] at hc
        rw [cols_get xs _ hc]
        have := (dual G hj (((xs.getD j 0).toNat : Nat) : Int)).2
        omega
    rw [List.getD_eq_getElem?_getD, List.getD_eq_getElem?_getD, List.getElem?_eq_getElem (by omega), List.getElem?_eq_getElem hj] at e
    rw [List.getElem?_eq_getElem (by omega), List.getElem?_eq_getElem hj]
    simpa using e
  · rw [List.getElem?_eq_none (by omega), List.getElem?_eq_none (by omega)]
end Go.Proofs.Ythkkiakfmbnfeaa
/-
  Contracts: CountsOf of the program and of the model.
-/
namespace Go.Proofs.Ythkkiakfmbnfeaa
open Go.RowKit

def cnt (r : Nat) (xs : List Int) (j : Nat) : Int := ((xs.filter fun x => decide (x % (r : Int) = (j : Int))).length : Nat)
def cntL (r : Nat) (xs : List Int) : List Int := fnRow r (cnt r xs)
def cntK (r : Nat) (xs : List Int) (k : Nat) : List Int := cntL r (xs.take k)
theorem cntK_zero (r : Nat) (xs : List Int) : cntK r xs 0 = fnRow r (fun _ => 0) := rowF_ext _ _ _ fun j _ => by simp [cnt]
theorem cntK_all (r : Nat) (xs : List Int) : cntK r xs xs.length = cntL r xs := by unfold cntK; rw [List.take_of_length_le (Nat.le_refl _)]
theorem cntK_len (r : Nat) (xs : List Int) (k : Nat) : (cntK r xs k).length = r := fnRow_len _ _
theorem cntK_succ (r : Nat) (xs : List Int) (k m : Nat) (hk : k < xs.length) (hm : xs.getD k 0 % (r : Int) = (m : Int)) (hmr : m < r) : (cntK r xs k).set m ((cntK r xs k).getD m 0 + 1) = cntK r xs (k + 1) := by
  unfold cntK cntL
  rw [fnRow_get _ _ _ hmr, fnRow_set]
  refine rowF_ext _ _ _ fun j _ => ?_
  rw [List.take_succ_eq_append_getElem hk]
  have e : xs[k] = xs.getD k 0 := by simp [List.getD, hk]
  unfold cnt
  rw [e, List.filter_append, List.length_append]
  by_cases h : j = m
  · subst h
    rw [if_pos rfl]
    simp only [List.filter_cons, List.filter_nil, hm, decide_true, if_true, List.length_singleton]
    omega
  · rw [if_neg h]
    have : ¬ xs.getD k 0 % (r : Int) = (j : Int) := by rw [hm]; omega
    simp only [List.filter_cons, List.filter_nil, this, decide_false, Bool.false_eq_true, if_false, List.length_nil]
    omega
theorem cntK_bd (r : Nat) (xs : List Int) (k m : Nat) (hm : m < r) : 0 ≤ (cntK r xs k).getD m 0 ∧ (cntK r xs k).getD m 0 ≤ k := by
  unfold cntK cntL
  rw [fnRow_get _ _ _ hm]
  unfold cnt
  have := List.length_filter_le (fun x => decide (x % (r : Int) = (m : Int))) (xs.take k)
  have h2 : (xs.take k).length ≤ k := by rw [List.length_take]; omega
  omega
def countsF (r : Int) (xs : List Int) : List Int := if isAba r xs then cntL r.toNat xs else []
theorem bound_CountsOf (r : Int) (xs : List Int) : (countsF r xs).length ≤ 1048576 := by
  unfold countsF; split
  · rename_i h
    simp only [isAba, Bool.and_eq_true] at h
    have := inB_iff.1 h.1
    unfold cntL; rw [fnRow_len]; omega
  · simp

set_option maxRecDepth 100000 in
set_option maxHeartbeats 1000000 in
theorem impl_CountsOf (r : Int) (A : Option Addr) (c : Nat) (xs : List Int) (w : World) (hl : xs.length ≤ 1048576) (hc : Cells w A xs) :
    Calls Try.prog 36 #[.agg #[.int .i64 r, .slice A xs.length c]] w fun e w' => ∃ A' c', e = .returned (.tuple #[.slice A' (countsF r xs).length c', .bool (isAba r xs)]) ∧ Own w' w.heap.size A' c' (countsF r xs) ∧ Below w.heap.size w w' := by
  have y0 := Box2.new w 42 (.int .i64 r) (.slice A xs.length c)
  have b0 : Below w.heap.size w (w.alloc (.cells #[.int .i64 r, .slice A xs.length c] 42)) := (Below.refl _ _).alloc (Nat.le_refl _) _
  cases hg : isAba r xs
  · rw [show countsF r xs = [] by simp [countsF, hg]]
    have HG := hid hg; clear hg
    go_enter Try.func36, Try.ntmps36
    go_wp2_with (go_at_call 63; refine (IsAbacus_b _ _ _ _ _ hl (hc.below b0) _ HG.out).mono ?_; rintro e w' ⟨rfl, b1⟩)
    go_ret2
    exact ⟨none, 0, rfl, own_nil _ _, Below.next b0 b1⟩
  have hg2 := hg
  simp only [isAba, Bool.and_eq_true] at hg2
  have hr := inB_iff.1 hg2.1
  have G := goodB_iff.1 hg2.2
  obtain ⟨m, rfl⟩ : ∃ m : Nat, r = m := ⟨r.toNat, by omega⟩
  rw [show countsF (m : Int) xs = cntL m xs by simp [countsF, hg], show (cntL m xs).length = m from fnRow_len _ _]
  have hlen := G.len
  have HB := hid G.rise.bd
  have HG := hid hg; clear hg hg2 G
  have hmk := run_make_row' (P := Try.prog) 22 3 (.int .i64 0) 8 Try.underlying22 Try.infoInt rfl .i64 .i64 m (by omega) (by omega)
  go_enter Try.func36, Try.ntmps36
  go_wp2_with fail
  refine (IsAbacus_b _ _ _ _ _ hl (hc.below b0) _ HG.out).mono ?_
  rintro e w1 ⟨rfl, b1⟩
  have B1 := Below.next b0 b1
  have y1 := y0.next b1
  have f1 := y1.cell0
  have f2 := y1.cell1
  obtain ⟨w2, hw2⟩ : ∃ w2, w2 = w1.alloc (.cells (madeCells #[.int .i64 0] m) 3) := ⟨_, rfl⟩
  have o2 : Own w2 w1.heap.size (some ⟨w1.heap.size, 0, none⟩) m (cntK m xs 0) := by rw [hw2, cntK_zero]; exact own_made w1 m (by omega)
  have b2 : Below w1.heap.size w1 w2 := by rw [hw2]; exact (Below.refl _ _).alloc (Nat.le_refl _) _
  have g1 : (w1.alloc (.cells (madeCells #[.int .i64 0] m) 3)).cell? ⟨w.heap.size, 1, none⟩ = some (.slice A xs.length c) := (y1.alloc _).cell1
  have z1 := B1.size
  have zz := b1.size
  go_wp2_with fail
  rw [← hw2]
  clear hw2 g1 f1 f2
  go_loopw [6, 16] (fun _ i wr => ∃ k : Nat, k ≤ xs.length ∧ i = .int .i64 k ∧ Own wr w1.heap.size (some ⟨w1.heap.size, 0, none⟩) m (cntK m xs k) ∧ Below w1.heap.size w1 wr) (fun _ i _ => xs.length - (intOf i).toNat)
  case atStart => exact ⟨0, Nat.zero_le _, rfl, o2, b2⟩
  case round =>
    obtain ⟨k, hk, rfl, hown, hbel⟩ := hrel
    have yr := y1.next hbel
    have f1 := yr.cell0
    have f2 := yr.cell1
    by_cases hlt : k < xs.length
    · obtain ⟨b, o, rfl, hcc⟩ := (hc.later (Below.next B1 hbel)) (by omega)
      have hck := hcc k hlt
      have hxb := HB.out k hlt
      obtain ⟨i, hi⟩ : ∃ i : Nat, xs.getD k 0 = (i : Int) := ⟨(xs.getD k 0).toNat, by omega⟩
      have hmlt : i % m < m := Nat.mod_lt _ (by omega)
      have hcur := own_get hown (k := i % m) (by rw [cntK_len]; exact hmlt)
      have hfz := own_froz hown (i % m)
      have hbd := cntK_bd m xs k (i % m) hmlt
      have hst := own_len (own_set hown (i % m) ((cntK m xs k).getD (i % m) 0 + 1)) (cntK_succ m xs k (i % m) hlt (by rw [hi]; rfl) hmlt)
      obtain ⟨u, hu⟩ : ∃ u, u = (cntK m xs k).getD (i % m) 0 := ⟨_, rfl⟩
      rw [← hu] at hcur hst hbd
      rw [hi] at hck hxb
      have HS := hid hst
      have htm : Int.tmod (i : Int) (m : Int) = ((i % m : Nat) : Int) := by rfl
      clear hcc hst hu hown hi
      go_wp2_with fail
      go_roundw
      case rel => exact ⟨k + 1, by omega, by go_num, HS.out, hbel.setCell (Nat.le_refl _) _⟩
      case measure => simp [intOf]; omega
    · have hkl : k = xs.length := by omega
      subst hkl
      have HO := hid hown; clear hown
      go_wp2_with fail
      go_ret2
      exact ⟨_, _, rfl, (own_len HO.out (cntK_all m xs)).more z1, Below.next B1 hbel⟩

end Go.Proofs.Ythkkiakfmbnfeaa
