/-
  Several texts in one.
-/
import Derived.Test.YtiebnnchaopbkaaCA
import Derived.Test.YtiebnnchaopbkaaCB
import Derived.Deep.RegionHeld3
import Derived.Laws.Rows
/-
  The conjugate of a partition is one, of as many cells, and undoes itself. No program in this text.
-/
namespace Go.Proofs.Ytiebnnchaopbkaa

theorem anti_d {xs : List Int} (G : Good xs) {i j : Nat} (h : i ≤ j) (hj : j < xs.length) : xs.getD j 0 ≤ xs.getD i 0 := by
  have := down_le xs G.down i (j - i) (by omega)
  rwa [show i + (j - i) = j by omega] at this
/-- How many parts are greater than c. -/
theorem col_cut {xs : List Int} (G : Good xs) (c : Int) : ∃ n : Nat, n ≤ xs.length ∧ (∀ j, j < n → c < xs.getD j 0) ∧ (n < xs.length → xs.getD n 0 ≤ c) ∧ colH xs c = n := by
  have key : ∀ k, k ≤ xs.length → (∀ j, j < k → c < xs.getD j 0) ∨ ∃ n, n < k ∧ (∀ j, j < n → c < xs.getD j 0) ∧ xs.getD n 0 ≤ c := by
    intro k
    induction k with
    | zero => intro _; exact .inl fun j h => absurd h (Nat.not_lt_zero _)
    | succ k ih =>
      intro hk
      rcases ih (by omega) with h | ⟨n, h1, h2, h3⟩
      · rcases Int.lt_or_le c (xs.getD k 0) with hc | hc
        · refine .inl fun j hj => ?_
          rcases Nat.lt_or_ge j k with h4 | h4
          · exact h j h4
          · rw [show j = k by omega]; exact hc
        · exact .inr ⟨k, by omega, h, hc⟩
      · exact .inr ⟨n, by omega, h2, h3⟩
  rcases key xs.length (Nat.le_refl _) with h | ⟨n, h1, h2, h3⟩
  · exact ⟨xs.length, Nat.le_refl _, h, fun h => absurd h (Nat.lt_irrefl _), colH_eq xs c _ (Nat.le_refl _) h (fun h => absurd h (Nat.lt_irrefl _)) G.down⟩
  · exact ⟨n, by omega, h2, fun _ => h3, colH_eq xs c n (by omega) h2 (fun _ => h3) G.down⟩
theorem dual {xs : List Int} (G : Good xs) {r : Nat} (hr : r < xs.length) (c : Int) : c < xs.getD r 0 ↔ (r : Int) < colH xs c := by
  obtain ⟨n, h1, h2, h3, e⟩ := col_cut G c
  rw [e]
  constructor
  · intro h
    rcases Nat.lt_or_ge r n with h4 | h4
    · omega
    · have := h3 (by omega)
      have := anti_d G h4 hr
      omega
  · intro h
    exact h2 r (by omega)
theorem colH_anti (xs : List Int) {c d : Int} (h : c ≤ d) : colH xs d ≤ colH xs c := by
  induction xs with
  | nil => simp [colH]
  | cons x t ih =>
    simp only [colH, List.map_cons, List.sum_cons] at ih ⊢
    split <;> split <;> omega
theorem ones_sum (x : Int) (h : 0 ≤ x) : ∀ M : Nat, x ≤ M → ((List.range M).map fun c : Nat => if (c : Int) < x then (1 : Int) else 0).sum = x := by
  have key : ∀ M : Nat, ((List.range M).map fun c : Nat => if (c : Int) < x then (1 : Int) else 0).sum = if x ≤ M then x else M := by
    intro M
    induction M with
    | zero => simp; omega
    | succ M ih =>
      rw [List.range_succ, List.map_append, List.sum_append, ih]
      simp only [List.map_cons, List.map_nil, List.sum_cons, List.sum_nil]
      split <;> split <;> split <;> omega
  intro M hM
  rw [key, if_pos hM]
theorem cols_sumM (M : Nat) : ∀ xs : List Int, (∀ x ∈ xs, 0 ≤ x ∧ x ≤ M) → ((List.range M).map fun c : Nat => colH xs (c : Int)).sum = xs.sum
  | [], _ => by
    have : ∀ M : Nat, ((List.range M).map fun _ : Nat => (0 : Int)).sum = 0 := by
      intro M
      induction M with
      | zero => rfl
      | succ M ih => rw [List.range_succ, List.map_append, List.sum_append, ih]; rfl
    simpa [colH] using this M
  | x :: t, h => by
    have ih := cols_sumM M t fun y hy => h y (List.mem_cons_of_mem _ hy)
    have e : ∀ L : List Nat, (L.map fun c : Nat => colH (x :: t) (c : Int)).sum = (L.map fun c : Nat => if (c : Int) < x then (1 : Int) else 0).sum + (L.map fun c : Nat => colH t (c : Int)).sum := by
      intro L
      induction L with
      | nil => rfl
      | cons a L ih2 =>
        simp only [List.map_cons, List.sum_cons, ih2]
        simp only [colH, List.map_cons, List.sum_cons]
        omega
    rw [e, ih, ones_sum x (h x (List.mem_cons_self ..)).1 M (h x (List.mem_cons_self ..)).2, List.sum_cons]
theorem mem_getD_d {xs : List Int} {x : Int} (h : x ∈ xs) : ∃ j, j < xs.length ∧ xs.getD j 0 = x := by
  obtain ⟨j, hj, e⟩ := List.mem_iff_getElem.1 h
  exact ⟨j, hj, by rw [List.getD_eq_getElem?_getD, List.getElem?_eq_getElem hj]; exact e⟩
theorem cols_sum {xs : List Int} (G : Good xs) : (cols xs).sum = xs.sum := by
  refine cols_sumM _ xs fun x hx => ?_
  obtain ⟨j, hj, rfl⟩ := mem_getD_d hx
  have := G.pos j hj
  have := anti_d G (Nat.zero_le j) hj
  omega
theorem cols_first {xs : List Int} (G : Good xs) : (cols xs).getD 0 0 = xs.length := by
  rcases Nat.eq_zero_or_pos xs.length with h | h
  · have : xs = [] := List.eq_nil_of_length_eq_zero h
    subst this; rfl
  · have := G.pos 0 h
    rw [cols_get xs 0 (by omega)]
    exact sum_ones xs _ fun j hj => by have := G.pos j hj; omega
theorem cols_good {xs : List Int} (G : Good xs) : Good (cols xs) := by
  have hs := cols_sum G
  have hlen : (cols xs).length ≤ 30 := by
    rw [cols_len]
    rcases Nat.eq_zero_or_pos xs.length with h | h
    · have : xs = [] := List.eq_nil_of_length_eq_zero h
      subst this; simp
    · have := G.le 0 h; omega
  have hg : ∀ j, j < (cols xs).length → (cols xs).getD j 0 = colH xs j ∧ 1 ≤ colH xs j := by
    intro j hj
    rw [cols_len] at hj
    refine ⟨cols_get xs j hj, ?_⟩
    have h0 : 0 < xs.length := by
      rcases Nat.eq_zero_or_pos xs.length with h | h
      · have : xs = [] := List.eq_nil_of_length_eq_zero h
        subst this; simp at hj
      · exact h
    have := (dual G h0 (j : Int)).1 (by omega)
    omega
  have hl := G.len
  refine ⟨hlen, fun j hj => by rw [(hg j hj).1]; exact (hg j hj).2, fun j hj => ?_, fun j hj => ?_, by rw [hs]; exact G.sum0, by rw [hs]; exact G.sum⟩
  · rw [(hg j hj).1]
    have := (colH_bound xs j).2
    omega
  · rw [(hg (j + 1) hj).1, (hg j (by omega)).1]
    exact colH_anti xs (by omega)
theorem cols_cols {xs : List Int} (G : Good xs) : cols (cols xs) = xs := by
  have G2 := cols_good G
  have hf := cols_first G
  have hlen : (cols (cols xs)).length = xs.length := by rw [cols_len, hf]; omega
  refine List.ext_getElem? fun j => ?_
  rcases Nat.lt_or_ge j xs.length with hj | hj
  · have e : (cols (cols xs)).getD j 0 = xs.getD j 0 := by
      rw [cols_get _ j (by rw [hf]; omega)]
      have h1 := G.pos j hj
      have h0 := anti_d G (Nat.zero_le j) hj
      rw [colH_eq (cols xs) j (xs.getD j 0).toNat (by rw [cols_len]; omega) (fun c hc => ?_) (fun hc => ?_) G2.down]
      · omega
      · rw [cols_get xs c (by omega)]
        exact (dual G hj (c : Int)).1 (by omega)
      · rw [cols_len] at hc
        rw [cols_get xs _ hc]
        have := (dual G hj (((xs.getD j 0).toNat : Nat) : Int)).2
        omega
    rw [List.getD_eq_getElem?_getD, List.getD_eq_getElem?_getD, List.getElem?_eq_getElem (by omega), List.getElem?_eq_getElem hj] at e
    rw [List.getElem?_eq_getElem (by omega), List.getElem?_eq_getElem hj]
    simpa using e
  · rw [List.getElem?_eq_none (by omega), List.getElem?_eq_none (by omega)]
end Go.Proofs.Ytiebnnchaopbkaa
/-
  Contracts: steps along the border (places, letters).
-/
namespace Go.Proofs.Ytiebnnchaopbkaa
open Go.RowKit

end Go.Proofs.Ytiebnnchaopbkaa
/-
  Contracts: how many parts are greater than a number.
-/
namespace Go.Proofs.Ytiebnnchaopbkaa
open Go.RowKit

def ind (c x : Int) : Int := if c < x then 1 else 0
theorem colH_ind (xs : List Int) (c : Int) : colH xs c = (xs.map (ind c)).sum := rfl

set_option maxHeartbeats 400000 in
theorem ind_any (x c : Int) (g : Nat) (w : World) (hg : w.cell? ⟨g, 0, none⟩ = some (.int .i64 c)) :
    Calls Try.prog 93 #[.int .i64 x, .pointer (some ⟨g, 0, none⟩)] w fun e w' => e = .returned (.int .i64 (ind c x)) ∧ w = w' := by
  by_cases h : c < x
  · have hi : ind c x = 1 := by simp [ind, h]
    rw [hi]; clear hi
    go_enter Try.func93, Try.ntmps93
    go_wp2
    go_ret
    exact ⟨rfl, rfl⟩
  · have hi : ind c x = 0 := by simp [ind, h]
    rw [hi]; clear hi
    go_enter Try.func93, Try.ntmps93
    go_wp2
    go_ret
    exact ⟨rfl, rfl⟩

theorem ind_bd (c x : Int) : 0 ≤ ind c x ∧ ind c x ≤ 1 := by unfold ind; split <;> omega
theorem map_get (xs : List Int) (f : Int → Int) (k : Nat) (h : k < xs.length) : (xs.map f).getD k 0 = f (xs.getD k 0) := by
  rw [List.getD_eq_getElem?_getD, List.getElem?_map, List.getD_eq_getElem?_getD, List.getElem?_eq_getElem h]; rfl

set_option maxHeartbeats 400000 in
theorem sumInd_any (A : Option Addr) (xs : List Int) (c : Nat) (cc : Int) (g : Nat) (w : World) (hl : xs.length ≤ 30) (hc : Cells w A xs) (hg : w.cell? ⟨g, 0, none⟩ = some (.int .i64 cc)) :
    Calls Try.prog 35 #[.slice A xs.length c, .func (.func 93) #[] #[.pointer (some ⟨g, 0, none⟩)]] w fun e w' => e = .returned (.int .i64 (colH xs cc)) ∧ w = w' := by
  go_enter Try.func35, Try.ntmps35
  go_wp2_with fail
  go_loop [5, 10] (fun s i => ∃ k : Nat, k ≤ xs.length ∧ i = .int .i64 k ∧ s = .int .i64 ((xs.map (ind cc)).take k).sum) (fun _ i => xs.length - (intOf i).toNat)
  case atStart => exact ⟨0, Nat.zero_le _, rfl, by simp⟩
  case round =>
    obtain ⟨k, hk, rfl, rfl⟩ := hrel
    have hsb := sum_take_bound (xs.map (ind cc)) 1000 (fun j hj => by
      rw [List.length_map] at hj
      rw [map_get xs (ind cc) j hj]
      have := ind_bd cc (xs.getD j 0); omega) (by omega) k
    rw [List.length_map] at hsb
    obtain ⟨s, hs⟩ : ∃ s, s = ((xs.map (ind cc)).take k).sum := ⟨_, rfl⟩
    rw [← hs] at hsb ⊢
    have HS := hid hs; clear hs
    by_cases hlt : k < xs.length
    · obtain ⟨b, o, rfl, hcc⟩ := hc (by omega)
      have hck := hcc k hlt
      have hxb := ind_bd cc (xs.getD k 0)
      clear hcc hc
      have HX := hid (map_get xs (ind cc) k hlt)
      obtain ⟨x, hx⟩ : ∃ x, x = xs.getD k 0 := ⟨_, rfl⟩
      rw [← hx] at hck hxb HX
      clear hx
      go_wp2_with (go_at_call 93; refine (ind_any _ _ _ _ hg).mono ?_; rintro e w' ⟨rfl, rfl⟩)
      go_round
      case rel => exact ⟨k + 1, by omega, by go_num, by rw [sum_take_succ (xs.map (ind cc)) k (by simpa using hlt), ← HS.out, HX.out]⟩
      case measure => simp [intOf]; omega
    · go_wp2_with fail
      go_ret
      exact ⟨ret_int (by rw [HS.out, List.take_of_length_le (by simp; omega), colH_ind]), rfl⟩

set_option maxHeartbeats 400000 in
theorem partsAbove_any (A : Option Addr) (c : Nat) (xs : List Int) (cc : Int) (w : World) (hl : xs.length ≤ 30) (hc : Cells w A xs) :
    Calls Try.prog 91 #[.slice A xs.length c, .int .i64 cc] w fun e w' => e = .returned (.int .i64 (colH xs cc)) ∧ Below w.heap.size w w' := by
  obtain ⟨w2, hw2⟩ : ∃ w2, w2 = w.alloc (.cells #[.int .i64 cc] 3) := ⟨_, rfl⟩
  have b2 : Below w.heap.size w w2 := by rw [hw2]; exact (Below.refl _ _).alloc (Nat.le_refl _) _
  have h1 : w2.cell? ⟨w.heap.size, 0, none⟩ = some (.int .i64 cc) := by
    rw [hw2]; exact cell_one_new w (.int .i64 cc) 3 0 (.int .i64 cc) rfl
  have HS := hid (sumInd_any A xs c cc w.heap.size w2 hl (hc.below b2) h1)
  have HW := hid hw2
  clear hw2 h1
  go_enter Try.func91, Try.ntmps91
  go_wp2_with fail
  rw [← HW.out]
  refine HS.out.mono ?_
  rintro e w3 ⟨rfl, rfl⟩
  go_wp2_with fail
  go_ret
  exact ⟨rfl, b2⟩
end Go.Proofs.Ytiebnnchaopbkaa
