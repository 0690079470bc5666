/-
  Several texts in one.
-/
import Derived.Test.YtmiifdedmjfgkaaR02
import Derived.Test.YtmiifdedmjfgkaaR03
/-
  Plain facts on the columns of a partition. No program in this text.
-/
namespace Go.Proofs.Ytmiifdedmjfgkaa

/-- How many parts are greater than c. -/
def colH (xs : List Int) (c : Int) : Int := (xs.map fun x => if c < x then (1 : Int) else 0).sum
def cols (xs : List Int) : List Int := (List.range (xs.getD 0 0).toNat).map fun c : Nat => colH xs (c : Int)
def conjF (xs : List Int) : List Int := if good xs then cols xs else []

theorem sum_ones (xs : List Int) (c : Int) (h : ∀ j, j < xs.length → c < xs.getD j 0) : colH xs c = xs.length := by
  induction xs with
  | nil => rfl
  | cons x t ih =>
    have h0 := h 0 (by simp)
    simp only [List.getD_cons_zero] at h0
    have := ih (fun j hj => by have := h (j + 1) (by simp; omega); simpa using this)
    unfold colH at this ⊢
    simp only [List.map_cons, List.sum_cons, this, if_pos h0, List.length_cons]
    omega
theorem sum_zeros (xs : List Int) (c : Int) (h : ∀ j, j < xs.length → xs.getD j 0 ≤ c) : colH xs c = 0 := by
  induction xs with
  | nil => rfl
  | cons x t ih =>
    have h0 := h 0 (by simp)
    simp only [List.getD_cons_zero] at h0
    have := ih (fun j hj => by have := h (j + 1) (by simp; omega); simpa using this)
    unfold colH at this ⊢
    simp only [List.map_cons, List.sum_cons, this, if_neg (show ¬ c < x by omega)]
    omega
theorem colH_append (xs ys : List Int) (c : Int) : colH (xs ++ ys) c = colH xs c + colH ys c := by simp [colH]
theorem getD_take (xs : List Int) (n j : Nat) (h : j < n) : (xs.take n).getD j 0 = xs.getD j 0 := by
  rw [List.getD_eq_getElem?_getD, List.getElem?_take, if_pos h, ← List.getD_eq_getElem?_getD]
theorem getD_drop (xs : List Int) (n j : Nat) : (xs.drop n).getD j 0 = xs.getD (n + j) 0 := by
  rw [List.getD_eq_getElem?_getD, List.getElem?_drop, ← List.getD_eq_getElem?_getD]
theorem colH_eq (xs : List Int) (c : Int) (n : Nat) (hn : n ≤ xs.length) (h1 : ∀ j, j < n → c < xs.getD j 0) (h2 : n < xs.length → xs.getD n 0 ≤ c)
    (hd : ∀ j, j + 1 < xs.length → xs.getD (j + 1) 0 ≤ xs.getD j 0) : colH xs c = n := by
  rw [← List.take_append_drop n xs, colH_append, sum_ones (xs.take n) c (fun j hj => ?_), sum_zeros (xs.drop n) c (fun j hj => ?_)]
  · rw [List.length_take]; omega
  · rw [List.length_drop] at hj
    rw [getD_drop]
    have := down_le xs hd n j (by omega)
    have := h2 (by omega)
    omega
  · rw [List.length_take] at hj
    rw [getD_take xs n j (by omega)]; exact h1 j (by omega)
theorem colH_bound (xs : List Int) (c : Int) : 0 ≤ colH xs c ∧ colH xs c ≤ xs.length := by
  induction xs with
  | nil => simp [colH]
  | cons x t ih =>
    unfold colH at ih ⊢
    simp only [List.map_cons, List.sum_cons, List.length_cons]
    split <;> omega
theorem cols_len (xs : List Int) : (cols xs).length = (xs.getD 0 0).toNat := by simp [cols]
theorem cols_get (xs : List Int) (k : Nat) (h : k < (xs.getD 0 0).toNat) : (cols xs).getD k 0 = colH xs k := by
  rw [List.getD_eq_getElem?_getD, cols, List.getElem?_map, List.getElem?_range h]; rfl
theorem bound_ConjugateOf (xs : List Int) : (conjF xs).length ≤ 1048576 := by
  unfold conjF
  split
  · rename_i h
    have G := (good_iff xs).1 h
    rw [cols_len]
    rcases Nat.eq_zero_or_pos xs.length with h0 | h0
    · rw [List.getD_eq_getElem?_getD, List.getElem?_eq_none (by omega)]; simp
    · have := G.le 0 h0; omega
  · simp
theorem conjF_t {xs : List Int} (h : good xs = true) : conjF xs = cols xs := by simp [conjF, h]
theorem conjF_f {xs : List Int} (h : good xs = false) : conjF xs = [] := by simp [conjF, h]
end Go.Proofs.Ytmiifdedmjfgkaa
/-
  Contracts: how many parts are greater than a number.
-/
namespace Go.Proofs.Ytmiifdedmjfgkaa
open Go.RowKit

def ind (c x : Int) : Int := if c < x then 1 else 0
theorem colH_ind (xs : List Int) (c : Int) : colH xs c = (xs.map (ind c)).sum := rfl

set_option maxHeartbeats 400000 in
theorem ind_any (x c : Int) (g : Nat) (w : World) (hg : w.cell? ⟨g, 0, none⟩ = some (.int .i64 c)) :
    Calls Try.prog 49 #[.int .i64 x, .pointer (some ⟨g, 0, none⟩)] w fun e w' => e = .returned (.int .i64 (ind c x)) ∧ w = w' := by
  by_cases h : c < x
  · have hi : ind c x = 1 := by simp [ind, h]
    rw [hi]; clear hi
    go_enter Try.func49, Try.ntmps49
    go_wp2
    go_ret
    exact ⟨rfl, rfl⟩
  · have hi : ind c x = 0 := by simp [ind, h]
    rw [hi]; clear hi
    go_enter Try.func49, Try.ntmps49
    go_wp2
    go_ret
    exact ⟨rfl, rfl⟩

theorem ind_bd (c x : Int) : 0 ≤ ind c x ∧ ind c x ≤ 1 := by unfold ind; split <;> omega
theorem map_get (xs : List Int) (f : Int → Int) (k : Nat) (h : k < xs.length) : (xs.map f).getD k 0 = f (xs.getD k 0) := by
  rw [List.getD_eq_getElem?_getD, List.getElem?_map, List.getD_eq_getElem?_getD, List.getElem?_eq_getElem h]; rfl

set_option maxHeartbeats 400000 in
theorem sumInd_any (A : Option Addr) (xs : List Int) (c : Nat) (cc : Int) (g : Nat) (w : World) (hl : xs.length ≤ 30) (hc : Cells w A xs) (hg : w.cell? ⟨g, 0, none⟩ = some (.int .i64 cc)) :
    Calls Try.prog 48 #[.slice A xs.length c, .func (.func 49) #[] #[.pointer (some ⟨g, 0, none⟩)]] w fun e w' => e = .returned (.int .i64 (colH xs cc)) ∧ w = w' := by
  go_enter Try.func48, Try.ntmps48
  go_wp2_with fail
  go_loop [5, 10] (fun s i => ∃ k : Nat, k ≤ xs.length ∧ i = .int .i64 k ∧ s = .int .i64 ((xs.map (ind cc)).take k).sum) (fun _ i => xs.length - (intOf i).toNat)
  case atStart => exact ⟨0, Nat.zero_le _, rfl, by simp⟩
  case round =>
    obtain ⟨k, hk, rfl, rfl⟩ := hrel
    have hsb := sum_take_bound (xs.map (ind cc)) 1000 (fun j hj => by
      rw [List.length_map] at hj
      rw [map_get xs (ind cc) j hj]
      have := ind_bd cc (xs.getD j 0); omega) (by omega) k
    rw [List.length_map] at hsb
    obtain ⟨s, hs⟩ : ∃ s, s = ((xs.map (ind cc)).take k).sum := ⟨_, rfl⟩
    rw [← hs] at hsb ⊢
    have HS := hid hs; clear hs
    by_cases hlt : k < xs.length
    · obtain ⟨b, o, rfl, hcc⟩ := hc (by omega)
      have hck := hcc k hlt
      have hxb := ind_bd cc (xs.getD k 0)
      clear hcc hc
      have HX := hid (map_get xs (ind cc) k hlt)
      obtain ⟨x, hx⟩ : ∃ x, x = xs.getD k 0 := ⟨_, rfl⟩
      rw [← hx] at hck hxb HX
      clear hx
      go_wp2_with (go_at_call 49; refine (ind_any _ _ _ _ hg).mono ?_; rintro e w' ⟨rfl, rfl⟩)
      go_round
      case rel => exact ⟨k + 1, by omega, by go_num, by rw [sum_take_succ (xs.map (ind cc)) k (by simpa using hlt), ← HS.out, HX.out]⟩
      case measure => simp [intOf]; omega
    · go_wp2_with fail
      go_ret
      exact ⟨ret_int (by rw [HS.out, List.take_of_length_le (by simp; omega), colH_ind]), rfl⟩

set_option maxHeartbeats 400000 in
theorem partsAbove_any (A : Option Addr) (c : Nat) (xs : List Int) (cc : Int) (w : World) (hl : xs.length ≤ 30) (hc : Cells w A xs) :
    Calls Try.prog 39 #[.slice A xs.length c, .int .i64 cc] w fun e w' => e = .returned (.int .i64 (colH xs cc)) ∧ Below w.heap.size w w' := by
  obtain ⟨w2, hw2⟩ : ∃ w2, w2 = w.alloc (.cells #[.int .i64 cc] 3) := ⟨_, rfl⟩
  have b2 : Below w.heap.size w w2 := by rw [hw2]; exact (Below.refl _ _).alloc (Nat.le_refl _) _
  have h1 : w2.cell? ⟨w.heap.size, 0, none⟩ = some (.int .i64 cc) := by
    rw [hw2]; exact cell_one_new w (.int .i64 cc) 3 0 (.int .i64 cc) rfl
  have HS := hid (sumInd_any A xs c cc w.heap.size w2 hl (hc.below b2) h1)
  have HW := hid hw2
  clear hw2 h1
  go_enter Try.func39, Try.ntmps39
  go_wp2_with fail
  rw [← HW.out]
  refine HS.out.mono ?_
  rintro e w3 ⟨rfl, rfl⟩
  go_wp2_with fail
  go_ret
  exact ⟨rfl, b2⟩
end Go.Proofs.Ytmiifdedmjfgkaa
