/-
  Several texts in one.
-/
import Derived.Test.YtmiifdedmjfgkaaR01
/-
  Plain facts on what a partition is: the check as the program makes it and as the model makes it. No program in this text.
-/
namespace Go.Proofs.Ytmiifdedmjfgkaa

def inB (lo hi n : Int) : Bool := decide (lo ≤ n) && decide (n ≤ hi)
theorem inB_iff {lo hi n : Int} : inB lo hi n = true ↔ lo ≤ n ∧ n ≤ hi := by simp [inB]

theorem all_take_succ (p : Int → Bool) (xs : List Int) (k : Nat) (h : k < xs.length) : (xs.take (k+1)).all p = ((xs.take k).all p && p (xs.getD k 0)) := by
  rw [List.take_succ_eq_append_getElem h, List.all_append]; simp [List.getD, h]
theorem all_take_false (p : Int → Bool) (xs : List Int) (k : Nat) (h : k < xs.length) (hp : p (xs.getD k 0) = false) : xs.all p = false := by
  rw [List.all_eq_false]
  refine ⟨xs[k], List.getElem_mem h, ?_⟩
  rw [List.getD_eq_getElem?_getD, List.getElem?_eq_getElem h] at hp
  simp only [Option.getD_some] at hp
  rw [hp]; simp
theorem sum_take_succ (xs : List Int) (k : Nat) (h : k < xs.length) : (xs.take (k+1)).sum = (xs.take k).sum + xs.getD k 0 := by
  rw [List.take_succ_eq_append_getElem h, List.sum_append]; simp [List.getD, h]
theorem sum_bound (xs : List Int) (hi : Int) (h : ∀ j, j < xs.length → 0 ≤ xs.getD j 0 ∧ xs.getD j 0 ≤ hi) : 0 ≤ xs.sum ∧ xs.sum ≤ xs.length * hi := by
  induction xs with
  | nil => simp
  | cons x t ih =>
    have h0 := h 0 (by simp)
    have ht := ih (fun j hj => by have := h (j + 1) (by simp; omega); simpa using this)
    simp only [List.getD_cons_zero] at h0
    simp only [List.sum_cons, List.length_cons]
    rw [show ((t.length + 1 : Nat) : Int) * hi = t.length * hi + hi from by rw [Int.natCast_add, Int.add_mul]; simp]
    omega
theorem sum_take_bound (xs : List Int) (hi : Int) (h : ∀ j, j < xs.length → 0 ≤ xs.getD j 0 ∧ xs.getD j 0 ≤ hi) (h0 : 0 ≤ hi) (k : Nat) : 0 ≤ (xs.take k).sum ∧ (xs.take k).sum ≤ xs.length * hi := by
  have := sum_bound (xs.take k) hi (fun j hj => by
    have hj' : j < k ∧ j < xs.length := by rw [List.length_take] at hj; omega
    have := h j hj'.2
    rw [List.getD_eq_getElem?_getD, List.getElem?_take, if_pos hj'.1, ← List.getD_eq_getElem?_getD]
    exact this)
  have hl : (xs.take k).length ≤ xs.length := by simp; omega
  have : ((xs.take k).length : Int) * hi ≤ xs.length * hi := Int.mul_le_mul_of_nonneg_right (by omega) h0
  omega

/-- The check of the parts, one after the other, each at most the one before. -/
def chk : Int → List Int → Bool
  | _, [] => true
  | m, x :: t => decide (1 ≤ x) && (decide (x ≤ m) && chk x t)
def good (xs : List Int) : Bool := decide (xs.length ≤ 30) && (chk 30 xs && decide (xs.sum ≤ 30))

theorem drop_cons (xs : List Int) (k : Nat) (h : k < xs.length) : xs.drop k = xs.getD k 0 :: xs.drop (k + 1) := by
  rw [List.drop_eq_getElem_cons h]; simp [List.getD, h]
theorem chk_step (xs : List Int) (k : Nat) (m : Int) (h : k < xs.length) : chk m (xs.drop k) = (decide (1 ≤ xs.getD k 0) && (decide (xs.getD k 0 ≤ m) && chk (xs.getD k 0) (xs.drop (k + 1)))) := by
  rw [drop_cons xs k h, chk]

theorem chk_iff (m : Int) (xs : List Int) : chk m xs = true ↔ (∀ j, j < xs.length → 1 ≤ xs.getD j 0) ∧ (0 < xs.length → xs.getD 0 0 ≤ m) ∧ (∀ j, j + 1 < xs.length → xs.getD (j + 1) 0 ≤ xs.getD j 0) := by
  induction xs generalizing m with
  | nil => simp [chk]
  | cons x t ih =>
    simp only [chk, Bool.and_eq_true, decide_eq_true_eq, ih x, List.length_cons]
    constructor
    · rintro ⟨h1, h2, h3, h4, h5⟩
      refine ⟨fun j hj => ?_, fun _ => by simpa using h2, fun j hj => ?_⟩
      · cases j with
        | zero => simpa using h1
        | succ j => simpa using h3 j (by omega)
      · cases j with
        | zero => simpa using h4 (by omega)
        | succ j => simpa using h5 j (by omega)
    · rintro ⟨h1, h2, h3⟩
      refine ⟨by simpa using h1 0 (by omega), by simpa using h2 (by omega), fun j hj => ?_, fun h0 => ?_, fun j hj => ?_⟩
      · simpa using h1 (j + 1) (by omega)
      · simpa using h3 0 (by omega)
      · simpa using h3 (j + 1) (by omega)

theorem down_le (xs : List Int) (h : ∀ j, j + 1 < xs.length → xs.getD (j + 1) 0 ≤ xs.getD j 0) (i : Nat) : ∀ d, i + d < xs.length → xs.getD (i + d) 0 ≤ xs.getD i 0 := by
  intro d
  induction d with
  | zero => intro _; simp
  | succ d ih => intro hd; have := ih (by omega); have := h (i + d) (by omega); rw [show i + (d + 1) = i + d + 1 by omega]; omega

structure Good (xs : List Int) : Prop where
  len : xs.length ≤ 30
  pos : ∀ j, j < xs.length → 1 ≤ xs.getD j 0
  le : ∀ j, j < xs.length → xs.getD j 0 ≤ 30
  down : ∀ j, j + 1 < xs.length → xs.getD (j + 1) 0 ≤ xs.getD j 0
  sum0 : 0 ≤ xs.sum
  sum : xs.sum ≤ 30

theorem chk_parts {xs : List Int} (h : chk 30 xs = true) : (∀ j, j < xs.length → 1 ≤ xs.getD j 0) ∧ (∀ j, j < xs.length → xs.getD j 0 ≤ 30) ∧ (∀ j, j + 1 < xs.length → xs.getD (j + 1) 0 ≤ xs.getD j 0) := by
  obtain ⟨h1, h2, h3⟩ := (chk_iff 30 xs).1 h
  refine ⟨h1, fun j hj => ?_, h3⟩
  have := down_le xs h3 0 j (by omega)
  have := h2 (by omega)
  rw [Nat.zero_add] at *
  omega
theorem chk_of {xs : List Int} (h1 : xs.all (inB 1 30) = true) (h3 : ∀ j, j + 1 < xs.length → xs.getD (j + 1) 0 ≤ xs.getD j 0) : chk 30 xs = true := by
  have hh : ∀ j, j < xs.length → inB 1 30 (xs.getD j 0) = true := fun j hj => by
    rw [List.all_eq_true] at h1
    exact h1 _ (by rw [List.getD_eq_getElem?_getD, List.getElem?_eq_getElem hj]; exact List.getElem_mem hj)
  exact (chk_iff 30 xs).2 ⟨fun j hj => (inB_iff.1 (hh j hj)).1, fun h0 => (inB_iff.1 (hh 0 h0)).2, h3⟩
theorem all_of_chk {xs : List Int} (h : chk 30 xs = true) : xs.all (inB 1 30) = true := by
  obtain ⟨h1, h2, _⟩ := chk_parts h
  rw [List.all_eq_true]
  intro x hx
  obtain ⟨j, hj, rfl⟩ := List.getElem_of_mem hx
  have a := h1 j hj
  have b := h2 j hj
  rw [List.getD_eq_getElem?_getD, List.getElem?_eq_getElem hj] at a b
  exact inB_iff.2 ⟨a, b⟩
theorem good_iff (xs : List Int) : good xs = true ↔ Good xs := by
  constructor
  · intro h
    simp only [good, Bool.and_eq_true, decide_eq_true_eq] at h
    obtain ⟨h1, h2, h3⟩ := h
    obtain ⟨a, b, c⟩ := chk_parts h2
    exact ⟨h1, a, b, c, (sum_bound xs 30 (fun j hj => ⟨by have := a j hj; omega, b j hj⟩)).1, h3⟩
  · intro h
    simp only [good, Bool.and_eq_true, decide_eq_true_eq]
    refine ⟨h.len, (chk_iff 30 xs).2 ⟨h.pos, fun h0 => h.le 0 h0, h.down⟩, h.sum⟩
theorem good_no_len {xs : List Int} (h : 30 < xs.length) : good xs = false := by
  simp only [good]; rw [decide_eq_false (by omega)]; rfl
theorem good_no_chk {xs : List Int} (h : chk 30 xs = false) : good xs = false := by simp [good, h]
theorem good_chk {xs : List Int} (h1 : xs.length ≤ 30) (h : chk 30 xs = true) : good xs = decide (xs.sum ≤ 30) := by simp [good, h, h1]
theorem not_all_chk {xs : List Int} (h : xs.all (inB 1 30) = false) : chk 30 xs = false := by
  cases hc : chk 30 xs
  · rfl
  · rw [all_of_chk hc] at h; cases h
theorem not_down_chk {xs : List Int} {k : Nat} (hk : k + 1 < xs.length) (h : xs.getD k 0 < xs.getD (k + 1) 0) : chk 30 xs = false := by
  cases hc : chk 30 xs
  · rfl
  · have := (chk_parts hc).2.2 k hk; omega
theorem all_bounds {xs : List Int} (h : xs.all (inB 1 30) = true) : ∀ j, j < xs.length → 0 ≤ xs.getD j 0 ∧ xs.getD j 0 ≤ 30 := by
  intro j hj
  rw [List.all_eq_true] at h
  have := inB_iff.1 (h _ (by rw [List.getD_eq_getElem?_getD, List.getElem?_eq_getElem hj]; exact List.getElem_mem hj) : inB 1 30 (xs.getD j 0) = true)
  omega
end Go.Proofs.Ytmiifdedmjfgkaa
/-
  The contracts of what tells whether a list is a partition: the program's IsPartition and the model's, with the sums that they make.
-/
namespace Go.Proofs.Ytmiifdedmjfgkaa
open Go.RowKit

set_option maxHeartbeats 400000 in
theorem l1In_any (n lo hi : Int) (w : World) :
    Calls Try.prog 34 #[.int .i64 n, .int .i64 lo, .int .i64 hi] w fun e w' => e = .returned (.bool (inB lo hi n)) ∧ w = w' := by
  by_cases h1 : lo ≤ n
  · by_cases h2 : n ≤ hi
    · go_enter Try.func34, Try.ntmps34
      go_wp2
      go_ret
      exact ⟨by simp [inB, h1, h2], rfl⟩
    · go_enter Try.func34, Try.ntmps34
      go_wp2
      go_ret
      exact ⟨by simp [inB]; omega, rfl⟩
  · go_enter Try.func34, Try.ntmps34
    go_wp2
    go_ret
    exact ⟨by simp [inB]; omega, rfl⟩
theorem l1In_b (n lo hi : Int) (w : World) (b : Bool) (h : inB lo hi n = b) :
    Calls Try.prog 34 #[.int .i64 n, .int .i64 lo, .int .i64 hi] w fun e w' => e = .returned (.bool b) ∧ w = w' := by
  subst h; exact l1In_any n lo hi w

set_option maxHeartbeats 400000 in
theorem l1All_any (A : Option Addr) (xs : List Int) (c : Nat) (lo hi : Int) (w : World) (hl : xs.length ≤ 1048576) (hc : Cells w A xs) :
    Calls Try.prog 40 #[.slice A xs.length c, .int .i64 lo, .int .i64 hi] w fun e w' => e = .returned (.bool (xs.all (inB lo hi))) ∧ w = w' := by
  go_enter Try.func40, Try.ntmps40
  go_wp2
  go_loop [11] (fun i => ∃ k : Nat, k ≤ xs.length ∧ i = .int .i64 k ∧ (xs.take k).all (inB lo hi) = true) (fun i => xs.length - (intOf i).toNat)
  case atStart => exact ⟨0, Nat.zero_le _, rfl, by simp⟩
  case round =>
    obtain ⟨k, hk, rfl, hall⟩ := hrel
    have HA := hid hall; clear hall
    by_cases hlt : k < xs.length
    · obtain ⟨b, o, rfl, hcc⟩ := hc (by omega)
      have hck := hcc k hlt
      clear hcc hc
      obtain ⟨x, hx⟩ : ∃ x, x = xs.getD k 0 := ⟨_, rfl⟩
      rw [← hx] at hck
      have HS := hid (all_take_succ (inB lo hi) xs k hlt)
      have HX := hid hx; clear hx
      cases hin : inB lo hi x
      · have HI := hid hin; clear hin
        go_wp2_with (go_at_call 34; refine (l1In_b _ _ _ _ _ HI.out).mono ?_; rintro e w' ⟨rfl, rfl⟩)
        go_ret
        exact ⟨ret_bool (all_take_false (inB lo hi) xs k hlt (by rw [← HX.out]; exact HI.out)).symm, rfl⟩
      · have HI := hid hin; clear hin
        go_wp2_with (go_at_call 34; refine (l1In_b _ _ _ _ _ HI.out).mono ?_; rintro e w' ⟨rfl, rfl⟩)
        go_round
        case rel => exact ⟨k + 1, by omega, by go_num, by rw [HS.out, HA.out, ← HX.out, HI.out]; rfl⟩
        case measure => simp [intOf]; omega
    · go_wp2
      go_ret
      exact ⟨ret_bool (by rw [← HA.out, List.take_of_length_le (by omega)]), rfl⟩
theorem l1All_b (A : Option Addr) (xs : List Int) (c : Nat) (lo hi : Int) (w : World) (hl : xs.length ≤ 1048576) (hc : Cells w A xs) (b : Bool) (h : xs.all (inB lo hi) = b) :
    Calls Try.prog 40 #[.slice A xs.length c, .int .i64 lo, .int .i64 hi] w fun e w' => e = .returned (.bool b) ∧ w = w' := by
  subst h; exact l1All_any A xs c lo hi w hl hc

set_option maxHeartbeats 400000 in
theorem ptSum_any (A : Option Addr) (xs : List Int) (c : Nat) (w : World) (hl : xs.length ≤ 30) (hb : ∀ j, j < xs.length → 0 ≤ xs.getD j 0 ∧ xs.getD j 0 ≤ 1000) (hc : Cells w A xs) :
    Calls Try.prog 41 #[.slice A xs.length c] w fun e w' => e = .returned (.int .i64 xs.sum) ∧ w = w' := by
  have HB := hid hb; clear hb
  go_enter Try.func41, Try.ntmps41
  go_wp2
  go_loop [3, 8] (fun s i => ∃ k : Nat, k ≤ xs.length ∧ i = .int .i64 k ∧ s = .int .i64 (xs.take k).sum) (fun _ i => xs.length - (intOf i).toNat)
  case atStart => exact ⟨0, Nat.zero_le _, rfl, by simp⟩
  case round =>
    obtain ⟨k, hk, rfl, rfl⟩ := hrel
    have hsb := sum_take_bound xs 1000 HB.out (by omega) k
    obtain ⟨s, hs⟩ : ∃ s, s = (xs.take k).sum := ⟨_, rfl⟩
    rw [← hs] at hsb ⊢
    have HS := hid hs; clear hs
    by_cases hlt : k < xs.length
    · obtain ⟨b, o, rfl, hcc⟩ := hc (by omega)
      have hck := hcc k hlt
      have hxb := HB.out k hlt
      clear hcc hc
      obtain ⟨x, hx⟩ : ∃ x, x = xs.getD k 0 := ⟨_, rfl⟩
      rw [← hx] at hck hxb
      have HX := hid hx; clear hx
      go_wp2
      go_round
      case rel => exact ⟨k + 1, by omega, by go_num, by rw [sum_take_succ xs k hlt, ← HS.out, ← HX.out]⟩
      case measure => simp [intOf]; omega
    · go_wp2
      go_ret
      exact ⟨ret_int (by rw [HS.out, List.take_of_length_le (by omega)]), rfl⟩

set_option maxHeartbeats 400000 in
theorem ptGood_any (A : Option Addr) (xs : List Int) (c : Nat) (w : World) (hl : xs.length ≤ 1048576) (hc : Cells w A xs) :
    Calls Try.prog 27 #[.slice A xs.length c] w fun e w' => e = .returned (.bool (good xs)) ∧ ∃ n, w' = w.drewN n := by
  by_cases h30 : 30 < xs.length
  · rw [good_no_len h30]
    go_enter Try.func27, Try.ntmps27
    go_wp2_with fail
    go_ret
    exact ⟨rfl, 0, rfl⟩
  cases ha : xs.all (inB 1 30)
  · rw [good_no_chk (not_all_chk ha)]
    have HA := hid ha; clear ha
    go_enter Try.func27, Try.ntmps27
    go_wp2_with (go_at_call 40; refine (l1All_b _ _ _ _ _ _ hl hc _ HA.out).mono ?_; rintro e w' ⟨rfl, rfl⟩)
    go_ret
    exact ⟨rfl, 0, rfl⟩
  · have HA := hid ha; clear ha
    go_enter Try.func27, Try.ntmps27
    go_wp2_with (go_at_call 40; refine (l1All_b _ _ _ _ _ _ hl hc _ HA.out).mono ?_; rintro e w' ⟨rfl, rfl⟩)
    go_loopw [3] (fun i wr => ∃ k : Nat, 1 ≤ k ∧ (k ≤ xs.length ∨ k = 1) ∧ i = .int .i64 k ∧ (∀ j, j + 1 < k → xs.getD (j + 1) 0 ≤ xs.getD j 0) ∧ ∃ n, wr = w.drewN n) (fun i _ => xs.length - (intOf i).toNat)
    case atStart => exact ⟨1, Nat.le_refl _, .inr rfl, rfl, fun j hj => by omega, 0, rfl⟩
    case round =>
      obtain ⟨k, hk1, hk, rfl, hdn, n, rfl⟩ := hrel
      have HK := hid hk; clear hk
      have HD := hid hdn; clear hdn
      by_cases hlt : k < xs.length
      · obtain ⟨b, o, rfl, hcc⟩ := hc (by omega)
        have hck := hcc k hlt
        have hck1 := hcc (k - 1) (by omega)
        have hek : ((k : Int) - 1).toNat = k - 1 := by omega
        clear hcc
        obtain ⟨x, hx⟩ : ∃ x, x = xs.getD k 0 := ⟨_, rfl⟩
        obtain ⟨y, hy⟩ : ∃ y, y = xs.getD (k - 1) 0 := ⟨_, rfl⟩
        rw [← hx] at hck
        rw [← hy] at hck1
        have HX := hid hx; clear hx
        have HY := hid hy; clear hy
        by_cases hle : x ≤ y
        · go_wp2_with fail
          go_quiet (fail)
          go_wp2_with fail
          go_roundw
          case rel =>
            refine ⟨k + 1, by omega, .inl (by omega), by go_num, fun j hj => ?_, _, rfl⟩
            by_cases hjk : j + 1 < k
            · exact HD.out j hjk
            · have : j = k - 1 := by omega
              subst this
              rw [show k - 1 + 1 = k by omega, ← HX.out, ← HY.out]; exact hle
          case measure => simp [intOf]; omega
        · go_wp2_with fail
          go_quiet (fail)
          go_wp2_with fail
          go_ret
          refine ⟨ret_bool (good_no_chk (not_down_chk (k := k - 1) (by omega) ?_)).symm, drew2 _ _⟩
          rw [show k - 1 + 1 = k by omega, ← HX.out, ← HY.out]; omega
      · go_wp2_with (go_at_call 41; refine (ptSum_any _ _ _ _ (by omega) (fun j hj => by have := all_bounds HA.out j hj; omega) (by exact hc)).mono ?_; rintro e w' ⟨rfl, rfl⟩)
        go_ret
        refine ⟨ret_bool ?_, n, rfl⟩
        rw [good_chk (by omega) (chk_of HA.out fun j hj => HD.out j (by rcases HK.out with h | h <;> omega))]
theorem ptGood_b (A : Option Addr) (xs : List Int) (c : Nat) (w : World) (hl : xs.length ≤ 1048576) (hc : Cells w A xs) (b : Bool) (h : good xs = b) :
    Calls Try.prog 27 #[.slice A xs.length c] w fun e w' => e = .returned (.bool b) ∧ ∃ n, w' = w.drewN n := by
  subst h; exact ptGood_any A xs c w hl hc
end Go.Proofs.Ytmiifdedmjfgkaa
