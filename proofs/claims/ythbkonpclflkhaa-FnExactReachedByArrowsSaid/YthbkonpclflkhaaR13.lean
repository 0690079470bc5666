/-
  Several texts in one.
-/
import Derived.Test.YthbkonpclflkhaaR05
/-
  Contracts: cmp.Compare, slices.Compare, cmp.Or at ints; the two orders of partitions.
-/
namespace Go.Proofs.Ythbkonpclflkhaa
open Go.RowKit

def cmpI (x y : Int) : Int := if x < y then -1 else if y < x then 1 else 0
def cmpL : List Int → List Int → Int
  | [], [] => 0
  | [], _ :: _ => -1
  | _ :: _, [] => 1
  | x :: p, y :: q => if x < y then -1 else if y < x then 1 else cmpL p q
theorem cmpL_drop (p q : List Int) (k : Nat) (h1 : k < p.length) (h2 : k < q.length) : cmpL (p.drop k) (q.drop k) = if p.getD k 0 < q.getD k 0 then -1 else if q.getD k 0 < p.getD k 0 then 1 else cmpL (p.drop (k + 1)) (q.drop (k + 1)) := by
  have e1 : p.drop k = p.getD k 0 :: p.drop (k + 1) := by rw [List.drop_eq_getElem_cons h1, List.getD_eq_getElem?_getD, List.getElem?_eq_getElem h1]; rfl
  have e2 : q.drop k = q.getD k 0 :: q.drop (k + 1) := by rw [List.drop_eq_getElem_cons h2, List.getD_eq_getElem?_getD, List.getElem?_eq_getElem h2]; rfl
  rw [e1, e2, cmpL]
theorem cmpL_long (p q : List Int) (k : Nat) (h1 : k < p.length) (h2 : q.length ≤ k) : cmpL (p.drop k) (q.drop k) = 1 := by
  rw [List.drop_eq_getElem_cons h1, List.drop_eq_nil_of_le h2]; rfl
theorem cmpL_end (p q : List Int) (k : Nat) (h1 : p.length ≤ k) : cmpL (p.drop k) (q.drop k) = if k < q.length then -1 else 0 := by
  rw [List.drop_eq_nil_of_le h1]
  split
  · rename_i h; rw [List.drop_eq_getElem_cons h]; rfl
  · rw [List.drop_eq_nil_of_le (by omega)]; rfl

set_option maxHeartbeats 400000 in
theorem isNaN_any (x : Int) (w : World) : Calls Try.prog 214 #[.int .i64 x] w fun e w' => e = .returned (.bool false) ∧ w = w' := by
  go_enter Try.func214, Try.ntmps214
  go_wp2_with fail
  go_ret
  exact ⟨ret_bool (by simp), rfl⟩
set_option maxHeartbeats 400000 in
theorem cmp_any (x y : Int) (w : World) : Calls Try.prog 206 #[.int .i64 x, .int .i64 y] w fun e w' => e = .returned (.int .i64 (cmpI x y)) ∧ w = w' := by
  unfold cmpI
  by_cases h1 : x < y
  · rw [if_pos h1]
    go_enter Try.func206, Try.ntmps206
    go_wp2_with (go_at_call 214; refine (isNaN_any _ _).mono ?_; rintro e w' ⟨rfl, rfl⟩)
    go_ret
    exact ⟨rfl, rfl⟩
  rw [if_neg h1]
  by_cases h2 : y < x
  · rw [if_pos h2]
    go_enter Try.func206, Try.ntmps206
    go_wp2_with (go_at_call 214; refine (isNaN_any _ _).mono ?_; rintro e w' ⟨rfl, rfl⟩)
    go_ret
    exact ⟨rfl, rfl⟩
  · rw [if_neg h2]
    go_enter Try.func206, Try.ntmps206
    go_wp2_with (go_at_call 214; refine (isNaN_any _ _).mono ?_; rintro e w' ⟨rfl, rfl⟩)
    go_ret
    exact ⟨rfl, rfl⟩
theorem cmp_v (x y : Int) (v : Int) (h : cmpI x y = v) (w : World) : Calls Try.prog 206 #[.int .i64 x, .int .i64 y] w fun e w' => e = .returned (.int .i64 v) ∧ w = w' := by
  subst h; exact cmp_any x y w

set_option maxRecDepth 100000 in
set_option maxHeartbeats 2000000 in
theorem slCompare_any (A B : Option Addr) (c d : Nat) (xs ys : List Int) (w : World) (hl : xs.length ≤ 1048576) (hl2 : ys.length ≤ 1048576) (hA : Cells w A xs) (hB : Cells w B ys) :
    Calls Try.prog 182 #[.slice A xs.length c, .slice B ys.length d] w fun e w' => e = .returned (.int .i64 (cmpL xs ys)) ∧ w = w' := by
  have HR := hid (show cmpL xs ys = cmpL (xs.drop 0) (ys.drop 0) from rfl)
  obtain ⟨R, hR⟩ : ∃ R, R = cmpL xs ys := ⟨_, rfl⟩
  rw [← hR] at HR ⊢
  clear hR
  go_enter Try.func182, Try.ntmps182
  go_wp2_with fail
  go_loop [11] (fun i => ∃ k : Nat, k ≤ xs.length ∧ i = .int .i64 k ∧ Hid (k ≤ ys.length ∧ R = cmpL (xs.drop k) (ys.drop k))) (fun i => xs.length - (intOf i).toNat)
  case atStart => exact ⟨0, Nat.zero_le _, rfl, hid ⟨Nat.zero_le _, HR.out⟩⟩
  case round =>
    obtain ⟨k, hk, rfl, HE⟩ := hrel
    by_cases hlt : k < xs.length
    · obtain ⟨b, o, rfl, hcc⟩ := hA (by omega)
      have hck := hcc k hlt
      by_cases hlt2 : k < ys.length
      · obtain ⟨b2, o2, rfl, hcc2⟩ := hB (by omega)
        have hck2 := hcc2 k hlt2
        have HD := hid (HE.out.2.trans (cmpL_drop xs ys k hlt hlt2))
        clear hcc hcc2
        obtain ⟨x, hx⟩ : ∃ x, x = xs.getD k 0 := ⟨_, rfl⟩
        obtain ⟨y, hy⟩ : ∃ y, y = ys.getD k 0 := ⟨_, rfl⟩
        rw [← hx] at hck HD
        rw [← hy] at hck2 HD
        clear hx hy
        by_cases h1 : x < y
        · have HC := hid (show cmpI x y = -1 by unfold cmpI; rw [if_pos h1])
          have HF := hid (show R = -1 by rw [HD.out, if_pos h1])
          go_wp2_with (go_at_call 206; refine (cmp_v _ _ _ HC.out _).mono ?_; rintro e w' ⟨rfl, rfl⟩)
          go_ret
          exact ⟨ret_int HF.out.symm, rfl⟩
        by_cases h2 : y < x
        · have HC := hid (show cmpI x y = 1 by unfold cmpI; rw [if_neg h1, if_pos h2])
          have HF := hid (show R = 1 by rw [HD.out, if_neg h1, if_pos h2])
          go_wp2_with (go_at_call 206; refine (cmp_v _ _ _ HC.out _).mono ?_; rintro e w' ⟨rfl, rfl⟩)
          go_ret
          exact ⟨ret_int HF.out.symm, rfl⟩
        · have HC := hid (show cmpI x y = 0 by unfold cmpI; rw [if_neg h1, if_neg h2])
          have HF := hid (show R = cmpL (xs.drop (k + 1)) (ys.drop (k + 1)) by rw [HD.out, if_neg h1, if_neg h2])
          go_wp2_with (go_at_call 206; refine (cmp_v _ _ _ HC.out _).mono ?_; rintro e w' ⟨rfl, rfl⟩)
          go_round
          case rel => exact ⟨k + 1, by omega, by go_num, hid ⟨by omega, HF.out⟩⟩
          case measure => simp [intOf]; omega
      · have HF := hid (show R = 1 by rw [HE.out.2, cmpL_long xs ys k hlt (by omega)])
        clear hcc
        go_wp2_with fail
        go_ret
        exact ⟨ret_int HF.out.symm, rfl⟩
    · have HF := hid (show R = if k < ys.length then -1 else 0 by rw [HE.out.2, cmpL_end xs ys k (by omega)])
      have HK := hid (show k = xs.length by omega)
      by_cases h3 : xs.length < ys.length
      · have HF2 := hid (show R = -1 by rw [HF.out, if_pos (by rw [HK.out]; exact h3)])
        go_wp2_with fail
        go_ret
        exact ⟨ret_int HF2.out.symm, rfl⟩
      · have HF2 := hid (show R = 0 by rw [HF.out, if_neg (by rw [HK.out]; exact h3)])
        go_wp2_with fail
        go_ret
        exact ⟨ret_int HF2.out.symm, rfl⟩
set_option maxHeartbeats 800000 in
theorem greatest_any (A B : Option Addr) (c d : Nat) (xs ys : List Int) (w : World) (hl : xs.length ≤ 1048576) (hl2 : ys.length ≤ 1048576) (hA : Cells w A xs) (hB : Cells w B ys) :
    Calls Try.prog 149 #[.slice A xs.length c, .slice B ys.length d] w fun e w' => e = .returned (.int .i64 (cmpL ys xs)) ∧ w = w' := by
  have HC := hid (slCompare_any B A d c ys xs w hl2 hl hB hA)
  obtain ⟨v, hv⟩ : ∃ v, v = cmpL ys xs := ⟨_, rfl⟩
  rw [← hv] at HC ⊢
  clear hv
  go_enter Try.func149, Try.ntmps149
  go_wp2_with (go_at_call 182; refine HC.out.mono ?_; rintro e w' ⟨rfl, rfl⟩)
  go_ret
  exact ⟨rfl, rfl⟩
def orI (x y : Int) : Int := if x = 0 then y else x
def fcf (p q : List Int) : Int := orI (cmpI p.sum q.sum) (cmpL q p)
end Go.Proofs.Ythbkonpclflkhaa
/-
  The order of lists of numbers: plain facts.
-/
namespace Go.Proofs.Ythbkonpclflkhaa
open Go.RowKit

theorem cmpL_refl : ∀ p : List Int, cmpL p p = 0
  | [] => rfl
  | x :: p => by unfold cmpL; rw [if_neg (by omega), if_neg (by omega)]; exact cmpL_refl p
theorem cmpL_anti : ∀ p q : List Int, cmpL q p = - cmpL p q
  | [], [] => rfl
  | [], _ :: _ => rfl
  | _ :: _, [] => rfl
  | x :: p, y :: q => by
    unfold cmpL
    have ih := cmpL_anti p q
    by_cases h1 : x < y
    · rw [if_neg (by omega), if_pos h1, if_pos h1]; rfl
    · by_cases h2 : y < x
      · rw [if_pos h2, if_neg h1, if_pos h2]
      · rw [if_neg h2, if_neg h1, if_neg h1, if_neg h2]; exact ih
theorem cmpL_zero : ∀ p q : List Int, cmpL p q = 0 → p = q
  | [], [], _ => rfl
  | [], _ :: _, h => by simp [cmpL] at h
  | _ :: _, [], h => by simp [cmpL] at h
  | x :: p, y :: q, h => by
    unfold cmpL at h
    by_cases h1 : x < y
    · rw [if_pos h1] at h; omega
    · by_cases h2 : y < x
      · rw [if_neg h1, if_pos h2] at h; omega
      · rw [if_neg h1, if_neg h2] at h
        rw [cmpL_zero p q h, show x = y by omega]
theorem cmpL_trans : ∀ p q r : List Int, cmpL p q < 0 → cmpL q r < 0 → cmpL p r < 0
  | [], [], _, h, _ => by simp [cmpL] at h
  | [], _ :: _, [], _, h => by simp [cmpL] at h
  | [], _ :: _, _ :: _, _, _ => by simp [cmpL]
  | _ :: _, [], _, h, _ => by simp [cmpL] at h
  | _ :: _, _ :: _, [], _, h => by simp [cmpL] at h
  | x :: p, y :: q, z :: r, h, h' => by
    unfold cmpL at h h' ⊢
    have ih := cmpL_trans p q r
    by_cases h1 : x < y
    · by_cases h2 : y < z
      · rw [if_pos (by omega)]; omega
      · by_cases h3 : z < y
        · rw [if_neg h2, if_pos h3] at h'; omega
        · rw [if_pos (by omega)]; omega
    · by_cases h1' : y < x
      · rw [if_neg h1, if_pos h1'] at h; omega
      · rw [if_neg h1, if_neg h1'] at h
        by_cases h2 : y < z
        · rw [if_pos (by omega)]; omega
        · by_cases h3 : z < y
          · rw [if_neg h2, if_pos h3] at h'; omega
          · rw [if_neg h2, if_neg h3] at h'
            rw [if_neg (by omega), if_neg (by omega)]
            exact ih h h'
end Go.Proofs.Ythbkonpclflkhaa
