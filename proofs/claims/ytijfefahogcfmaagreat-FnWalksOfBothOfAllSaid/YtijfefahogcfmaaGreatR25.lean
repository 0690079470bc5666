/-
  Several texts in one.
-/
import Derived.Test.YtijfefahogcfmaaGreatR04
/-
  Contracts: cmp.Compare, slices.Compare, cmp.Or at ints; the two orders of partitions.
-/
namespace Go.Proofs.YtijfefahogcfmaaGreat
open Go.RowKit

def cmpI (x y : Int) : Int := if x < y then -1 else if y < x then 1 else 0
def cmpL : List Int → List Int → Int
  | [], [] => 0
  | [], _ :: _ => -1
  | _ :: _, [] => 1
  | x :: p, y :: q => if x < y then -1 else if y < x then 1 else cmpL p q
theorem cmpL_drop (p q : List Int) (k : Nat) (h1 : k < p.length) (h2 : k < q.length) : cmpL (p.drop k) (q.drop k) = if p.getD k 0 < q.getD k 0 then -1 else if q.getD k 0 < p.getD k 0 then 1 else cmpL (p.drop (k + 1)) (q.drop (k + 1)) := by
  have e1 : p.drop k = p.getD k 0 :: p.drop (k + 1) := by rw [List.drop_eq_getElem_cons h1, List.getD_eq_getElem?_getD, List.getElem?_eq_getElem h1]; rfl
  have e2 : q.drop k = q.getD k 0 :: q.drop (k + 1) := by rw [List.drop_eq_getElem_cons h2, List.getD_eq_getElem?_getD, List.getElem?_eq_getElem h2]; rfl
  rw [e1, e2, cmpL]
theorem cmpL_long (p q : List Int) (k : Nat) (h1 : k < p.length) (h2 : q.length ≤ k) : cmpL (p.drop k) (q.drop k) = 1 := by
  rw [List.drop_eq_getElem_cons h1, List.drop_eq_nil_of_le h2]; rfl
theorem cmpL_end (p q : List Int) (k : Nat) (h1 : p.length ≤ k) : cmpL (p.drop k) (q.drop k) = if k < q.length then -1 else 0 := by
  rw [List.drop_eq_nil_of_le h1]
  split
  · rename_i h; rw [List.drop_eq_getElem_cons h]; rfl
  · rw [List.drop_eq_nil_of_le (by omega)]; rfl

set_option maxHeartbeats 400000 in
theorem isNaN_any (x : Int) (w : World) : Calls Tryz.prog 93 #[.int .i64 x] w fun e w' => e = .returned (.bool false) ∧ w = w' := by
  go_enter Tryz.func93, Tryz.ntmps93
  go_wp2_with fail
  go_ret
  exact ⟨ret_bool (by simp), rfl⟩
set_option maxHeartbeats 400000 in
theorem cmp_any (x y : Int) (w : World) : Calls Tryz.prog 70 #[.int .i64 x, .int .i64 y] w fun e w' => e = .returned (.int .i64 (cmpI x y)) ∧ w = w' := by
  unfold cmpI
  by_cases h1 : x < y
  · rw [if_pos h1]
    go_enter Tryz.func70, Tryz.ntmps70
    go_wp2_with (go_at_call 93; refine (isNaN_any _ _).mono ?_; rintro e w' ⟨rfl, rfl⟩)
    go_ret
    exact ⟨rfl, rfl⟩
  rw [if_neg h1]
  by_cases h2 : y < x
  · rw [if_pos h2]
    go_enter Tryz.func70, Tryz.ntmps70
    go_wp2_with (go_at_call 93; refine (isNaN_any _ _).mono ?_; rintro e w' ⟨rfl, rfl⟩)
    go_ret
    exact ⟨rfl, rfl⟩
  · rw [if_neg h2]
    go_enter Tryz.func70, Tryz.ntmps70
    go_wp2_with (go_at_call 93; refine (isNaN_any _ _).mono ?_; rintro e w' ⟨rfl, rfl⟩)
    go_ret
    exact ⟨rfl, rfl⟩
theorem cmp_v (x y : Int) (v : Int) (h : cmpI x y = v) (w : World) : Calls Tryz.prog 70 #[.int .i64 x, .int .i64 y] w fun e w' => e = .returned (.int .i64 v) ∧ w = w' := by
  subst h; exact cmp_any x y w

set_option maxRecDepth 100000 in
set_option maxHeartbeats 2000000 in
theorem slCompare_any (A B : Option Addr) (c d : Nat) (xs ys : List Int) (w : World) (hl : xs.length ≤ 1048576) (hl2 : ys.length ≤ 1048576) (hA : Cells w A xs) (hB : Cells w B ys) :
    Calls Tryz.prog 96 #[.slice A xs.length c, .slice B ys.length d] w fun e w' => e = .returned (.int .i64 (cmpL xs ys)) ∧ w = w' := by
  have HR := hid (show cmpL xs ys = cmpL (xs.drop 0) (ys.drop 0) from rfl)
  obtain ⟨R, hR⟩ : ∃ R, R = cmpL xs ys := ⟨_, rfl⟩
  rw [← hR] at HR ⊢
  clear hR
  go_enter Tryz.func96, Tryz.ntmps96
  go_wp2_with fail
  go_loop [11] (fun i => ∃ k : Nat, k ≤ xs.length ∧ i = .int .i64 k ∧ Hid (k ≤ ys.length ∧ R = cmpL (xs.drop k) (ys.drop k))) (fun i => xs.length - (intOf i).toNat)
  case atStart => exact ⟨0, Nat.zero_le _, rfl, hid ⟨Nat.zero_le _, HR.out⟩⟩
  case round =>
    obtain ⟨k, hk, rfl, HE⟩ := hrel
    by_cases hlt : k < xs.length
    · obtain ⟨b, o, rfl, hcc⟩ := hA (by omega)
      have hck := hcc k hlt
      by_cases hlt2 : k < ys.length
      · obtain ⟨b2, o2, rfl, hcc2⟩ := hB (by omega)
        have hck2 := hcc2 k hlt2
        have HD := hid (HE.out.2.trans (cmpL_drop xs ys k hlt hlt2))
        clear hcc hcc2
        obtain ⟨x, hx⟩ : ∃ x, x = xs.getD k 0 := ⟨_, rfl⟩
        obtain ⟨y, hy⟩ : ∃ y, y = ys.getD k 0 := ⟨_, rfl⟩
        rw [← hx] at hck HD
        rw [← hy] at hck2 HD
        clear hx hy
        by_cases h1 : x < y
        · have HC := hid (show cmpI x y = -1 by unfold cmpI; rw [if_pos h1])
          have HF := hid (show R = -1 by rw [HD.out, if_pos h1])
          go_wp2_with (go_at_call 70; refine (cmp_v _ _ _ HC.out _).mono ?_; rintro e w' ⟨rfl, rfl⟩)
          go_ret
          exact ⟨ret_int HF.out.symm, rfl⟩
        by_cases h2 : y < x
        · have HC := hid (show cmpI x y = 1 by unfold cmpI; rw [if_neg h1, if_pos h2])
          have HF := hid (show R = 1 by rw [HD.out, if_neg h1, if_pos h2])
          go_wp2_with (go_at_call 70; refine (cmp_v _ _ _ HC.out _).mono ?_; rintro e w' ⟨rfl, rfl⟩)
          go_ret
          exact ⟨ret_int HF.out.symm, rfl⟩
        · have HC := hid (show cmpI x y = 0 by unfold cmpI; rw [if_neg h1, if_neg h2])
          have HF := hid (show R = cmpL (xs.drop (k + 1)) (ys.drop (k + 1)) by rw [HD.out, if_neg h1, if_neg h2])
          go_wp2_with (go_at_call 70; refine (cmp_v _ _ _ HC.out _).mono ?_; rintro e w' ⟨rfl, rfl⟩)
          go_round
          case rel => exact ⟨k + 1, by omega, by go_num, hid ⟨by omega, HF.out⟩⟩
          case measure => simp [intOf]; omega
      · have HF := hid (show R = 1 by rw [HE.out.2, cmpL_long xs ys k hlt (by omega)])
        clear hcc
        go_wp2_with fail
        go_ret
        exact ⟨ret_int HF.out.symm, rfl⟩
    · have HF := hid (show R = if k < ys.length then -1 else 0 by rw [HE.out.2, cmpL_end xs ys k (by omega)])
      have HK := hid (show k = xs.length by omega)
      by_cases h3 : xs.length < ys.length
      · have HF2 := hid (show R = -1 by rw [HF.out, if_pos (by rw [HK.out]; exact h3)])
        go_wp2_with fail
        go_ret
        exact ⟨ret_int HF2.out.symm, rfl⟩
      · have HF2 := hid (show R = 0 by rw [HF.out, if_neg (by rw [HK.out]; exact h3)])
        go_wp2_with fail
        go_ret
        exact ⟨ret_int HF2.out.symm, rfl⟩
set_option maxHeartbeats 800000 in
theorem greatest_any (A B : Option Addr) (c d : Nat) (xs ys : List Int) (w : World) (hl : xs.length ≤ 1048576) (hl2 : ys.length ≤ 1048576) (hA : Cells w A xs) (hB : Cells w B ys) :
    Calls Tryz.prog 72 #[.slice A xs.length c, .slice B ys.length d] w fun e w' => e = .returned (.int .i64 (cmpL ys xs)) ∧ w = w' := by
  have HC := hid (slCompare_any B A d c ys xs w hl2 hl hB hA)
  obtain ⟨v, hv⟩ : ∃ v, v = cmpL ys xs := ⟨_, rfl⟩
  rw [← hv] at HC ⊢
  clear hv
  go_enter Tryz.func72, Tryz.ntmps72
  go_wp2_with (go_at_call 96; refine HC.out.mono ?_; rintro e w' ⟨rfl, rfl⟩)
  go_ret
  exact ⟨rfl, rfl⟩
def orI (x y : Int) : Int := if x = 0 then y else x
set_option maxRecDepth 100000 in
set_option maxHeartbeats 1000000 in
theorem cmpOr_any (g : Nat) (x y : Int) (w : World) (h0 : w.cell? ⟨g, 0, none⟩ = some (.int .i64 x)) (h1 : w.cell? ⟨g, 1, none⟩ = some (.int .i64 y)) :
    Calls Tryz.prog 69 #[.slice (some ⟨g, 0, none⟩) 2 2] w fun e w' => e = .returned (.int .i64 (orI x y)) ∧ w = w' := by
  unfold orI
  go_enter Tryz.func69, Tryz.ntmps69
  go_wp2_with fail
  go_loop [8] (fun i => ∃ k : Nat, k ≤ 2 ∧ i = .int .i64 k ∧ Hid ((0 < k → x = 0) ∧ (1 < k → y = 0))) (fun i => 2 - (intOf i).toNat)
  case atStart => exact ⟨0, by omega, rfl, hid ⟨fun h => absurd h (by omega), fun h => absurd h (by omega)⟩⟩
  case round =>
    obtain ⟨k, hk, rfl, HE⟩ := hrel
    rcases (show k = 0 ∨ k = 1 ∨ k = 2 by omega) with rfl | rfl | rfl
    · by_cases hx : x = 0
      · subst hx
        go_wp2_with fail
        go_round
        case rel => exact ⟨1, by omega, rfl, hid (by simp)⟩
        case measure => simp [intOf]
      · go_wp2_with fail
        go_ret
        exact ⟨rfl, rfl⟩
    · have hx := HE.out.1 (by omega)
      subst hx
      by_cases hy : y = 0
      · subst hy
        go_wp2_with fail
        go_round
        case rel => exact ⟨2, by omega, rfl, hid (by simp)⟩
        case measure => simp [intOf]
      · go_wp2_with fail
        go_ret
        exact ⟨rfl, rfl⟩
    · have hx := HE.out.1 (by omega)
      have hy := HE.out.2 (by omega)
      subst hx; subst hy
      go_wp2_with fail
      go_ret
      exact ⟨rfl, rfl⟩
def fcf (p q : List Int) : Int := orI (cmpI p.sum q.sum) (cmpL q p)
set_option maxRecDepth 100000 in
set_option maxHeartbeats 1000000 in
theorem fewest_any (A B : Option Addr) (c d : Nat) (xs ys : List Int) (w : World) (hx : good xs = true) (hy : good ys = true) (hA : Cells w A xs) (hB : Cells w B ys) :
    Calls Tryz.prog 45 #[.slice A xs.length c, .slice B ys.length d] w fun e w' => e = .returned (.int .i64 (fcf xs ys)) ∧ ∃ x y, w' = w.alloc (.cells #[.int .i64 x, .int .i64 y] 3) := by
  have G1 := (good_iff xs).1 hx
  have G2 := (good_iff ys).1 hy
  have h1 := G1.len
  have h2 := G2.len
  have HC1 := hid (cellCount_any A xs c w h1 (parts_bd G1) hA)
  have HC2 := hid (cellCount_any B ys d w h2 (parts_bd G2) hB)
  have HG := hid (greatest_any A B c d xs ys w (by omega) (by omega) hA hB)
  have HF := hid (show fcf xs ys = orI (cmpI xs.sum ys.sum) (cmpL ys xs) from rfl)
  obtain ⟨R, hR⟩ : ∃ R, R = fcf xs ys := ⟨_, rfl⟩
  obtain ⟨g, hg⟩ : ∃ g, g = cmpL ys xs := ⟨_, rfl⟩
  obtain ⟨s1, hs1⟩ : ∃ s1, s1 = xs.sum := ⟨_, rfl⟩
  obtain ⟨s2, hs2⟩ : ∃ s2, s2 = ys.sum := ⟨_, rfl⟩
  rw [← hR, ← hg, ← hs1, ← hs2] at HF
  rw [← hs1] at HC1
  rw [← hs2] at HC2
  rw [← hg] at HG
  rw [← hR]
  have HV := hid (cmp_any s1 s2)
  obtain ⟨v, hv⟩ : ∃ v, v = cmpI s1 s2 := ⟨_, rfl⟩
  rw [← hv] at HV HF
  clear hR hg hs1 hs2 hv G1 G2
  have k0 : (w.alloc (.cells #[.int .i64 v, .int .i64 g] 3)).cell? ⟨w.heap.size, 0, none⟩ = some (.int .i64 v) := by simp
  have k1 : (w.alloc (.cells #[.int .i64 v, .int .i64 g] 3)).cell? ⟨w.heap.size, 1, none⟩ = some (.int .i64 g) := by simp
  have K0 := hid k0; have K1 := hid k1
  clear k0 k1
  go_enter Tryz.func45, Tryz.ntmps45
  go_wp2_with fail
  refine HC1.out.mono ?_
  rintro e w' ⟨rfl, rfl⟩
  go_wp2_with fail
  refine HC2.out.mono ?_
  rintro e w' ⟨rfl, rfl⟩
  go_wp2_with (first | (go_at_call 70; refine (HV.out _).mono ?_; rintro e w' ⟨rfl, rfl⟩) | (go_at_call 72; refine HG.out.mono ?_; rintro e w' ⟨rfl, rfl⟩) | (go_at_call 69; refine (cmpOr_any _ _ _ _ K0.out K1.out).mono ?_; rintro e w' ⟨rfl, rfl⟩))
  go_ret
  exact ⟨ret_int HF.out.symm, _, _, rfl⟩
end Go.Proofs.YtijfefahogcfmaaGreat
/-
  The order of lists of numbers: plain facts.
-/
namespace Go.Proofs.YtijfefahogcfmaaGreat
open Go.RowKit

theorem cmpL_refl : ∀ p : List Int, cmpL p p = 0
  | [] => rfl
  | x :: p => by unfold cmpL; rw [if_neg (by omega), if_neg (by omega)]; exact cmpL_refl p
theorem cmpL_anti : ∀ p q : List Int, cmpL q p = - cmpL p q
  | [], [] => rfl
  | [], _ :: _ => rfl
  | _ :: _, [] => rfl
  | x :: p, y :: q => by
    unfold cmpL
    have ih := cmpL_anti p q
    by_cases h1 : x < y
    · rw [if_neg (by omega), if_pos h1, if_pos h1]; rfl
    · by_cases h2 : y < x
      · rw [if_pos h2, if_neg h1, if_pos h2]
      · rw [if_neg h2, if_neg h1, if_neg h1, if_neg h2]; exact ih
theorem cmpL_zero : ∀ p q : List Int, cmpL p q = 0 → p = q
  | [], [], _ => rfl
  | [], _ :: _, h => by simp [cmpL] at h
  | _ :: _, [], h => by simp [cmpL] at h
  | x :: p, y :: q, h => by
    unfold cmpL at h
    by_cases h1 : x < y
    · rw [if_pos h1] at h; omega
    · by_cases h2 : y < x
      · rw [if_neg h1, if_pos h2] at h; omega
      · rw [if_neg h1, if_neg h2] at h
        rw [cmpL_zero p q h, show x = y by omega]
theorem cmpL_trans : ∀ p q r : List Int, cmpL p q < 0 → cmpL q r < 0 → cmpL p r < 0
  | [], [], _, h, _ => by simp [cmpL] at h
  | [], _ :: _, [], _, h => by simp [cmpL] at h
  | [], _ :: _, _ :: _, _, _ => by simp [cmpL]
  | _ :: _, [], _, h, _ => by simp [cmpL] at h
  | _ :: _, _ :: _, [], _, h => by simp [cmpL] at h
  | x :: p, y :: q, z :: r, h, h' => by
    unfold cmpL at h h' ⊢
    have ih := cmpL_trans p q r
    by_cases h1 : x < y
    · by_cases h2 : y < z
      · rw [if_pos (by omega)]; omega
      · by_cases h3 : z < y
        · rw [if_neg h2, if_pos h3] at h'; omega
        · rw [if_pos (by omega)]; omega
    · by_cases h1' : y < x
      · rw [if_neg h1, if_pos h1'] at h; omega
      · rw [if_neg h1, if_neg h1'] at h
        by_cases h2 : y < z
        · rw [if_pos (by omega)]; omega
        · by_cases h3 : z < y
          · rw [if_neg h2, if_pos h3] at h'; omega
          · rw [if_neg h2, if_neg h3] at h'
            rw [if_neg (by omega), if_neg (by omega)]
            exact ih h h'
end Go.Proofs.YtijfefahogcfmaaGreat
