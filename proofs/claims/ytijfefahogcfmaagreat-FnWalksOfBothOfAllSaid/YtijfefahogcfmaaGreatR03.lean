/-
  Several texts in one.
-/
import Derived.Test.YtijfefahogcfmaaGreatCB
import Derived.Test.YtijfefahogcfmaaGreatR02
/-
  Contracts: IsInside of the program and of the model.
-/
namespace Go.Proofs.YtijfefahogcfmaaGreat
open Go.RowKit

def insideF (xs ys : List Int) : Bool := (good xs && good ys) && insideB xs ys
theorem insideF_t {xs ys : List Int} (h1 : good xs = true) (h2 : good ys = true) : insideF xs ys = insideB xs ys := by simp [insideF, h1, h2]
theorem insideF_f {xs ys : List Int} (h : (good xs && good ys) = false) : insideF xs ys = false := by simp [insideF, h]

end Go.Proofs.YtijfefahogcfmaaGreat
/-
  Sizes: contracts of AreSizes on both sides.
-/
namespace Go.Proofs.YtijfefahogcfmaaGreat
open Go.RowKit

/-- Whether a and b have the divisor k + 2, which is at most a. -/
def comAt (a b : Int) (k : Nat) : Bool := a % ((k : Int) + 2) == 0 && b % ((k : Int) + 2) == 0
def comD (a b : Int) : Bool := (List.range (a - 1).toNat).any (comAt a b)
def mostZ (a b : Int) : Int := (a * a - 1) * (b * b - 1) / 24
def sz (a b : Int) : Bool := inB 2 7 a && inB 2 7 b && !(decide (30 < mostZ a b)) && !(comD a b)

theorem comD_hit {a b : Int} {k : Nat} (hk : (k : Int) + 2 ≤ a) (h1 : a % ((k : Int) + 2) = 0) (h2 : b % ((k : Int) + 2) = 0) : comD a b = true := by
  unfold comD
  rw [List.any_eq_true]
  exact ⟨k, List.mem_range.2 (by omega), by simp [comAt, h1, h2]⟩
theorem comD_miss {a b : Int} {k : Nat} (hk : a < (k : Int) + 2) (h : ∀ j, j < k → comAt a b j = false) : comD a b = false := by
  unfold comD
  rw [List.any_eq_false]
  intro j hj
  rw [List.mem_range] at hj
  rw [h j (by omega)]; simp
theorem below_succ {a b : Int} {k : Nat} (h : ∀ j, j < k → comAt a b j = false) (hn : comAt a b k = false) : ∀ j, j < k + 1 → comAt a b j = false := by
  intro j hj
  by_cases e : j = k
  · rw [e]; exact hn
  · exact h j (by omega)
theorem comAt_t {a b : Int} {k : Nat} (h : a % ((k : Int) + 2) = 0 → ¬ b % ((k : Int) + 2) = 0) : comAt a b k = false := by
  unfold comAt
  by_cases h1 : a % ((k : Int) + 2) = 0
  · simp [h h1]
  · simp [h1]
theorem sq7 {a : Int} (h : 2 ≤ a ∧ a ≤ 7) : 4 ≤ a * a ∧ a * a ≤ 49 := by
  rcases (show a = 2 ∨ a = 3 ∨ a = 4 ∨ a = 5 ∨ a = 6 ∨ a = 7 by omega) with rfl | rfl | rfl | rfl | rfl | rfl <;> decide
theorem ab7 {a b : Int} (h : 2 ≤ a ∧ a ≤ 7) (k : 2 ≤ b ∧ b ≤ 7) : 0 ≤ (a * a - 1) * (b * b - 1) ∧ (a * a - 1) * (b * b - 1) ≤ 2304 := by
  rcases (show a = 2 ∨ a = 3 ∨ a = 4 ∨ a = 5 ∨ a = 6 ∨ a = 7 by omega) with rfl | rfl | rfl | rfl | rfl | rfl <;>
  rcases (show b = 2 ∨ b = 3 ∨ b = 4 ∨ b = 5 ∨ b = 6 ∨ b = 7 by omega) with rfl | rfl | rfl | rfl | rfl | rfl <;> decide

set_option maxRecDepth 100000 in
set_option maxHeartbeats 400000 in
theorem haveCommon_any (a b : Int) (w : World) (ha : 2 ≤ a ∧ a ≤ 7) (hb : 2 ≤ b ∧ b ≤ 7) :
    Calls Tryz.prog 51 #[.int .i64 a, .int .i64 b] w fun e w' => e = .returned (.bool (comD a b)) ∧ w = w' := by
  go_enter Tryz.func51, Tryz.ntmps51
  go_wp2_with fail
  go_loop [5] (fun i => ∃ k : Nat, k ≤ 6 ∧ i = .int .i64 ((k : Int) + 2) ∧ ∀ j, j < k → comAt a b j = false) (fun i => 8 - (intOf i).toNat)
  case atStart => exact ⟨0, by omega, rfl, fun j hj => absurd hj (by omega)⟩
  case round =>
    obtain ⟨k, hk, rfl, hno⟩ := hrel
    have HN := hid hno; clear hno
    by_cases hle : (k : Int) + 2 ≤ a
    · have H1 := hid (fun h1 h2 => comD_hit (a := a) (b := b) (k := k) hle h1 h2)
      have H2 := hid (comAt_t (a := a) (b := b) (k := k))
      obtain ⟨d, hd⟩ : ∃ d : Int, d = (k : Int) + 2 := ⟨_, rfl⟩
      rw [← hd] at hle H1 H2 ⊢
      have hd2 : 2 ≤ d := by omega
      have hdn : ¬ d = 0 := by omega
      have HD := hid hd; clear hd
      by_cases h1 : a % d = 0
      · by_cases h2 : b % d = 0
        · go_wp2_with fail
          go_ret
          exact ⟨ret_bool (H1.out h1 h2).symm, rfl⟩
        · go_wp2_with fail
          go_round
          case rel => exact ⟨k + 1, by have := HD.out; omega, by rw [HD.out]; go_num, below_succ HN.out (H2.out fun _ => h2)⟩
          case measure => show 8 - (d + 1).toNat < 8 - d.toNat; omega
      · go_wp2_with fail
        go_round
        case rel => exact ⟨k + 1, by have := HD.out; omega, by rw [HD.out]; go_num, below_succ HN.out (H2.out fun h => absurd h h1)⟩
        case measure => show 8 - (d + 1).toNat < 8 - d.toNat; omega
    · go_wp2_with fail
      go_ret
      exact ⟨ret_bool (comD_miss (by omega) HN.out).symm, rfl⟩

theorem inB_of {n lo hi : Int} {b : Bool} (h : inB lo hi n = b) : (b = true ∧ lo ≤ n ∧ n ≤ hi) ∨ (b = false ∧ (n < lo ∨ hi < n)) := by
  subst h
  by_cases k : lo ≤ n ∧ n ≤ hi
  · exact .inl ⟨inB_iff.2 k, k⟩
  · refine .inr ⟨?_, by omega⟩
    cases e : inB lo hi n
    · rfl
    · exact absurd (inB_iff.1 e) k

set_option maxRecDepth 100000 in
set_option maxHeartbeats 400000 in
theorem isSize_b (a : Int) (w : World) (t : Bool) (h : inB 2 7 a = t) :
    Calls Tryz.prog 50 #[.int .i64 a] w fun e w' => e = .returned (.bool t) ∧ w = w' := by
  subst h
  unfold inB
  go_enter Tryz.func50, Tryz.ntmps50
  by_cases h1 : 2 ≤ a
  · go_wp2_with fail
    go_ret
    exact ⟨ret_bool (by simp [h1]), rfl⟩
  · go_wp2_with fail
    go_ret
    exact ⟨ret_bool (by rw [decide_eq_false (by omega)]; rfl), rfl⟩

set_option maxRecDepth 100000 in
set_option maxHeartbeats 400000 in
theorem mostCells_any (a b : Int) (w : World) (ha : 2 ≤ a ∧ a ≤ 7) (hb : 2 ≤ b ∧ b ≤ 7) :
    Calls Tryz.prog 52 #[.agg #[.int .i64 a, .int .i64 b]] w fun e w' => e = .returned (.int .i64 (mostZ a b)) ∧ Below w.heap.size w w' := by
  obtain ⟨a1, a2⟩ := sq7 ha
  obtain ⟨b1, b2⟩ := sq7 hb
  obtain ⟨m1, m2⟩ := ab7 ha hb
  have HM := hid (show mostZ a b = (a * a - 1) * (b * b - 1) / 24 from rfl)
  go_enter Tryz.func52, Tryz.ntmps52
  go_wp2_with fail
  go_ret
  exact ⟨ret_int HM.out.symm, (Below.refl _ _).alloc (Nat.le_refl _) _⟩

theorem sz_iff {a b : Int} : sz a b = true ↔ (2 ≤ a ∧ a ≤ 7) ∧ (2 ≤ b ∧ b ≤ 7) ∧ ¬ 30 < mostZ a b ∧ comD a b = false := by
  simp [sz, inB_iff, and_assoc]

set_option maxRecDepth 100000 in
set_option maxHeartbeats 400000 in
theorem AreSizes_b (a b : Int) (w : World) (t : Bool) (h : sz a b = t) :
    Calls Tryz.prog 26 #[.int .i64 a, .int .i64 b] w fun e w' => e = .returned (.bool t) ∧ Below w.heap.size w w' := by
  cases ha : inB 2 7 a
  · have e : t = false := by rw [← h]; simp [sz, ha]
    subst e
    have HA := hid ha; clear ha h
    go_enter Tryz.func26, Tryz.ntmps26
    go_wp2_with (go_at_call 50; refine (isSize_b _ _ _ HA.out).mono ?_; rintro e w' ⟨rfl, rfl⟩)
    go_ret
    exact ⟨rfl, Below.refl _ _⟩
  cases hb : inB 2 7 b
  · have e : t = false := by rw [← h]; simp [sz, hb]
    subst e
    have HA := hid ha; have HB := hid hb; clear ha hb h
    go_enter Tryz.func26, Tryz.ntmps26
    go_wp2_with fail
    refine (isSize_b _ _ _ HA.out).mono ?_
    rintro e w1 ⟨rfl, rfl⟩
    go_wp2_with fail
    refine (isSize_b _ _ _ HB.out).mono ?_
    rintro e w1 ⟨rfl, rfl⟩
    go_wp2_with fail
    go_ret
    exact ⟨rfl, Below.refl _ _⟩
  have a7 := inB_iff.1 ha
  have b7 := inB_iff.1 hb
  have HA := hid ha; have HB := hid hb
  have HC := hid (haveCommon_any a b)
  have HM := hid fun w => mostCells_any a b w a7 b7
  have e : t = (!(decide (30 < mostZ a b)) && !(comD a b)) := by rw [← h]; simp [sz, ha, hb]
  clear ha hb h
  obtain ⟨m, hm⟩ : ∃ m, m = mostZ a b := ⟨_, rfl⟩
  rw [← hm] at e HM
  clear hm
  cases hc : comD a b
  · rw [hc] at e HC
    have HE := hid e; clear e hc
    go_enter Tryz.func26, Tryz.ntmps26
    go_wp2_with fail
    refine (isSize_b _ _ _ HA.out).mono ?_
    rintro e w1 ⟨rfl, rfl⟩
    go_wp2_with fail
    refine (isSize_b _ _ _ HB.out).mono ?_
    rintro e w1 ⟨rfl, rfl⟩
    go_wp2_with (first | (go_at_call 51; refine (HC.out _ a7 b7).mono ?_; rintro e w' ⟨rfl, rfl⟩) | (go_at_call 52; refine (HM.out _).mono ?_; rintro e w' ⟨rfl, bb⟩))
    go_ret
    refine ⟨ret_bool ?_, bb⟩
    rw [HE.out]
    by_cases k : 30 < m
    · rw [decide_eq_true k, decide_eq_false (by omega)]; rfl
    · rw [decide_eq_false k, decide_eq_true (by omega)]; rfl
  · rw [hc, Bool.not_true, Bool.and_false] at e
    rw [hc] at HC
    subst e
    clear hc
    go_enter Tryz.func26, Tryz.ntmps26
    go_wp2_with fail
    refine (isSize_b _ _ _ HA.out).mono ?_
    rintro e w1 ⟨rfl, rfl⟩
    go_wp2_with fail
    refine (isSize_b _ _ _ HB.out).mono ?_
    rintro e w1 ⟨rfl, rfl⟩
    go_wp2_with (first | (go_at_call 51; refine (HC.out _ a7 b7).mono ?_; rintro e w' ⟨rfl, rfl⟩))
    go_ret
    exact ⟨rfl, Below.refl _ _⟩

set_option maxRecDepth 100000 in
set_option maxHeartbeats 800000 in
theorem boSizes_b (a b : Int) (w : World) (t : Bool) (h : sz a b = t) :
    Calls Tryz.prog 16 #[.int .i64 a, .int .i64 b] w fun e w' => e = .returned (.bool t) ∧ w = w' := by
  cases ha : inB 2 7 a
  · have e : t = false := by rw [← h]; simp [sz, ha]
    subst e
    have HA := hid ha; clear ha h
    go_enter Tryz.func16, Tryz.ntmps16
    go_wp2_with (go_at_call 30; refine (l1In_b _ _ _ _ _ HA.out).mono ?_; rintro e w' ⟨rfl, rfl⟩)
    go_ret
    exact ⟨rfl, rfl⟩
  cases hb : inB 2 7 b
  · have e : t = false := by rw [← h]; simp [sz, hb]
    subst e
    have HA := hid ha; have HB := hid hb; clear ha hb h
    go_enter Tryz.func16, Tryz.ntmps16
    go_wp2_with fail
    refine (l1In_b _ _ _ _ _ HA.out).mono ?_
    rintro e w1 ⟨rfl, rfl⟩
    go_wp2_with fail
    refine (l1In_b _ _ _ _ _ HB.out).mono ?_
    rintro e w1 ⟨rfl, rfl⟩
    go_wp2_with fail
    go_ret
    exact ⟨rfl, rfl⟩
  have a7 := inB_iff.1 ha
  have b7 := inB_iff.1 hb
  have HA := hid ha; have HB := hid hb
  obtain ⟨a1, a2⟩ := sq7 a7
  obtain ⟨b1, b2⟩ := sq7 b7
  obtain ⟨m1, m2⟩ := ab7 a7 b7
  have e : t = (!(decide (30 < mostZ a b)) && !(comD a b)) := by rw [← h]; simp [sz, ha, hb]
  clear ha hb h
  by_cases hm : 30 < mostZ a b
  · rw [decide_eq_true hm, Bool.not_true, Bool.false_and] at e
    subst e
    have hm2 : 30 < (a * a - 1) * (b * b - 1) / 24 := hm
    clear hm
    go_enter Tryz.func16, Tryz.ntmps16
    go_wp2_with fail
    refine (l1In_b _ _ _ _ _ HA.out).mono ?_
    rintro e w1 ⟨rfl, rfl⟩
    go_wp2_with fail
    refine (l1In_b _ _ _ _ _ HB.out).mono ?_
    rintro e w1 ⟨rfl, rfl⟩
    go_wp2_with fail
    go_ret
    exact ⟨rfl, rfl⟩
  rw [decide_eq_false hm, Bool.not_false, Bool.true_and] at e
  have HE := hid e
  have hm2 : (a * a - 1) * (b * b - 1) / 24 ≤ 30 := by have : ¬ 30 < (a * a - 1) * (b * b - 1) / 24 := hm; omega
  clear hm e
  go_enter Tryz.func16, Tryz.ntmps16
  go_wp2_with fail
  refine (l1In_b _ _ _ _ _ HA.out).mono ?_
  rintro e w1 ⟨rfl, rfl⟩
  go_wp2_with fail
  refine (l1In_b _ _ _ _ _ HB.out).mono ?_
  rintro e w1 ⟨rfl, rfl⟩
  go_wp2_with fail
  clear hm2 m1 m2
  go_loop [5] (fun i => ∃ k : Nat, k ≤ 6 ∧ i = .int .i64 ((k : Int) + 2) ∧ ∀ j, j < k → comAt a b j = false) (fun i => 8 - (intOf i).toNat)
  case atStart => exact ⟨0, by omega, rfl, fun j hj => absurd hj (by omega)⟩
  case round =>
    obtain ⟨k, hk, rfl, hno⟩ := hrel
    have HN := hid hno; clear hno
    by_cases hle : (k : Int) + 2 ≤ a
    · have H1 := hid (fun h1 h2 => comD_hit (a := a) (b := b) (k := k) hle h1 h2)
      have H2 := hid (comAt_t (a := a) (b := b) (k := k))
      obtain ⟨d, hd⟩ : ∃ d : Int, d = (k : Int) + 2 := ⟨_, rfl⟩
      rw [← hd] at hle H1 H2 ⊢
      have hd2 : 2 ≤ d := by omega
      have hdn : ¬ d = 0 := by omega
      have HD := hid hd; clear hd
      by_cases h1 : a % d = 0
      · by_cases h2 : b % d = 0
        · go_wp2_with fail
          go_ret
          exact ⟨ret_bool (by rw [HE.out, H1.out h1 h2]; rfl), rfl⟩
        · go_wp2_with fail
          go_round
          case rel => exact ⟨k + 1, by have := HD.out; omega, by rw [HD.out]; go_num, below_succ HN.out (H2.out fun _ => h2)⟩
          case measure => show 8 - (d + 1).toNat < 8 - d.toNat; omega
      · go_wp2_with fail
        go_round
        case rel => exact ⟨k + 1, by have := HD.out; omega, by rw [HD.out]; go_num, below_succ HN.out (H2.out fun h => absurd h h1)⟩
        case measure => show 8 - (d + 1).toNat < 8 - d.toNat; omega
    · go_wp2_with fail
      go_ret
      exact ⟨ret_bool (by rw [HE.out, comD_miss (by omega) HN.out]; rfl), rfl⟩

theorem impl_AreSizes (a b : Int) (w : World) (_ : I64 a) (_ : I64 b) :
    Calls Tryz.prog 26 #[.int .i64 a, .int .i64 b] w fun e w' => e = .returned (.bool (sz a b)) ∧ Below w.heap.size w w' := AreSizes_b a b w _ rfl
end Go.Proofs.YtijfefahogcfmaaGreat
