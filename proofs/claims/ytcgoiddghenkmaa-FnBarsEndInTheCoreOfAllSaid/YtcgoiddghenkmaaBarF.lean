/-
  Contracts: BarsOf and IsBarCore on both sides.
-/
import Derived.Test.YtcgoiddghenkmaaBarT
namespace Go.Proofs.Ytcgoiddghenkmaa
open Go.RowKit

theorem canHaveBars_b (A : Option Addr) (c : Nat) (xs : List Int) (t : Int) (w : World) (hl : xs.length ≤ 1048576) (hc : Cells w A xs) (b : Bool) (h : brtB xs t = b) :
    Calls Try.prog 21 #[.slice A xs.length c, .int .i64 t] w fun e w' => e = .returned (.bool b) ∧ w = w' := by
  subst h
  cases hs : strB xs
  · rw [show brtB xs t = false by simp [brtB, hs]]
    have HS := hid hs; clear hs
    go_enter Try.func21, Try.ntmps21
    go_wp2_with (go_at_call 35; refine (isStrict_b _ _ _ _ hl hc _ HS.out).mono ?_; rintro e w' ⟨rfl, rfl⟩)
    go_ret
    exact ⟨rfl, rfl⟩
  · have HE := hid (show brtB xs t = (decide (t = 3) || decide (t = 5)) by simp [brtB, hs])
    have HS := hid hs; clear hs
    by_cases h3 : t = 3
    · rw [HE.out, decide_eq_true h3]
      clear HE
      go_enter Try.func21, Try.ntmps21
      go_wp2_with (go_at_call 35; refine (isStrict_b _ _ _ _ hl hc _ HS.out).mono ?_; rintro e w' ⟨rfl, rfl⟩)
      go_ret
      exact ⟨rfl, rfl⟩
    · by_cases h5 : t = 5
      · rw [HE.out, decide_eq_false h3, decide_eq_true h5]
        clear HE
        go_enter Try.func21, Try.ntmps21
        go_wp2_with (go_at_call 35; refine (isStrict_b _ _ _ _ hl hc _ HS.out).mono ?_; rintro e w' ⟨rfl, rfl⟩)
        go_ret
        exact ⟨rfl, rfl⟩
      · rw [HE.out, decide_eq_false h3, decide_eq_false h5]
        clear HE
        go_enter Try.func21, Try.ntmps21
        go_wp2_with (go_at_call 35; refine (isStrict_b _ _ _ _ hl hc _ HS.out).mono ?_; rintro e w' ⟨rfl, rfl⟩)
        go_ret
        exact ⟨by first | rfl | exact ret_bool (by simpa using ⟨h3, h5⟩), rfl⟩

theorem brT_b (A : Option Addr) (c : Nat) (xs : List Int) (t : Int) (w : World) (hl : xs.length ≤ 1048576) (hc : Cells w A xs) (b : Bool) (h : brtB xs t = b) :
    Calls Try.prog 19 #[.slice A xs.length c, .int .i64 t] w fun e w' => e = .returned (.bool b) ∧ ∃ n, w' = w.drewN n := by
  subst h
  have HB := hid (brIs_any A xs c w hl hc)
  by_cases h3 : t = 3
  · have HE := hid (show brtB xs t = strB xs by simp [brtB, h3])
    obtain ⟨s, hs⟩ : ∃ s, s = strB xs := ⟨_, rfl⟩
    rw [← hs] at HB HE
    rw [HE.out]
    clear HE hs
    go_enter Try.func19, Try.ntmps19
    go_wp2_with (go_at_call 33; refine HB.out.mono ?_; rintro e w' ⟨rfl, n, rfl⟩)
    go_ret
    exact ⟨rfl, _, rfl⟩
  · by_cases h5 : t = 5
    · have HE := hid (show brtB xs t = strB xs by simp [brtB, h5])
      obtain ⟨s, hs⟩ : ∃ s, s = strB xs := ⟨_, rfl⟩
      rw [← hs] at HB HE
      rw [HE.out]
      clear HE hs
      go_enter Try.func19, Try.ntmps19
      go_wp2_with (go_at_call 33; refine HB.out.mono ?_; rintro e w' ⟨rfl, n, rfl⟩)
      go_ret
      exact ⟨rfl, _, rfl⟩
    · rw [show brtB xs t = false by simp [brtB, h3, h5]]
      go_enter Try.func19, Try.ntmps19
      go_wp2_with fail
      go_ret
      exact ⟨rfl, 0, rfl⟩
theorem t_small {t : Int} (h : t = 3 ∨ t = 5) : 0 ≤ t ∧ t ≤ 1000 := by omega

set_option maxHeartbeats 1000000 in
theorem impl_BarsOfC (A : Option Addr) (c : Nat) (xs : List Int) (t : Int) (w : World) (hl : xs.length ≤ 1048576) (hlc : xs.length ≤ c) (hc0 : Cells w A xs) (_ : I64 t) :
    Calls Try.prog 8 #[.slice A xs.length c, .int .i64 t] w fun e w' => ∃ A' c', e = .returned (.tuple #[.slice A' (barF xs t).length c', .bool (brtB xs t)]) ∧ Own2 w' w.heap.size w'.heap.size A' c' (barF xs t) ∧ Below w.heap.size w w' := by
  have HC := hid hc0; clear hc0
  cases hb : brtB xs t
  · rw [barF_f hb]
    have HB := hid hb; clear hb
    go_enter Try.func8, Try.ntmps8
    go_wp2_with (go_at_call 21; refine (canHaveBars_b _ _ _ _ _ hl HC.out _ HB.out).mono ?_; rintro e w' ⟨rfl, rfl⟩)
    go_ret2
    exact ⟨none, 0, rfl, own2_nil _ _ _, Below.refl _ _⟩
  rw [barF_t hb]
  obtain ⟨ht, hs⟩ := brtB_t hb
  have HB := hid hb; clear hb
  have HBT := hid (barTest_any A c xs.length t w)
  have HIN := hid fun T Q W (h : Below w.heap.size w W) h1 h2 => barsAll_any A c xs t T Q W hs (t_small ht) hlc (HC.out.later h) h1 h2
  obtain ⟨R, hR⟩ : ∃ R, R = brs xs t xs.length := ⟨_, rfl⟩
  rw [← hR] at HIN ⊢
  clear hR ht hs
  go_enter Try.func8, Try.ntmps8
  go_wp2_with (first | (go_at_call 21; refine (canHaveBars_b _ _ _ _ _ hl HC.out _ HB.out).mono ?_; rintro e w' ⟨rfl, rfl⟩) | (go_at_call 23; refine HBT.out.mono ?_; rintro e w1 ⟨T, Q, rfl, h1, h2, b1⟩) | (go_at_call 24; refine (HIN.out T Q w1 b1 h1 h2).mono ?_; rintro e w2 ⟨A2, c2, rfl, o2, b2⟩))
  go_ret2
  exact ⟨A2, c2, rfl, o2.more b1.size, Below.next b1 b2⟩

theorem impl_BarsOf {B : Nat} (A : Option Addr) (c : Nat) (xs : List Int) (t : Int) (w : World) (hl : xs.length ≤ 1048576) (ho : Own w B A c xs) (h61 : I64 t) :
    Calls Try.prog 8 #[.slice A xs.length c, .int .i64 t] w fun e w' => ∃ A' c', e = .returned (.tuple #[.slice A' (barF xs t).length c', .bool (brtB xs t)]) ∧ Own2 w' w.heap.size w'.heap.size A' c' (barF xs t) ∧ Below w.heap.size w w' := impl_BarsOfC A c xs t w hl ho.cap ho.cells h61

set_option maxHeartbeats 1000000 in
theorem spec_BarsOfC (A : Option Addr) (c : Nat) (xs : List Int) (t : Int) (w : World) (hl : xs.length ≤ 1048576) (hlc : xs.length ≤ c) (hc0 : Cells w A xs) (_ : I64 t) :
    Calls Try.prog 9 #[.slice A xs.length c, .int .i64 t] w fun e w' => ∃ A' c', e = .returned (.tuple #[.slice A' (barF xs t).length c', .bool (brtB xs t)]) ∧ Own2 w' w.heap.size w'.heap.size A' c' (barF xs t) ∧ Below w.heap.size w w' := by
  have HC := hid hc0; clear hc0
  cases hb : brtB xs t
  · rw [barF_f hb]
    have HB := hid hb; clear hb
    go_enter Try.func9, Try.ntmps9
    go_wp2_with (go_at_call 19; refine (brT_b _ _ _ _ _ hl HC.out _ HB.out).mono ?_; rintro e w' ⟨rfl, n, rfl⟩)
    go_ret2
    exact ⟨none, 0, rfl, own2_nil _ _ _, below_drew' _ _⟩
  rw [barF_t hb]
  obtain ⟨ht, hs⟩ := brtB_t hb
  have HB := hid hb; clear hb
  have HIN := hid fun W (h : Below w.heap.size w W) => brBars_any A c xs t W hs (t_small ht) hlc (HC.out.later h)
  obtain ⟨R, hR⟩ : ∃ R, R = brs xs t xs.length := ⟨_, rfl⟩
  rw [← hR] at HIN ⊢
  clear hR ht hs
  go_enter Try.func9, Try.ntmps9
  go_wp2_with (first | (go_at_call 19; refine (brT_b _ _ _ _ _ hl HC.out _ HB.out).mono ?_; rintro e w' ⟨rfl, n, rfl⟩) | (go_at_call 25; refine (HIN.out _ (below_drew' w n)).mono ?_; rintro e w2 ⟨A2, c2, rfl, o2, b2⟩))
  go_ret2
  exact ⟨A2, c2, rfl, o2, Below.next (below_drew' w n) b2⟩
theorem spec_BarsOf {B : Nat} (A : Option Addr) (c : Nat) (xs : List Int) (t : Int) (w : World) (hl : xs.length ≤ 1048576) (ho : Own w B A c xs) (h61 : I64 t) :
    Calls Try.prog 9 #[.slice A xs.length c, .int .i64 t] w fun e w' => ∃ A' c', e = .returned (.tuple #[.slice A' (barF xs t).length c', .bool (brtB xs t)]) ∧ Own2 w' w.heap.size w'.heap.size A' c' (barF xs t) ∧ Below w.heap.size w w' := spec_BarsOfC A c xs t w hl ho.cap ho.cells h61

theorem brs_bd {xs : List Int} {t : Int} (G : Good xs) : (brs xs t xs.length).length ≤ 900 ∧ tot (brs xs t xs.length) ≤ 1800 := by
  have hlen := G.len
  have h1 := brs_len xs t hlen xs.length (Nat.le_refl _)
  have h3 : xs.length * 30 ≤ 30 * 30 := Nat.mul_le_mul_right _ hlen
  have h2 : ∀ r ∈ brs xs t xs.length, r.length ≤ 2 := fun r hr => by
    obtain ⟨i, hi, hm, _⟩ := brs_mem xs.length (Nat.le_refl _) hr
    have := (candA_mem hi hm).1; omega
  have tle : ∀ rows : List (List Int), (∀ r ∈ rows, r.length ≤ 2) → tot rows ≤ rows.length * 2 := by
    intro rows h
    induction rows with
    | nil => simp [tot]
    | cons r t ih =>
      have h1 := h r (List.mem_cons_self ..)
      have h2 := ih fun x hx => h x (List.mem_cons_of_mem _ hx)
      rw [tot, List.length_cons, Nat.add_mul]; omega
  have := tle _ h2
  omega
theorem bound_BarsOf (xs : List Int) (t : Int) : (barF xs t).length ≤ 1048576 ∧ tot (barF xs t) ≤ 1048576 := by
  cases hb : brtB xs t
  · rw [barF_f hb]; simp [tot]
  · rw [barF_t hb]
    have := brs_bd (t := t) (strB_good (brtB_t hb).2)
    omega

def ibF (xs : List Int) (t : Int) : Bool := brtB xs t && decide ((barF xs t).length = 0)
set_option maxHeartbeats 1000000 in
theorem impl_IsBarCoreC (A : Option Addr) (c : Nat) (xs : List Int) (t : Int) (w : World) (hl : xs.length ≤ 1048576) (hlc : xs.length ≤ c) (hc0 : Cells w A xs) (h64 : I64 t) :
    Calls Try.prog 12 #[.slice A xs.length c, .int .i64 t] w fun e w' => e = .returned (.tuple #[.bool (ibF xs t), .bool (brtB xs t)]) ∧ Below w.heap.size w w' := by
  have HB := hid (impl_BarsOfC A c xs t w hl hlc hc0 h64)
  have HI := hid (show ibF xs t = (brtB xs t && decide ((barF xs t).length = 0)) from rfl)
  obtain ⟨b, hb⟩ : ∃ b, b = brtB xs t := ⟨_, rfl⟩
  rw [← hb] at HB HI ⊢
  obtain ⟨R, hR⟩ : ∃ R, R = barF xs t := ⟨_, rfl⟩
  rw [← hR] at HB HI
  rw [HI.out]
  clear hb hR hlc hc0 HI
  cases b
  · rw [Bool.false_and]
    go_enter Try.func12, Try.ntmps12
    go_wp2_with (go_at_call 8; refine HB.out.mono ?_; rintro e w2 ⟨A2, c2, rfl, o2, b2⟩)
    go_ret2
    exact ⟨rfl, b2⟩
  · rw [Bool.true_and]
    by_cases h0 : R.length = 0
    · have h0i : ((R.length : Nat) : Int) = 0 := by omega
      rw [decide_eq_true h0]
      clear h0
      go_enter Try.func12, Try.ntmps12
      go_wp2_with (go_at_call 8; refine HB.out.mono ?_; rintro e w2 ⟨A2, c2, rfl, o2, b2⟩)
      go_ret2
      exact ⟨rfl, b2⟩
    · have h0i : ¬ ((R.length : Nat) : Int) = 0 := by omega
      rw [decide_eq_false h0]
      have HQ := hid (show (((R.length : Nat) : Int) == 0) = false from beq_eq_false_iff_ne.2 h0i)
      clear h0
      go_enter Try.func12, Try.ntmps12
      go_wp2_with (go_at_call 8; refine HB.out.mono ?_; rintro e w2 ⟨A2, c2, rfl, o2, b2⟩)
      go_ret2
      exact ⟨by show Ending.returned (.tuple #[.bool (((R.length : Nat) : Int) == 0), .bool true]) = _; rw [HQ.out], b2⟩
theorem impl_IsBarCore {B : Nat} (A : Option Addr) (c : Nat) (xs : List Int) (t : Int) (w : World) (hl : xs.length ≤ 1048576) (ho : Own w B A c xs) (h61 : I64 t) :
    Calls Try.prog 12 #[.slice A xs.length c, .int .i64 t] w fun e w' => e = .returned (.tuple #[.bool (ibF xs t), .bool (brtB xs t)]) ∧ Below w.heap.size w w' := impl_IsBarCoreC A c xs t w hl ho.cap ho.cells h61

set_option maxHeartbeats 1000000 in
theorem spec_IsBarCoreC (A : Option Addr) (c : Nat) (xs : List Int) (t : Int) (w : World) (hl : xs.length ≤ 1048576) (hlc : xs.length ≤ c) (hc0 : Cells w A xs) (_ : I64 t) :
    Calls Try.prog 17 #[.slice A xs.length c, .int .i64 t] w fun e w' => e = .returned (.tuple #[.bool (ibF xs t), .bool (brtB xs t)]) ∧ Below w.heap.size w w' := by
  have HC := hid hc0; clear hc0
  cases hb : brtB xs t
  · rw [show ibF xs t = false by simp [ibF, hb]]
    have HB := hid hb; clear hb
    go_enter Try.func17, Try.ntmps17
    go_wp2_with (go_at_call 19; refine (brT_b _ _ _ _ _ hl HC.out _ HB.out).mono ?_; rintro e w' ⟨rfl, n, rfl⟩)
    go_ret2
    exact ⟨rfl, below_drew' _ _⟩
  rw [show ibF xs t = decide ((brs xs t xs.length).length = 0) by simp [ibF, hb, barF_t hb]]
  obtain ⟨ht, hs⟩ := brtB_t hb
  have HB := hid hb; clear hb
  have HIN := hid fun W (h : Below w.heap.size w W) => brBars_any A c xs t W hs (t_small ht) hlc (HC.out.later h)
  obtain ⟨R, hR⟩ : ∃ R, R = brs xs t xs.length := ⟨_, rfl⟩
  rw [← hR] at HIN ⊢
  clear hR ht hs
  by_cases h0 : R.length = 0
  · have h0i : ((R.length : Nat) : Int) = 0 := by omega
    rw [decide_eq_true h0]
    clear h0
    go_enter Try.func17, Try.ntmps17
    go_wp2_with (first | (go_at_call 19; refine (brT_b _ _ _ _ _ hl HC.out _ HB.out).mono ?_; rintro e w' ⟨rfl, n, rfl⟩) | (go_at_call 25; refine (HIN.out _ (below_drew' w n)).mono ?_; rintro e w2 ⟨A2, c2, rfl, o2, b2⟩))
    go_ret2
    exact ⟨rfl, Below.next (below_drew' w n) b2⟩
  · have h0i : ¬ ((R.length : Nat) : Int) = 0 := by omega
    rw [decide_eq_false h0]
    have HQ := hid (show (((R.length : Nat) : Int) == 0) = false from beq_eq_false_iff_ne.2 h0i)
    clear h0
    go_enter Try.func17, Try.ntmps17
    go_wp2_with (first | (go_at_call 19; refine (brT_b _ _ _ _ _ hl HC.out _ HB.out).mono ?_; rintro e w' ⟨rfl, n, rfl⟩) | (go_at_call 25; refine (HIN.out _ (below_drew' w n)).mono ?_; rintro e w2 ⟨A2, c2, rfl, o2, b2⟩))
    go_ret2
    exact ⟨by show Ending.returned (.tuple #[.bool (((R.length : Nat) : Int) == 0), .bool true]) = _; rw [HQ.out], Below.next (below_drew' w n) b2⟩
theorem spec_IsBarCore {B : Nat} (A : Option Addr) (c : Nat) (xs : List Int) (t : Int) (w : World) (hl : xs.length ≤ 1048576) (ho : Own w B A c xs) (h61 : I64 t) :
    Calls Try.prog 17 #[.slice A xs.length c, .int .i64 t] w fun e w' => e = .returned (.tuple #[.bool (ibF xs t), .bool (brtB xs t)]) ∧ Below w.heap.size w w' := spec_IsBarCoreC A c xs t w hl ho.cap ho.cells h61

end Go.Proofs.Ytcgoiddghenkmaa
