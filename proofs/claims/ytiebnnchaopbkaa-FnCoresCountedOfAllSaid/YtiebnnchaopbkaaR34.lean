/-
  Several texts in one.
-/
import Derived.Test.YtiebnnchaopbkaaR33
import Derived.Test.YtiebnnchaopbkaaR10
import Derived.Test.YtiebnnchaopbkaaCB
import Derived.Test.YtiebnnchaopbkaaCH
import Derived.Test.YtiebnnchaopbkaaR25
/-
  Regular partitions; partitions above others. No program in this text.
-/
namespace Go.Proofs.Ytiebnnchaopbkaa

/-- The first k places at which s + 1 parts could be equal hold no such parts. -/
def regTo (xs : List Int) (s : Nat) : Nat → Bool
  | 0 => true
  | k + 1 => regTo xs s k && decide (¬ xs.getD k 0 = xs.getD (k + s) 0)
def regB (xs : List Int) (t : Nat) : Bool := regTo xs (t - 1) (xs.length + 1 - t)
theorem regTo_le {xs : List Int} {s : Nat} : ∀ {k j : Nat}, regTo xs s k = true → j ≤ k → regTo xs s j = true
  | 0, j, h, hj => by rw [show j = 0 by omega]; exact h
  | k + 1, j, h, hj => by
    by_cases e : j = k + 1
    · subst e; exact h
    · simp only [regTo, Bool.and_eq_true] at h
      exact regTo_le h.1 (by omega)
theorem regTo_no {xs : List Int} {s k n : Nat} (h : xs.getD k 0 = xs.getD (k + s) 0) (hk : k < n) : regTo xs s n = false := by
  cases hd : regTo xs s n
  · rfl
  · have := regTo_le hd (show k + 1 ≤ n by omega)
    simp only [regTo, Bool.and_eq_true, decide_eq_true_eq] at this
    exact absurd h this.2
theorem regTo_ne {xs : List Int} {s k n : Nat} (h : regTo xs s n = true) (hk : k < n) : xs.getD k 0 ≠ xs.getD (k + s) 0 := by
  have := regTo_le h (show k + 1 ≤ n by omega)
  simp only [regTo, Bool.and_eq_true, decide_eq_true_eq] at this
  exact this.2
theorem regB_ne {xs : List Int} {t : Nat} (h : regB xs t = true) {k : Nat} (hk : k + t ≤ xs.length) : xs.getD k 0 ≠ xs.getD (k + (t - 1)) 0 := regTo_ne h (by omega)
theorem regB_of {xs : List Int} {t : Nat} (h : ∀ k, k + t ≤ xs.length → xs.getD k 0 ≠ xs.getD (k + (t - 1)) 0) : regB xs t = true := by
  unfold regB
  have : ∀ n, n ≤ xs.length + 1 - t → regTo xs (t - 1) n = true := by
    intro n
    induction n with
    | zero => intro _; rfl
    | succ n ih =>
      intro hn
      simp only [regTo, Bool.and_eq_true, decide_eq_true_eq]
      exact ⟨ih (by omega), h n (by omega)⟩
  exact this _ (Nat.le_refl _)
def giB (xs : List Int) (t : Int) : Bool := good xs && inB 2 6 t
def rgB (xs : List Int) (t : Int) : Bool := giB xs t && regB xs t.toNat
theorem giB_t {xs : List Int} {t : Int} (h : giB xs t = true) : good xs = true ∧ inB 2 6 t = true := by
  simpa only [giB, Bool.and_eq_true] using h

/-! Partitions above others. -/
theorem sum_take_any (xs : List Int) (k : Nat) : (xs.take (k + 1)).sum = (xs.take k).sum + xs.getD k 0 := by
  by_cases h : k < xs.length
  · exact sum_take_succ xs k h
  · rw [List.take_of_length_le (by omega), List.take_of_length_le (by omega), getD_beyond (by omega)]; omega
def abTo (p q : List Int) : Nat → Bool
  | 0 => true
  | k + 1 => abTo p q k && decide ((q.take (k + 1)).sum ≤ (p.take (k + 1)).sum)
theorem abTo_le {p q : List Int} : ∀ {k j : Nat}, abTo p q k = true → j ≤ k → abTo p q j = true
  | 0, j, h, hj => by rw [show j = 0 by omega]; exact h
  | k + 1, j, h, hj => by
    by_cases e : j = k + 1
    · subst e; exact h
    · simp only [abTo, Bool.and_eq_true] at h
      exact abTo_le h.1 (by omega)
theorem abTo_no {p q : List Int} {k n : Nat} (h : ¬ (q.take (k + 1)).sum ≤ (p.take (k + 1)).sum) (hk : k < n) : abTo p q n = false := by
  cases hd : abTo p q n
  · rfl
  · have := abTo_le hd (show k + 1 ≤ n by omega)
    simp only [abTo, Bool.and_eq_true, decide_eq_true_eq] at this
    exact absurd this.2 h
theorem abTo_at {p q : List Int} {k n : Nat} (h : abTo p q n = true) (hk : k ≤ n) : (q.take k).sum ≤ (p.take k).sum := by
  cases k with
  | zero => simp
  | succ k =>
    have := abTo_le h hk
    simp only [abTo, Bool.and_eq_true, decide_eq_true_eq] at this
    exact this.2
theorem abTo_of {p q : List Int} {n : Nat} (h : ∀ k, k ≤ n → (q.take k).sum ≤ (p.take k).sum) : abTo p q n = true := by
  induction n with
  | zero => rfl
  | succ n ih =>
    simp only [abTo, Bool.and_eq_true, decide_eq_true_eq]
    exact ⟨ih fun k hk => h k (by omega), h (n + 1) (Nat.le_refl _)⟩
def abB (p q : List Int) : Bool := abTo p q (max p.length q.length) && decide (p.sum = q.sum)
theorem take_le_sum {p : List Int} (hp : ∀ j, j < p.length → 1 ≤ p.getD j 0) (k : Nat) : (p.take k).sum ≤ p.sum ∧ (k < p.length → (p.take k).sum < p.sum) := by
  have step : ∀ d, k + d ≤ p.length → (p.take k).sum + d ≤ (p.take (k + d)).sum := by
    intro d
    induction d with
    | zero => intro _; simp
    | succ d ih =>
      intro h
      have := ih (by omega)
      have h1 := sum_take_succ p (k + d) (by omega)
      have h2 := hp (k + d) (by omega)
      rw [show k + (d + 1) = k + d + 1 by omega]; omega
  by_cases h : k ≤ p.length
  · have := step (p.length - k) (by omega)
    rw [show k + (p.length - k) = p.length by omega, List.take_of_length_le (Nat.le_refl _)] at this
    exact ⟨by omega, fun _ => by omega⟩
  · rw [List.take_of_length_le (by omega)]
    exact ⟨Int.le_refl _, fun h2 => by omega⟩
/-- As the program asks it. -/
theorem ab_impl {p q : List Int} (Gp : Good p) (Gq : Good q) (hs : p.sum = q.sum) : abB p q = (decide (p.length ≤ q.length) && abTo p q p.length) := by
  unfold abB
  rw [decide_eq_true hs, Bool.and_true]
  cases hb : (decide (p.length ≤ q.length) && abTo p q p.length)
  · cases ha : abTo p q (max p.length q.length)
    · rfl
    · exfalso
      have h1 := abTo_le ha (show p.length ≤ max p.length q.length by omega)
      rw [h1, Bool.and_true, decide_eq_false_iff_not] at hb
      have h2 := abTo_at ha (show q.length ≤ max p.length q.length by omega)
      rw [List.take_of_length_le (l := q) (Nat.le_refl _)] at h2
      exact hb (by
        apply Classical.byContradiction
        intro hlt
        have := (take_le_sum Gp.pos q.length).2 (by omega)
        omega)
  · simp only [Bool.and_eq_true, decide_eq_true_eq] at hb
    refine abTo_of fun k hk => ?_
    by_cases h : k ≤ p.length
    · exact abTo_at hb.2 h
    · rw [List.take_of_length_le (l := p) (by omega), hs]
      exact (take_le_sum Gq.pos k).1
theorem ab_sum {p q : List Int} (hs : ¬ p.sum = q.sum) : abB p q = false := by unfold abB; rw [decide_eq_false hs, Bool.and_false]
def aaB (p q : List Int) : Bool := good p && (good q && abB p q)
end Go.Proofs.Ytiebnnchaopbkaa
/-
  Contracts: regular partitions, ladders of cells, partitions above others: IsRegular, LadderOf, IsAbove of the program and of the model.
-/
namespace Go.Proofs.Ytiebnnchaopbkaa
open Go.RowKit

/-! Ladders. -/
def ldB (r c t : Int) : Bool := inB 0 30 r && (inB 0 30 c && inB 2 6 t)
def ldF (r c t : Int) : Int := if ldB r c t then r + (t - 1) * c else 0
theorem mul_bd {t c : Int} (ht : 2 ≤ t ∧ t ≤ 6) (hc : 0 ≤ c ∧ c ≤ 30) : 0 ≤ (t - 1) * c ∧ (t - 1) * c ≤ 150 := by
  refine ⟨Int.mul_nonneg (by omega) (by omega), ?_⟩
  have h1 : (t - 1) * c ≤ 5 * c := Int.mul_le_mul_of_nonneg_right (by omega) (by omega)
  omega
theorem okN_in (n : Int) : okN n = inB 0 30 n := rfl
end Go.Proofs.Ytiebnnchaopbkaa
/-
  Contracts: which row comes before, and regular ones, as the laws ask for them.
-/
namespace Go.Proofs.Ytiebnnchaopbkaa
open Go.RowKit

theorem bef_at {p q : List Int} {k : Nat} (h1 : k < p.length) (h2 : k < q.length) : befB (p.drop k) (q.drop k) = if p.getD k 0 = q.getD k 0 then befB (p.drop (k + 1)) (q.drop (k + 1)) else decide (q.getD k 0 < p.getD k 0) := by
  rw [drop_getD p k h1, drop_getD q k h2]; rfl
set_option maxRecDepth 100000 in
set_option maxHeartbeats 1000000 in
theorem qBefore_any (A B : Option Addr) (c d : Nat) (xs ys : List Int) (w : World) (hl : xs.length ≤ 1048576) (hl2 : ys.length ≤ 1048576) (hA : Cells w A xs) (hB : Cells w B ys) :
    Calls Try.prog 17 #[.slice A xs.length c, .slice B ys.length d] w fun e w' => e = .returned (.bool (befB xs ys)) ∧ Below w.heap.size w w' := by
  go_enter Try.func17, Try.ntmps17
  go_wp2_with fail
  go_loopw [5] (fun i wr => ∃ k : Nat, k ≤ xs.length ∧ k ≤ ys.length ∧ i = .int .i64 k ∧ Hid (befB xs ys = befB (xs.drop k) (ys.drop k)) ∧ ∃ n, wr = w.drewN n) (fun i _ => xs.length - (intOf i).toNat)
  case atStart => exact ⟨0, Nat.zero_le _, Nat.zero_le _, rfl, hid (by simp), 0, rfl⟩
  case round =>
    obtain ⟨k, hk, hk2, rfl, HE, n, rfl⟩ := hrel
    by_cases hlt : k < xs.length
    · by_cases hlt2 : k < ys.length
      · obtain ⟨b, o, rfl, hcc⟩ := hA (by omega)
        obtain ⟨b2, o2, rfl, hcc2⟩ := hB (by omega)
        have hck := hcc k hlt
        have hck2 := hcc2 k hlt2
        have HF := hid (HE.out.trans (bef_at hlt hlt2))
        clear hcc hcc2
        obtain ⟨x, hx⟩ : ∃ x, x = xs.getD k 0 := ⟨_, rfl⟩
        obtain ⟨y, hy⟩ : ∃ y, y = ys.getD k 0 := ⟨_, rfl⟩
        rw [← hx] at hck HF
        rw [← hy] at hck2 HF
        clear hx hy
        by_cases he : x = y
        · subst he
          go_wp2_with fail
          go_quiet (fail)
          go_wp2_with fail
          go_roundw
          case rel => exact ⟨k + 1, by omega, by omega, by go_num, hid (by rw [HF.out]; simp), _, rfl⟩
          case measure => simp [intOf]; omega
        · have heb : (x != y) = true := by simpa using he
          have heb2 : (x == y) = false := by simpa using he
          have HN := hid he
          clear he
          go_wp2_with fail
          go_quiet (fail)
          go_wp2_with fail
          go_quiet (fail)
          go_wp2_with fail
          go_ret
          exact ⟨ret_bool (by rw [HF.out, if_neg HN.out]), by first | exact below_drew' _ _ | exact Below.next (below_drew' _ _) (below_drew' _ _) | exact Below.next (Below.next (below_drew' _ _) (below_drew' _ _)) (below_drew' _ _)⟩
      · have h2 : ¬ (k : Int) < (ys.length : Int) := by omega
        have HN := hid hlt2
        go_wp2_with fail
        go_ret
        exact ⟨ret_bool (by rw [HE.out, befB_end (.inr (by have := HN.out; omega))]), below_drew' _ _⟩
    · have h1 : ¬ (k : Int) < (xs.length : Int) := by omega
      have HN := hid hlt
      go_wp2_with fail
      go_ret
      exact ⟨ret_bool (by rw [HE.out, befB_end (.inl (by have := HN.out; omega))]), below_drew' _ _⟩
end Go.Proofs.Ytiebnnchaopbkaa
