/-
  Numbers of choices; CountBoth on both sides.
-/
import Derived.Test.YtnjhjdidohdkmaaGrt
import Derived.Test.YtnjhjdidohdkmaaFac
namespace Go.Proofs.Ytnjhjdidohdkmaa
open Go.RowKit

theorem fac_bd : ∀ k < 15, 1 ≤ fac k ∧ fac k ≤ 87178291200 := by decide +kernel
theorem fac_bd2 : ∀ n < 15, ∀ k < 15, k ≤ n → 1 ≤ fac k * fac (n - k) ∧ fac k * fac (n - k) ≤ 87178291200 := by decide +kernel
def chs (k n : Nat) : Int := fac n / (fac k * fac (n - k))
/-- The other side's number after i steps. -/
def cho (n k : Nat) : Nat → Int
  | 0 => 1
  | i + 1 => cho n k i * ((n : Int) - k + ((i : Int) + 1)) / ((i : Int) + 1)
theorem cho_bdN : ((List.range 15).all fun n => (List.range n).all fun k => (List.range k).all fun i => decide ((0 ≤ cho n k i ∧ cho n k i ≤ 100000) ∧ 0 ≤ cho n k i * ((n : Int) - k + ((i : Int) + 1)) ∧ cho n k i * ((n : Int) - k + ((i : Int) + 1)) ≤ 10000000)) = true := by decide +kernel
theorem cho_bd (n : Nat) (hn : n < 15) (k : Nat) (hk : k < n) (i : Nat) (hi : i < k) : (0 ≤ cho n k i ∧ cho n k i ≤ 100000) ∧ (0 ≤ cho n k i * ((n : Int) - k + ((i : Int) + 1)) ∧ cho n k i * ((n : Int) - k + ((i : Int) + 1)) ≤ 10000000) := by
  have h1 := List.all_eq_true.1 cho_bdN n (List.mem_range.2 hn)
  have h2 := List.all_eq_true.1 h1 k (List.mem_range.2 hk)
  have h3 := List.all_eq_true.1 h2 i (List.mem_range.2 hi)
  exact of_decide_eq_true h3
theorem cho_chsN : ∀ n < 15, ∀ k < 15, k ≤ n → cho n k k = chs k n := by decide +kernel

theorem factorial_any (n : Nat) (w : World) (_ : 1 ≤ n) (h2 : n < 15) :
    Calls Try.prog 56 #[.int .i64 n] w fun e w' => e = .returned (.int .i64 (fac n)) ∧ w = w' := facto_any n w (by omega)

set_option maxRecDepth 100000 in
set_option maxHeartbeats 800000 in
theorem choices_any (k n : Nat) (w : World) (h1 : 1 ≤ k) (h2 : k < n) (h3 : n < 15) :
    Calls Try.prog 30 #[.int .i64 k, .int .i64 n] w fun e w' => e = .returned (.int .i64 (chs k n)) ∧ w = w' := by
  have H1 := hid fun W => factorial_any k W h1 (by omega)
  have H2 := hid fun W => factorial_any n W (by omega) h3
  have H3 := hid fun W => factorial_any (n - k) W (by omega) (by omega)
  have hnk : (n : Int) - k = ((n - k : Nat) : Int) := by omega
  have hb := fac_bd2 n h3 k (by omega) (by omega)
  have hb1 := fac_bd n h3
  have HE := hid (show chs k n = fac n / (fac k * fac (n - k)) from rfl)
  rw [← hnk] at H3
  obtain ⟨x, hx⟩ : ∃ x, x = fac k := ⟨_, rfl⟩
  obtain ⟨y, hy⟩ : ∃ y, y = fac n := ⟨_, rfl⟩
  obtain ⟨z, hz⟩ : ∃ z, z = fac (n - k) := ⟨_, rfl⟩
  obtain ⟨v, hv⟩ : ∃ v, v = chs k n := ⟨_, rfl⟩
  rw [← hx] at H1
  rw [← hy] at H2 hb1
  rw [← hz] at H3
  rw [← hx, ← hz] at hb
  rw [← hv, ← hx, ← hy, ← hz] at HE
  rw [← hv]
  have hne : ¬ x * z = 0 := by omega
  clear hx hy hz hv hnk
  go_enter Try.func30, Try.ntmps30
  go_wp2_with fail
  refine (H2.out _).mono ?_
  rintro e w1 ⟨rfl, rfl⟩
  go_wp2_with fail
  refine (H1.out _).mono ?_
  rintro e w1 ⟨rfl, rfl⟩
  go_wp2_with fail
  refine (H3.out _).mono ?_
  rintro e w1 ⟨rfl, rfl⟩
  go_wp2_with fail
  go_ret
  exact ⟨ret_int HE.out.symm, rfl⟩

set_option maxRecDepth 100000 in
set_option maxHeartbeats 800000 in
theorem boChoose_any (n k : Nat) (w : World) (h1 : 1 ≤ k) (h2 : k < n) (h3 : n < 15) :
    Calls Try.prog 31 #[.int .i64 n, .int .i64 k] w fun e w' => e = .returned (.int .i64 (chs k n)) ∧ w = w' := by
  rw [← cho_chsN n h3 k (by omega) (by omega)]
  go_enter Try.func31, Try.ntmps31
  go_wp2_with fail
  go_loop [5, 6] (fun p i => ∃ j : Nat, j ≤ k ∧ i = .int .i64 ((j : Int) + 1) ∧ p = .int .i64 (cho n k j)) (fun _ i => 20 - (intOf i).toNat)
  case atStart => exact ⟨0, by omega, rfl, rfl⟩
  case round =>
    obtain ⟨j, hj, rfl, rfl⟩ := hrel
    by_cases hlt : j < k
    · obtain ⟨hb0, hb⟩ := cho_bd n h3 k h2 j hlt
      have HS := hid (show cho n k (j + 1) = cho n k j * ((n : Int) - k + ((j : Int) + 1)) / ((j : Int) + 1) from rfl)
      obtain ⟨f, hf⟩ : ∃ f, f = cho n k j := ⟨_, rfl⟩
      rw [← hf] at hb hb0 HS ⊢
      have hne : ¬ (j : Int) + 1 = 0 := by omega
      clear hf
      go_wp2_with fail
      go_round
      case rel => exact ⟨j + 1, by omega, by go_num, by rw [HS.out]⟩
      case measure => show 20 - ((j : Int) + 1 + 1).toNat < 20 - ((j : Int) + 1).toNat; omega
    · have hkl : j = k := by omega
      subst hkl
      go_wp2_with fail
      go_ret
      exact ⟨rfl, rfl⟩

def cbF (a b : Int) : Int := if sz a b then chs a.toNat (a + b).toNat / (a + b) else 0
theorem cb_bd {a b : Int} (hs : sz a b = true) : (0 ≤ cbF a b ∧ cbF a b ≤ 100) ∧ (0 ≤ chs a.toNat (a + b).toNat ∧ chs a.toNat (a + b).toNat ≤ 10000) :=
  sz_nat (p := fun a b => (0 ≤ cbF a b ∧ cbF a b ≤ 100) ∧ (0 ≤ chs a.toNat (a + b).toNat ∧ chs a.toNat (a + b).toNat ≤ 10000)) (by decide +kernel) hs
set_option maxRecDepth 100000 in
set_option maxHeartbeats 800000 in
theorem CountBoth_b (a b : Int) (w : World) (t : Bool) (ht : sz a b = t) :
    Calls Try.prog 6 #[.int .i64 a, .int .i64 b] w fun e w' => e = .returned (.tuple #[.int .i64 (cbF a b), .bool t]) ∧ Below w.heap.size w w' := by
  have HT := hid ht
  cases t
  · rw [show cbF a b = 0 by simp [cbF, ht]]
    clear ht
    go_enter Try.func6, Try.ntmps6
    go_wp2_with (go_at_call 18; refine (AreSizes_b _ _ _ _ HT.out).mono ?_; rintro e w1 ⟨rfl, b1⟩)
    go_ret2
    exact ⟨rfl, b1⟩
  · obtain ⟨ha, hb, -⟩ := sz_iff.1 ht
    have hbd := (cb_bd ht).2
    rw [show cbF a b = chs a.toNat (a + b).toNat / (a + b) by simp [cbF, ht]]
    have HC := hid fun W => choices_any a.toNat (a + b).toNat W (by omega) (by omega) (by omega)
    rw [Int.toNat_of_nonneg (by omega), Int.toNat_of_nonneg (by omega)] at HC
    obtain ⟨v, hv⟩ : ∃ v, v = chs a.toNat (a + b).toNat := ⟨_, rfl⟩
    rw [← hv] at HC hbd ⊢
    have hne : ¬ a + b = 0 := by omega
    have hab : 0 ≤ a + b := by omega
    clear hv ht
    go_enter Try.func6, Try.ntmps6
    go_wp2_with (first | (go_at_call 18; refine (AreSizes_b _ _ _ _ HT.out).mono ?_; rintro e w1 ⟨rfl, b1⟩) | (go_at_call 30; refine (HC.out _).mono ?_; rintro e w2 ⟨rfl, rfl⟩))
    go_ret2
    exact ⟨rfl, b1⟩
theorem impl_CountBoth (a b : Int) (w : World) (_ : I64 a) (_ : I64 b) :
    Calls Try.prog 6 #[.int .i64 a, .int .i64 b] w fun e w' => e = .returned (.tuple #[.int .i64 (cbF a b), .bool (sz a b)]) ∧ Below w.heap.size w w' := CountBoth_b a b w _ rfl
set_option maxRecDepth 100000 in
set_option maxHeartbeats 800000 in
theorem spec_CountBoth (a b : Int) (w : World) (_ : I64 a) (_ : I64 b) :
    Calls Try.prog 7 #[.int .i64 a, .int .i64 b] w fun e w' => e = .returned (.tuple #[.int .i64 (cbF a b), .bool (sz a b)]) ∧ Below w.heap.size w w' := by
  cases ht : sz a b
  · have HT := hid ht
    rw [show cbF a b = 0 by simp [cbF, ht]]
    clear ht
    go_enter Try.func7, Try.ntmps7
    go_wp2_with (go_at_call 28; refine (boSizes_b _ _ _ _ HT.out).mono ?_; rintro e w1 ⟨rfl, rfl⟩)
    go_ret2
    exact ⟨rfl, Below.refl _ _⟩
  · have HT := hid ht
    obtain ⟨ha, hb, -⟩ := sz_iff.1 ht
    have hbd := (cb_bd ht).2
    rw [show cbF a b = chs a.toNat (a + b).toNat / (a + b) by simp [cbF, ht]]
    have HC := hid fun W => boChoose_any (a + b).toNat a.toNat W (by omega) (by omega) (by omega)
    rw [Int.toNat_of_nonneg (by omega), Int.toNat_of_nonneg (by omega)] at HC
    obtain ⟨v, hv⟩ : ∃ v, v = chs a.toNat (a + b).toNat := ⟨_, rfl⟩
    rw [← hv] at HC hbd ⊢
    have hne : ¬ a + b = 0 := by omega
    have hab : 0 ≤ a + b := by omega
    clear hv ht
    go_enter Try.func7, Try.ntmps7
    go_wp2_with (first | (go_at_call 28; refine (boSizes_b _ _ _ _ HT.out).mono ?_; rintro e w1 ⟨rfl, rfl⟩) | (go_at_call 31; refine (HC.out _).mono ?_; rintro e w2 ⟨rfl, rfl⟩))
    go_ret2
    exact ⟨rfl, Below.refl _ _⟩
end Go.Proofs.Ytnjhjdidohdkmaa
