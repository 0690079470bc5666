/-
  Several texts in one.
-/
import Derived.Test.YtijfefahogcfmaaGreatR05
import Derived.Test.YtijfefahogcfmaaGreatR31
import Derived.Test.YtijfefahogcfmaaGreatR15
import Derived.Test.YtijfefahogcfmaaGreatR16
import Derived.Test.YtijfefahogcfmaaGreatR30
/-
  Numbers of choices; CountBoth on both sides.
-/
namespace Go.Proofs.YtijfefahogcfmaaGreat
open Go.RowKit

theorem fac_bd : ∀ k < 15, 1 ≤ fac k ∧ fac k ≤ 87178291200 := by decide +kernel
theorem fac_bd2 : ∀ n < 15, ∀ k < 15, k ≤ n → 1 ≤ fac k * fac (n - k) ∧ fac k * fac (n - k) ≤ 87178291200 := by decide +kernel
def chs (k n : Nat) : Int := fac n / (fac k * fac (n - k))
/-- The other side's number after i steps. -/
def cho (n k : Nat) : Nat → Int
  | 0 => 1
  | i + 1 => cho n k i * ((n : Int) - k + ((i : Int) + 1)) / ((i : Int) + 1)
theorem cho_bdN : ((List.range 15).all fun n => (List.range n).all fun k => (List.range k).all fun i => decide ((0 ≤ cho n k i ∧ cho n k i ≤ 100000) ∧ 0 ≤ cho n k i * ((n : Int) - k + ((i : Int) + 1)) ∧ cho n k i * ((n : Int) - k + ((i : Int) + 1)) ≤ 10000000)) = true := by decide +kernel
theorem cho_bd (n : Nat) (hn : n < 15) (k : Nat) (hk : k < n) (i : Nat) (hi : i < k) : (0 ≤ cho n k i ∧ cho n k i ≤ 100000) ∧ (0 ≤ cho n k i * ((n : Int) - k + ((i : Int) + 1)) ∧ cho n k i * ((n : Int) - k + ((i : Int) + 1)) ≤ 10000000) := by
  have h1 := List.all_eq_true.1 cho_bdN n (List.mem_range.2 hn)
  have h2 := List.all_eq_true.1 h1 k (List.mem_range.2 hk)
  have h3 := List.all_eq_true.1 h2 i (List.mem_range.2 hi)
  exact of_decide_eq_true h3
theorem cho_chsN : ∀ n < 15, ∀ k < 15, k ≤ n → cho n k k = chs k n := by decide +kernel

theorem factorial_any (n : Nat) (w : World) (_ : 1 ≤ n) (h2 : n < 15) :
    Calls Tryz.prog 57 #[.int .i64 n] w fun e w' => e = .returned (.int .i64 (fac n)) ∧ w = w' := facto_any n w (by omega)

set_option maxRecDepth 100000 in
set_option maxHeartbeats 800000 in
theorem choices_any (k n : Nat) (w : World) (h1 : 1 ≤ k) (h2 : k < n) (h3 : n < 15) :
    Calls Tryz.prog 34 #[.int .i64 k, .int .i64 n] w fun e w' => e = .returned (.int .i64 (chs k n)) ∧ w = w' := by
  have H1 := hid fun W => factorial_any k W h1 (by omega)
  have H2 := hid fun W => factorial_any n W (by omega) h3
  have H3 := hid fun W => factorial_any (n - k) W (by omega) (by omega)
  have hnk : (n : Int) - k = ((n - k : Nat) : Int) := by omega
  have hb := fac_bd2 n h3 k (by omega) (by omega)
  have hb1 := fac_bd n h3
  have HE := hid (show chs k n = fac n / (fac k * fac (n - k)) from rfl)
  rw [← hnk] at H3
  obtain ⟨x, hx⟩ : ∃ x, x = fac k := ⟨_, rfl⟩
  obtain ⟨y, hy⟩ : ∃ y, y = fac n := ⟨_, rfl⟩
  obtain ⟨z, hz⟩ : ∃ z, z = fac (n - k) := ⟨_, rfl⟩
  obtain ⟨v, hv⟩ : ∃ v, v = chs k n := ⟨_, rfl⟩
  rw [← hx] at H1
  rw [← hy] at H2 hb1
  rw [← hz] at H3
  rw [← hx, ← hz] at hb
  rw [← hv, ← hx, ← hy, ← hz] at HE
  rw [← hv]
  have hne : ¬ x * z = 0 := by omega
  clear hx hy hz hv hnk
  go_enter Tryz.func34, Tryz.ntmps34
  go_wp2_with fail
  refine (H2.out _).mono ?_
  rintro e w1 ⟨rfl, rfl⟩
  go_wp2_with fail
  refine (H1.out _).mono ?_
  rintro e w1 ⟨rfl, rfl⟩
  go_wp2_with fail
  refine (H3.out _).mono ?_
  rintro e w1 ⟨rfl, rfl⟩
  go_wp2_with fail
  go_ret
  exact ⟨ret_int HE.out.symm, rfl⟩

def cbF (a b : Int) : Int := if sz a b then chs a.toNat (a + b).toNat / (a + b) else 0
theorem cb_bd {a b : Int} (hs : sz a b = true) : (0 ≤ cbF a b ∧ cbF a b ≤ 100) ∧ (0 ≤ chs a.toNat (a + b).toNat ∧ chs a.toNat (a + b).toNat ≤ 10000) :=
  sz_nat (p := fun a b => (0 ≤ cbF a b ∧ cbF a b ≤ 100) ∧ (0 ≤ chs a.toNat (a + b).toNat ∧ chs a.toNat (a + b).toNat ≤ 10000)) (by decide +kernel) hs
set_option maxRecDepth 100000 in
set_option maxHeartbeats 800000 in
theorem CountBoth_b (a b : Int) (w : World) (t : Bool) (ht : sz a b = t) :
    Calls Tryz.prog 13 #[.int .i64 a, .int .i64 b] w fun e w' => e = .returned (.tuple #[.int .i64 (cbF a b), .bool t]) ∧ Below w.heap.size w w' := by
  have HT := hid ht
  cases t
  · rw [show cbF a b = 0 by simp [cbF, ht]]
    clear ht
    go_enter Tryz.func13, Tryz.ntmps13
    go_wp2_with (go_at_call 26; refine (AreSizes_b _ _ _ _ HT.out).mono ?_; rintro e w1 ⟨rfl, b1⟩)
    go_ret2
    exact ⟨rfl, b1⟩
  · obtain ⟨ha, hb, -⟩ := sz_iff.1 ht
    have hbd := (cb_bd ht).2
    rw [show cbF a b = chs a.toNat (a + b).toNat / (a + b) by simp [cbF, ht]]
    have HC := hid fun W => choices_any a.toNat (a + b).toNat W (by omega) (by omega) (by omega)
    rw [Int.toNat_of_nonneg (by omega), Int.toNat_of_nonneg (by omega)] at HC
    obtain ⟨v, hv⟩ : ∃ v, v = chs a.toNat (a + b).toNat := ⟨_, rfl⟩
    rw [← hv] at HC hbd ⊢
    have hne : ¬ a + b = 0 := by omega
    have hab : 0 ≤ a + b := by omega
    clear hv ht
    go_enter Tryz.func13, Tryz.ntmps13
    go_wp2_with (first | (go_at_call 26; refine (AreSizes_b _ _ _ _ HT.out).mono ?_; rintro e w1 ⟨rfl, b1⟩) | (go_at_call 34; refine (HC.out _).mono ?_; rintro e w2 ⟨rfl, rfl⟩))
    go_ret2
    exact ⟨rfl, b1⟩
theorem impl_CountBoth (a b : Int) (w : World) (_ : I64 a) (_ : I64 b) :
    Calls Tryz.prog 13 #[.int .i64 a, .int .i64 b] w fun e w' => e = .returned (.tuple #[.int .i64 (cbF a b), .bool (sz a b)]) ∧ Below w.heap.size w w' := CountBoth_b a b w _ rfl
end Go.Proofs.YtijfefahogcfmaaGreat
/-
  Walks and ranks of the cores for two sizes undo each other: checked over all sizes. No walk of a program in this text.
-/
namespace Go.Proofs.YtijfefahogcfmaaGreat
open Go.RowKit

def wobP (a b : Int) (p : List Int) : Bool :=
  wkOk a b (wkL a b (beadsL p p.length)) && decide (partsL (insAll (hwL a b (wkL a b (beadsL p p.length)) (wkL a b (beadsL p p.length)).length)) = p) &&
  (decide (rkN (boL a b) p (boL a b).length < (boL a b).length) && decide ((boL a b).getD (rkN (boL a b) p (boL a b).length) [] = p))
def wobW (a b : Int) (W : List Int) : Bool :=
  ibB (partsL (insAll (hwL a b W W.length))) a b && decide (wkL a b (beadsL (partsL (insAll (hwL a b W W.length))) (partsL (insAll (hwL a b W W.length))).length) = W)
def wobK (a b : Int) : Bool := decide (((boL a b).length : Int) = cbF a b) && (List.range (boL a b).length).all fun k => ibB ((boL a b).getD k []) a b && decide (rkN (boL a b) ((boL a b).getD k []) (boL a b).length = k)
theorem wob_p {a b : Int} (hs : sz a b = true) : (boL a b).all (wobP a b) = true := sz_nat (p := fun a b => (boL a b).all (wobP a b) = true) (by decide +kernel) hs
theorem wob_w {a b : Int} (hs : sz a b = true) : (wks a b (a - 1).toNat 0 1000).all (wobW a b) = true := sz_nat (p := fun a b => (wks a b (a - 1).toNat 0 1000).all (wobW a b) = true) (by decide +kernel) hs
theorem wob_k {a b : Int} (hs : sz a b = true) : wobK a b = true := sz_nat (p := fun a b => wobK a b = true) (by decide +kernel) hs
theorem ib_sz {p : List Int} {a b : Int} (h : ibB p a b = true) : sz a b = true ∧ good p = true := by
  rw [ibB, Bool.and_eq_true, Bool.and_eq_true] at h
  exact ⟨h.1.2, h.1.1⟩
theorem rbOk_ib (p : List Int) (a b : Int) : rbOk p a b = ibB p a b := by
  unfold rbOk
  cases h : ibB p a b
  · rw [Bool.and_false]
  · rw [(ib_sz h).1]; rfl
/-- A core's walk makes it again, and its rank, too. -/
theorem wob_one {p : List Int} {a b : Int} (h : ibB p a b = true) : bwOk (wbF p a b) a b = true ∧ bwF (wbF p a b) a b = p ∧ baOk a b (rbF p a b) = true ∧ baF a b (rbF p a b) = p ∧ wkOk a b (wbF p a b) = true := by
  obtain ⟨hs, -⟩ := ib_sz h
  have hc := List.all_eq_true.1 (wob_p hs) p (core_mem hs h)
  unfold wobP at hc
  simp only [Bool.and_eq_true, decide_eq_true_eq] at hc
  obtain ⟨⟨c1, c2⟩, c3, c4⟩ := hc
  have ew : wbF p a b = wkL a b (beadsL p p.length) := by unfold wbF; rw [if_pos h]
  have er : rbF p a b = ((rkN (boL a b) p (boL a b).length : Nat) : Int) := by unfold rbF; rw [if_pos (by rw [rbOk_ib]; exact h)]
  have hb : bwOk (wbF p a b) a b = true := by unfold bwOk; rw [hs, ew, c1]; rfl
  have hk : baOk a b (rbF p a b) = true := by
    unfold baOk
    rw [er, ab_yes hs]
    exact decide_eq_true ⟨by omega, by omega⟩
  refine ⟨hb, ?_, hk, ?_, by rw [ew]; exact c1⟩
  · unfold bwF; rw [if_pos hb, ew]; exact c2
  · unfold baF; rw [if_pos hk, er, ab_yes hs, Int.toNat_natCast]; exact c4
/-- A walk's core has that walk. -/
theorem wob_two {W : List Int} {a b : Int} (h : bwOk W a b = true) : ibB (bwF W a b) a b = true ∧ wbF (bwF W a b) a b = W := by
  have h2 := h
  unfold bwOk at h2
  rw [Bool.and_eq_true] at h2
  have hc := List.all_eq_true.1 (wob_w h2.1) W (wk_mem h2.1 h2.2)
  unfold wobW at hc
  simp only [Bool.and_eq_true, decide_eq_true_eq] at hc
  have e : bwF W a b = partsL (insAll (hwL a b W W.length)) := by unfold bwF; rw [if_pos h]
  rw [e]
  refine ⟨hc.1, ?_⟩
  unfold wbF
  rw [if_pos hc.1]; exact hc.2
theorem wob_len {a b : Int} (hs : sz a b = true) : ((boL a b).length : Int) = cbF a b := by
  have hc := wob_k hs
  unfold wobK at hc
  simp only [Bool.and_eq_true, decide_eq_true_eq] at hc
  exact hc.1
/-- What lies at a rank has it. -/
theorem wob_three {a b k : Int} (h : baOk a b k = true) : ibB (baF a b k) a b = true ∧ rbF (baF a b k) a b = k := by
  have h2 := h
  unfold baOk at h2
  rw [decide_eq_true_eq] at h2
  have hs : sz a b = true := by
    cases hz : sz a b
    · rw [ab_no hz] at h2; simp at h2; omega
    · rfl
  rw [ab_yes hs] at h2
  have hc := wob_k hs
  unfold wobK at hc
  simp only [Bool.and_eq_true, List.all_eq_true, decide_eq_true_eq] at hc
  obtain ⟨k, rfl⟩ : ∃ n : Nat, k = n := ⟨k.toNat, by omega⟩
  have hk := hc.2 k (List.mem_range.2 (by omega))
  have e : baF a b k = (boL a b).getD k [] := by unfold baF; rw [if_pos h, ab_yes hs, Int.toNat_natCast]
  rw [e]
  refine ⟨hk.1, ?_⟩
  unfold rbF
  rw [if_pos (by rw [rbOk_ib]; exact hk.1), hk.2]
theorem wob_no {a b k : Int} (h : baOk a b k = false) (hs : sz a b = true) : k < 0 ∨ cbF a b ≤ k := by
  unfold baOk at h
  rw [decide_eq_false_iff_not, ab_yes hs, wob_len hs] at h
  omega
end Go.Proofs.YtijfefahogcfmaaGreat
