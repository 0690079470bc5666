/-
  Contracts: ClassSize and SignOfClass on both sides.
-/
import Derived.Test.YtmbfobcbnnalbaaCyc
namespace Go.Proofs.Ytmbfobcbnnalbaa
open Go.RowKit

def szF (xs : List Int) : Int := if cycB xs then fac xs.sum.toNat / wgt xs xs.length else 0
def sgF (xs : List Int) : Int := if cycB xs then sgn (xs.sum - xs.length) else 0
theorem quo_fac {f g : Int} (hf : 1 ≤ f ∧ f ≤ 2432902008176640000) (hg : 1 ≤ g) : f.tdiv g = f / g ∧ IntKind.i64.wrap (f / g) = f / g := by
  have h1 : 0 ≤ f / g := Int.ediv_nonneg (by omega) (by omega)
  have h2 : f / g ≤ f := Int.ediv_le_self _ (by omega)
  exact ⟨Int.tdiv_eq_ediv_of_nonneg (by omega), IntWalk.i64_in _ (by omega)⟩

set_option maxRecDepth 100000 in
set_option maxHeartbeats 1000000 in
theorem impl_ClassSize' (A : Option Addr) (c : Nat) (xs : List Int) (w : World) (hl : xs.length ≤ 1048576) (hc : Cells w A xs) :
    Calls Try.prog 57 #[.slice A xs.length c] w fun e w' => e = .returned (.tuple #[.int .i64 (szF xs), .bool (cycB xs)]) ∧ Below w.heap.size w w' := by
  cases hb : cycB xs
  · rw [show szF xs = 0 by simp [szF, hb]]
    have HS := hid (sumOfCycles_f A c xs w hl hc hb)
    clear hb
    go_enter Try.func57, Try.ntmps57
    go_wp2_with (go_at_call 118; refine HS.out.mono ?_; rintro e w' ⟨rfl, rfl⟩)
    go_ret2
    exact ⟨rfl, Below.refl _ _⟩
  · have HS := hid (sumOfCycles_t A c xs w hl hc hb)
    have hw := impl_ClassWeight' A c xs w hl hc
    rw [hb, show wgtF xs = wgt xs xs.length by simp [wgtF, hb]] at hw
    obtain ⟨_, h0, h12, _, _⟩ := cyc_len hb
    have hwb := wgt_le hb xs.length (Nat.le_refl _)
    rw [show szF xs = fac xs.sum.toNat / wgt xs xs.length by simp [szF, hb]]
    obtain ⟨n, hn⟩ : ∃ n : Nat, xs.sum = n := ⟨xs.sum.toNat, by omega⟩
    rw [hn] at HS h12 ⊢
    rw [Int.toNat_natCast]
    have hfb := fac_bd20 n (by omega)
    have HF := hid fun W => facto_any n W (by omega)
    obtain ⟨g, hg⟩ : ∃ g, g = wgt xs xs.length := ⟨_, rfl⟩
    obtain ⟨f, hf⟩ : ∃ f, f = fac n := ⟨_, rfl⟩
    rw [← hg] at hw hwb ⊢
    rw [← hf] at HF hfb ⊢
    have HW := hid hw
    obtain ⟨q1, q2⟩ := quo_fac hfb hwb.1
    have hne : ¬ g = 0 := by omega
    have hwr : IntKind.i64.wrap (f.tdiv g) = f / g := by rw [q1, q2]
    clear hb hg hf hw hn q1 q2 h0
    go_enter Try.func57, Try.ntmps57
    go_wp2_with (first | (go_at_call 118; refine HS.out.mono ?_; rintro e w' ⟨rfl, rfl⟩) | (go_at_call 59; refine HW.out.mono ?_; rintro e w2 ⟨rfl, b2⟩) | (go_at_call 123; refine (HF.out _).mono ?_; rintro e w' ⟨rfl, rfl⟩))
    go_ret2
    exact ⟨rfl, b2⟩

set_option maxRecDepth 100000 in
set_option maxHeartbeats 1000000 in
theorem spec_ClassSize {B : Nat} (A : Option Addr) (c : Nat) (xs : List Int) (w : World) (hl : xs.length ≤ 1048576) (ho : Own w B A c xs) :
    Calls Try.prog 56 #[.slice A xs.length c] w fun e w' => e = .returned (.tuple #[.int .i64 (szF xs), .bool (cycB xs)]) ∧ Below w.heap.size w w' := by
  have hc := ho.cells
  have hcap := own_cap ho
  cases hb : cycB xs
  · rw [show szF xs = 0 by simp [szF, hb]]
    have HB := hid hb
    clear hb
    go_enter Try.func56, Try.ntmps56
    go_wp2_with (go_at_call 115; refine (cnCycles_b _ _ _ 12 _ (by decide) hl hc _ HB.out).mono ?_; rintro e w' ⟨rfl, n, rfl⟩)
    go_ret2
    exact ⟨rfl, below_drew' _ _⟩
  · have HB := hid hb
    have HW := hid fun W (h : Cells W A xs) => cnWeight_any A c xs W hl hcap h hb
    have HSU := hid fun W (h : Cells W A xs) => ptSum_any A xs c W (bd12 (by decide) hb).1 (bd12 (by decide) hb).2 h
    obtain ⟨_, h0, h12, _, _⟩ := cyc_len hb
    have hwb := wgt_le hb xs.length (Nat.le_refl _)
    rw [show szF xs = fac xs.sum.toNat / wgt xs xs.length by simp [szF, hb]]
    obtain ⟨n, hn⟩ : ∃ n : Nat, xs.sum = n := ⟨xs.sum.toNat, by omega⟩
    rw [hn] at HSU h12 ⊢
    rw [Int.toNat_natCast]
    have hfb := fac_bd20 n (by omega)
    have HF := hid fun W => cnFactorial_any n W (by omega)
    obtain ⟨g, hg⟩ : ∃ g, g = wgt xs xs.length := ⟨_, rfl⟩
    obtain ⟨f, hf⟩ : ∃ f, f = fac n := ⟨_, rfl⟩
    rw [← hg] at HW hwb ⊢
    rw [← hf] at HF hfb ⊢
    obtain ⟨q1, q2⟩ := quo_fac hfb hwb.1
    have hne : ¬ g = 0 := by omega
    have hwr : IntKind.i64.wrap (f.tdiv g) = f / g := by rw [q1, q2]
    clear hb hg hf hn q1 q2 h0
    go_enter Try.func56, Try.ntmps56
    go_wp2_with (first | (go_at_call 115; refine (cnCycles_b _ _ _ 12 _ (by decide) hl hc _ HB.out).mono ?_; rintro e w' ⟨rfl, nd, rfl⟩) | (go_at_call 91; refine (HSU.out _ (by exact hc)).mono ?_; rintro e w' ⟨rfl, rfl⟩) | (go_at_call 122; refine (HW.out _ (by exact hc)).mono ?_; rintro e w' ⟨rfl, rfl⟩) | (go_at_call 121; refine (HF.out _).mono ?_; rintro e w' ⟨rfl, rfl⟩))
    go_ret2
    exact ⟨rfl, below_drew' _ _⟩

set_option maxRecDepth 100000 in
set_option maxHeartbeats 1000000 in
theorem impl_SignOfClass (A : Option Addr) (c : Nat) (xs : List Int) (w : World) (hl : xs.length ≤ 1048576) (hc : Cells w A xs) :
    Calls Try.prog 61 #[.slice A xs.length c] w fun e w' => e = .returned (.tuple #[.int .i64 (sgF xs), .bool (cycB xs)]) ∧ Below w.heap.size w w' := by
  cases hb : cycB xs
  · rw [show sgF xs = 0 by simp [sgF, hb]]
    have HS := hid (sumOfCycles_f A c xs w hl hc hb)
    clear hb
    go_enter Try.func61, Try.ntmps61
    go_wp2_with (go_at_call 118; refine HS.out.mono ?_; rintro e w' ⟨rfl, rfl⟩)
    go_ret2
    exact ⟨rfl, Below.refl _ _⟩
  · have HS := hid (sumOfCycles_t A c xs w hl hc hb)
    obtain ⟨h1, h0, h12, _, h5⟩ := cyc_len hb
    rw [show sgF xs = sgn (xs.sum - xs.length) by simp [sgF, hb]]
    obtain ⟨s, hs⟩ : ∃ s, s = xs.sum := ⟨_, rfl⟩
    rw [← hs] at HS h12 h5 ⊢
    have HE := hid fun W => evenSign_any (s - xs.length) W (by omega) (by omega)
    clear hb hs h0
    go_enter Try.func61, Try.ntmps61
    go_wp2_with (first | (go_at_call 118; refine HS.out.mono ?_; rintro e w' ⟨rfl, rfl⟩) | (go_at_call 124; refine (HE.out _).mono ?_; rintro e w' ⟨rfl, rfl⟩))
    go_ret2
    exact ⟨rfl, Below.refl _ _⟩

set_option maxRecDepth 100000 in
set_option maxHeartbeats 1000000 in
theorem spec_SignOfClass (A : Option Addr) (c : Nat) (xs : List Int) (w : World) (hl : xs.length ≤ 1048576) (hc : Cells w A xs) :
    Calls Try.prog 60 #[.slice A xs.length c] w fun e w' => e = .returned (.tuple #[.int .i64 (sgF xs), .bool (cycB xs)]) ∧ Below w.heap.size w w' := by
  cases hb : cycB xs
  · rw [show sgF xs = 0 by simp [sgF, hb]]
    have HB := hid hb
    clear hb
    go_enter Try.func60, Try.ntmps60
    go_wp2_with (go_at_call 115; refine (cnCycles_b _ _ _ 12 _ (by decide) hl hc _ HB.out).mono ?_; rintro e w' ⟨rfl, n, rfl⟩)
    go_ret2
    exact ⟨rfl, below_drew' _ _⟩
  · have HB := hid hb
    have HSU := hid fun W (h : Cells W A xs) => ptSum_any A xs c W (bd12 (by decide) hb).1 (bd12 (by decide) hb).2 h
    obtain ⟨h1, h0, h12, _, h5⟩ := cyc_len hb
    rw [show sgF xs = sgn (xs.sum - xs.length) by simp [sgF, hb]]
    obtain ⟨s, hs⟩ : ∃ s, s = xs.sum := ⟨_, rfl⟩
    rw [← hs] at HSU h12 h5 ⊢
    have hmod : (s - (xs.length : Int)).tmod 2 = (s - xs.length) % 2 := Int.tmod_eq_emod_of_nonneg (by omega)
    clear hb hs h0
    by_cases hp : (s - (xs.length : Int)) % 2 = 0
    · have h2 : ((s - (xs.length : Int)).tmod 2 == 1) = false := by rw [hmod, hp]; rfl
      have h3 : ¬ (s - (xs.length : Int)).tmod 2 = 1 := by omega
      rw [show sgn (s - (xs.length : Int)) = 1 by simp [sgn, hp]]
      go_enter Try.func60, Try.ntmps60
      go_wp2_with (first | (go_at_call 115; refine (cnCycles_b _ _ _ 12 _ (by decide) hl hc _ HB.out).mono ?_; rintro e w' ⟨rfl, nd, rfl⟩) | (go_at_call 91; refine (HSU.out _ (by exact hc)).mono ?_; rintro e w' ⟨rfl, rfl⟩))
      go_ret2
      exact ⟨rfl, below_drew' _ _⟩
    · have h3 : (s - (xs.length : Int)).tmod 2 = 1 := by omega
      rw [show sgn (s - (xs.length : Int)) = -1 by simp [sgn, hp]]
      go_enter Try.func60, Try.ntmps60
      go_wp2_with (first | (go_at_call 115; refine (cnCycles_b _ _ _ 12 _ (by decide) hl hc _ HB.out).mono ?_; rintro e w' ⟨rfl, nd, rfl⟩) | (go_at_call 91; refine (HSU.out _ (by exact hc)).mono ?_; rintro e w' ⟨rfl, rfl⟩))
      go_ret2
      exact ⟨rfl, below_drew' _ _⟩
theorem impl_ClassSize {B : Nat} (A : Option Addr) (c : Nat) (xs : List Int) (w : World) (hl : xs.length ≤ 1048576) (ho : Own w B A c xs) :
    Calls Try.prog 57 #[.slice A xs.length c] w fun e w' => e = .returned (.tuple #[.int .i64 (szF xs), .bool (cycB xs)]) ∧ Below w.heap.size w w' := impl_ClassSize' A c xs w hl ho.cells
end Go.Proofs.Ytmbfobcbnnalbaa
