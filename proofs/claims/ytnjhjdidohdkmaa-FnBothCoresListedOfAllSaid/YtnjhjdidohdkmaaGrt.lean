/-
  GreatestBoth on both sides.
-/
import Derived.Test.YtnjhjdidohdkmaaGap
import Derived.Test.YtnjhjdidohdkmaaFst
namespace Go.Proofs.Ytnjhjdidohdkmaa
open Go.RowKit

theorem gaps_okN : ∀ a < 8, ∀ b < 8, sz ((a : Nat) : Int) ((b : Nat) : Int) = true → ffOk (gapsL (a : Int) (b : Int)) = true := by decide +kernel
theorem sz_nat {p : Int → Int → Prop} (h : ∀ a < 8, ∀ b < 8, sz ((a : Nat) : Int) ((b : Nat) : Int) = true → p (a : Int) (b : Int)) {a b : Int} (hs : sz a b = true) : p a b := by
  obtain ⟨ha, hb, -⟩ := sz_iff.1 hs
  have := h a.toNat (by omega) b.toNat (by omega)
  rw [Int.toNat_of_nonneg (by omega), Int.toNat_of_nonneg (by omega)] at this
  exact this hs
theorem gaps_ok {a b : Int} (hs : sz a b = true) : ffOk (gapsL a b) = true := sz_nat (p := fun a b => ffOk (gapsL a b) = true) gaps_okN hs
def greatF (a b : Int) : List Int := if sz a b then partsL (gapsL a b) else []
theorem gapsL_len {a b : Int} (hs : sz a b = true) : (gapsL a b).length ≤ 30 := by
  have := gaps_ok hs
  simp only [ffOk, Bool.and_eq_true, decide_eq_true_eq] at this
  exact this.1
theorem bound_GreatestBoth (a b : Int) : (greatF a b).length ≤ 1048576 := by
  unfold greatF
  split
  · rename_i h
    have := gapsL_len h
    have := partsL_len (gapsL a b); omega
  · exact Nat.zero_le _

set_option maxRecDepth 100000 in
set_option maxHeartbeats 800000 in
theorem impl_GreatestBoth (a b : Int) (w : World) (_ : I64 a) (_ : I64 b) :
    Calls Try.prog 8 #[.int .i64 a, .int .i64 b] w fun e w' => ∃ A' c', e = .returned (.tuple #[.slice A' (greatF a b).length c', .bool (sz a b)]) ∧ Own w' w.heap.size A' c' (greatF a b) ∧ Below w.heap.size w w' := by
  have HG := hid fun W => GapsOf_b a b W _ rfl
  have HB : (gapsF a b).length ≤ 1000 ∧ Hid (∀ j, j < (gapsF a b).length → 0 ≤ (gapsF a b).getD j 0 ∧ (gapsF a b).getD j 0 ≤ 1000) := by
    unfold gapsF
    cases h : sz a b
    · exact ⟨by simp, fun j hj => absurd hj (by simp)⟩
    · rw [if_pos rfl]
      have := gaps_ok h
      simp only [ffOk, Bool.and_eq_true, decide_eq_true_eq] at this
      exact ⟨by omega, fun j hj => by have := (rises_Rises.1 this.2.1).bd j hj; omega⟩
  have HE := hid (show greatF a b = partsL (gapsF a b) by unfold greatF gapsF; split <;> rfl)
  obtain ⟨g, hg⟩ : ∃ g, g = gapsF a b := ⟨_, rfl⟩
  obtain ⟨s, hs⟩ : ∃ s, s = sz a b := ⟨_, rfl⟩
  rw [HE.out]
  rw [← hg] at HG HB ⊢
  rw [← hs] at HG ⊢
  obtain ⟨hb1, hb2⟩ := HB
  clear HE hg hs
  go_enter Try.func8, Try.ntmps8
  go_wp2_with (first | (go_at_call 14; refine (HG.out _).mono ?_; rintro e w1 ⟨A1, c1, rfl, o1, b1⟩) | (go_at_call 25; refine (parts_any _ _ _ _ hb1 hb2.out o1.cells).mono ?_; rintro e w2 ⟨A2, c2, rfl, o2, b2⟩))
  go_ret2
  exact ⟨A2, c2, rfl, o2.more b1.size, Below.next b1 b2⟩
set_option maxRecDepth 100000 in
set_option maxHeartbeats 800000 in
theorem spec_GreatestBoth (a b : Int) (w : World) (_ : I64 a) (_ : I64 b) :
    Calls Try.prog 9 #[.int .i64 a, .int .i64 b] w fun e w' => ∃ A' c', e = .returned (.tuple #[.slice A' (greatF a b).length c', .bool (sz a b)]) ∧ Own w' w.heap.size A' c' (greatF a b) ∧ Below w.heap.size w w' := by
  cases ht : sz a b
  · rw [show greatF a b = [] by simp [greatF, ht]]
    have HT := hid ht
    clear ht
    go_enter Try.func9, Try.ntmps9
    go_wp2_with (go_at_call 28; refine (boSizes_b _ _ _ _ HT.out).mono ?_; rintro e w1 ⟨rfl, rfl⟩)
    go_ret2
    exact ⟨none, 0, rfl, own_nil _ _, Below.refl _ _⟩
  · rw [show greatF a b = partsL (gapsL a b) by simp [greatF, ht]]
    have HT := hid ht
    have HG := hid fun W => boGaps_any a b W ht
    have hok := gaps_ok ht
    have hfe := ff_t hok
    have hgl := gapsL_len ht
    rw [← hfe]
    have HF := hid fun A c W hl (h : Cells W A (gapsL a b)) => boFrom_any A c (gapsL a b) W hl h
    rw [hok] at HF
    obtain ⟨r, hr⟩ : ∃ r, r = ffF (gapsL a b) := ⟨_, rfl⟩
    rw [← hr] at HF ⊢
    obtain ⟨g, hg⟩ : ∃ g, g = gapsL a b := ⟨_, rfl⟩
    rw [← hg] at HG HF hgl
    have hgl2 : g.length ≤ 1048576 := by omega
    clear hg ht hr hok hfe hgl
    go_enter Try.func9, Try.ntmps9
    go_wp2_with (first | (go_at_call 28; refine (boSizes_b _ _ _ _ HT.out).mono ?_; rintro e w1 ⟨rfl, rfl⟩) | (go_at_call 33; refine (HG.out _).mono ?_; rintro e w1 ⟨A1, c1, rfl, o1, b1⟩) | (go_at_call 32; refine (HF.out _ _ _ hgl2 o1.cells).mono ?_; rintro e w2 ⟨A2, c2, rfl, o2, b2⟩))
    go_ret2
    exact ⟨A2, c2, rfl, o2.more b1.size, Below.next b1 b2⟩
end Go.Proofs.Ytnjhjdidohdkmaa
