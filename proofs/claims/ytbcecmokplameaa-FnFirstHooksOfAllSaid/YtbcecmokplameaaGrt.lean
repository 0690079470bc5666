/-
  GreatestBoth on both sides.
-/
import Derived.Test.YtbcecmokplameaaGap
import Derived.Test.YtbcecmokplameaaFst
namespace Go.Proofs.Ytbcecmokplameaa
open Go.RowKit

theorem gaps_okN : ∀ a < 8, ∀ b < 8, sz ((a : Nat) : Int) ((b : Nat) : Int) = true → ffOk (gapsL (a : Int) (b : Int)) = true := by decide +kernel
theorem sz_nat {p : Int → Int → Prop} (h : ∀ a < 8, ∀ b < 8, sz ((a : Nat) : Int) ((b : Nat) : Int) = true → p (a : Int) (b : Int)) {a b : Int} (hs : sz a b = true) : p a b := by
  obtain ⟨ha, hb, -⟩ := sz_iff.1 hs
  have := h a.toNat (by omega) b.toNat (by omega)
  rw [Int.toNat_of_nonneg (by omega), Int.toNat_of_nonneg (by omega)] at this
  exact this hs
theorem gaps_ok {a b : Int} (hs : sz a b = true) : ffOk (gapsL a b) = true := sz_nat (p := fun a b => ffOk (gapsL a b) = true) gaps_okN hs
def greatF (a b : Int) : List Int := if sz a b then partsL (gapsL a b) else []
theorem gapsL_len {a b : Int} (hs : sz a b = true) : (gapsL a b).length ≤ 30 := by
  have := gaps_ok hs
  simp only [ffOk, Bool.and_eq_true, decide_eq_true_eq] at this
  exact this.1
theorem bound_GreatestBoth (a b : Int) : (greatF a b).length ≤ 1048576 := by
  unfold greatF
  split
  · rename_i h
    have := gapsL_len h
    have := partsL_len (gapsL a b); omega
  · exact Nat.zero_le _

end Go.Proofs.Ytbcecmokplameaa
