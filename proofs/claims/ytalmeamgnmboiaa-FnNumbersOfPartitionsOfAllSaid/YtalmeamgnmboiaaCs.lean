/-
  Contracts: CountStrict on both sides.
-/
import Derived.Test.YtalmeamgnmboiaaCsD
import Derived.Test.YtalmeamgnmboiaaCH
namespace Go.Proofs.Ytalmeamgnmboiaa
open Go.RowKit

def csF (n : Int) : Int := if okN n then (csT n.toNat n.toNat).getD n.toNat 0 else 0
theorem csF_t {n : Nat} (h : okN n = true) : csF n = (csT n n).getD n 0 := by simp [csF, h]
theorem csF_f {n : Int} (h : okN n = false) : csF n = 0 := by simp [csF, h]

set_option maxHeartbeats 400000 in
theorem impl_CountStrict (n : Int) (w : World) (_hn : I64 n) :
    Calls Try.prog 14 #[.int .i64 n] w fun e w' => e = .returned (.tuple #[.int .i64 (csF n), .bool (okN n)]) ∧ Below w.heap.size w w' := by
  cases h : okN n
  · rw [csF_f h]
    have H := hid h; clear h
    go_enter Try.func14, Try.ntmps14
    go_wp2_with (go_at_call 24; refine (isCellNumber_b _ _ _ H.out).mono ?_; rintro e w' ⟨rfl, rfl⟩)
    go_ret2
    exact ⟨rfl, Below.refl _ _⟩
  obtain ⟨m, rfl, hm⟩ := okN_nat h
  rw [csF_t h]
  have H := hid h; clear h
  have hCD := countDifferent_any m w (by omega)
  have hl := csT_len m m
  obtain ⟨L, hL⟩ : ∃ L, L = csT m m := ⟨_, rfl⟩
  rw [← hL] at hCD hl ⊢
  have HL := hid hl
  have HCD := hid hCD
  clear hL hl hCD
  go_enter Try.func14, Try.ntmps14
  go_wp2_with (go_at_call 24; refine (isCellNumber_b _ _ _ H.out).mono ?_; rintro e w' ⟨rfl, rfl⟩)
  refine HCD.out.mono ?_
  rintro e w2 ⟨A2, c2, rfl, o2, b2⟩
  obtain ⟨b, o, rfl, hcc⟩ := o2.cells (by rw [HL.out]; omega)
  have hck := hcc m (by rw [HL.out]; omega)
  obtain ⟨x, hx⟩ : ∃ x, x = L.getD m 0 := ⟨_, rfl⟩
  rw [← hx] at hck
  have HX := hid hx
  have hlt : (m : Int) < (m : Int) + 1 := by omega
  clear hcc hx
  go_wp2_with fail
  go_ret2
  exact ⟨by rw [HX.out]; rfl, b2⟩

end Go.Proofs.Ytalmeamgnmboiaa
