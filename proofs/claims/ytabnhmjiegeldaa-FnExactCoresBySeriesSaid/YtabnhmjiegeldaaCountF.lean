/-
  Contracts: CountPartitions of the program and of the model.
-/
import Derived.Test.YtabnhmjiegeldaaCounts
namespace Go.Proofs.Ytabnhmjiegeldaa
open Go.RowKit

def okN (n : Int) : Bool := inB 0 30 n
def countF (n : Int) : Int := if okN n then (T n.toNat n.toNat : Int) else 0
theorem countF_t (n : Nat) (h : n ≤ 30) : countF n = T n n := by
  have e : okN n = true := inB_iff.2 (by omega)
  simp [countF, e]
theorem countF_f {n : Int} (h : okN n = false) : countF n = 0 := by simp [countF, h]
theorem okN_nat {n : Int} (h : okN n = true) : ∃ m : Nat, n = m ∧ m ≤ 30 := by
  have := inB_iff.1 h
  exact ⟨n.toNat, by omega, by omega⟩

set_option maxHeartbeats 400000 in
theorem ptCells_any (n : Int) (w : World) : Calls Try.prog 124 #[.int .i64 n] w fun e w' => e = .returned (.bool (okN n)) ∧ w = w' := by
  go_enter Try.func124, Try.ntmps124
  go_wp2_with (go_at_call 115; refine (l1In_any _ _ _ _).mono ?_; rintro e w' ⟨rfl, rfl⟩)
  go_ret
  exact ⟨rfl, rfl⟩
theorem ptCells_b (n : Int) (w : World) (b : Bool) (h : okN n = b) : Calls Try.prog 124 #[.int .i64 n] w fun e w' => e = .returned (.bool b) ∧ w = w' := by
  subst h; exact ptCells_any n w

set_option maxHeartbeats 1000000 in
theorem spec_CountPartitions (n : Int) (w : World) (_hn : I64 n) :
    Calls Try.prog 63 #[.int .i64 n] w fun e w' => e = .returned (.tuple #[.int .i64 (countF n), .bool (okN n)]) ∧ Below w.heap.size w w' := by
  cases h : okN n
  · rw [countF_f h]
    have H := hid h; clear h
    go_enter Try.func63, Try.ntmps63
    go_wp2_with (go_at_call 124; refine (ptCells_b _ _ _ H.out).mono ?_; rintro e w' ⟨rfl, rfl⟩)
    go_ret2
    exact ⟨rfl, Below.refl _ _⟩
  obtain ⟨m, rfl, hm⟩ := okN_nat h
  rw [countF_t m hm]
  have H := hid h; clear h
  go_enter Try.func63, Try.ntmps63
  go_wp2_with fail
  refine (ptCells_b _ _ _ H.out).mono ?_
  rintro e w1 ⟨rfl, rfl⟩
  go_wp2_with fail
  refine (ptCounts_any m _ hm).mono ?_
  rintro e w2 ⟨A2, c2, rfl, o2, b2⟩
  obtain ⟨P, C, h1, h2⟩ := o2.cells
  rw [rowsT_len] at h1 h2
  obtain ⟨b, o, rfl, hcc⟩ := h1 (by omega)
  have hck := hcc m (by omega)
  have hrow := h2 m (by omega)
  rw [rowsT_get m (m + 1) m (by omega)] at hck hrow
  rw [rowF_len] at hck
  obtain ⟨b3, o3, e3, hc3⟩ := hrow.get (j := m) (by rw [rowF_len]; omega)
  rw [tF_get m m m (by omega)] at hc3
  rw [e3] at hck
  have hl2 := rowsT_len m (m + 1)
  have HL := hid hl2
  rw [hl2]
  have hm0 : (m : Int) < (m : Int) + 1 := by omega
  clear hcc hrow h1 h2 e3 hl2 o2
  go_wp2_with fail
  go_ret2
  exact ⟨rfl, b2⟩

set_option maxHeartbeats 1000000 in
theorem all_any (b n : Nat) (w : World) (hn : n ≤ 30) (ht : Tab w b (fun i => (T (i / 31) (i % 31) : Int))) :
    Calls Try.prog 127 #[.pointer (some ⟨b, 0, none⟩), .int .i64 n] w fun e w' => e = .returned (.int .i64 (T n n)) ∧ w = w' := by
  have hc := ht.cell (n * 31 + n) (by omega)
  rw [show (n * 31 + n) / 31 = n by omega, show (n * 31 + n) % 31 = n by omega] at hc
  clear ht
  go_enter Try.func127, Try.ntmps127
  go_wp2
  go_ret
  exact ⟨rfl, rfl⟩

set_option maxHeartbeats 400000 in
theorem isCellNumber_any (n : Int) (w : World) : Calls Try.prog 103 #[.int .i64 n] w fun e w' => e = .returned (.bool (okN n)) ∧ w = w' := by
  by_cases h1 : 0 ≤ n
  · by_cases h2 : n ≤ 30
    · go_enter Try.func103, Try.ntmps103
      go_wp2
      go_ret
      exact ⟨by simp [okN, inB, h1, h2], rfl⟩
    · go_enter Try.func103, Try.ntmps103
      go_wp2
      go_ret
      exact ⟨by simp [okN, inB]; omega, rfl⟩
  · go_enter Try.func103, Try.ntmps103
    go_wp2
    go_ret
    exact ⟨by simp [okN, inB]; omega, rfl⟩
theorem isCellNumber_b (n : Int) (w : World) (b : Bool) (h : okN n = b) : Calls Try.prog 103 #[.int .i64 n] w fun e w' => e = .returned (.bool b) ∧ w = w' := by
  subst h; exact isCellNumber_any n w

set_option maxHeartbeats 1000000 in
theorem impl_CountPartitions (n : Int) (w : World) (_hn : I64 n) :
    Calls Try.prog 64 #[.int .i64 n] w fun e w' => e = .returned (.tuple #[.int .i64 (countF n), .bool (okN n)]) ∧ Below w.heap.size w w' := by
  cases h : okN n
  · rw [countF_f h]
    have H := hid h; clear h
    go_enter Try.func64, Try.ntmps64
    go_wp2_with fail
    refine (isCellNumber_b _ _ _ H.out).mono ?_
    rintro e w1 ⟨rfl, rfl⟩
    go_wp2_with fail
    go_ret2
    exact ⟨rfl, Below.refl _ _⟩
  obtain ⟨m, rfl, hm⟩ := okN_nat h
  rw [countF_t m hm]
  have H := hid h; clear h
  go_enter Try.func64, Try.ntmps64
  go_wp2_with fail
  refine (isCellNumber_b _ _ _ H.out).mono ?_
  rintro e w1 ⟨rfl, rfl⟩
  go_wp2_with fail
  refine (countBounded_any _).mono ?_
  rintro e w2 ⟨rfl, ht, b2⟩
  go_wp2_with fail
  refine (all_any _ _ _ hm ht).mono ?_
  rintro e w3 ⟨rfl, rfl⟩
  go_wp2_with fail
  go_ret2
  exact ⟨rfl, b2⟩
end Go.Proofs.Ytabnhmjiegeldaa
