/-
  Contracts: OddNumber on both sides.
-/
import Derived.Test.YtalmeamgnmboiaaMade1
import Derived.Test.YtalmeamgnmboiaaNmb
namespace Go.Proofs.Ytalmeamgnmboiaa
open Go.RowKit

/-- The counts with cells d, d + 1, .., d + c - 1 done for the part d, upwards. -/
def addU (Z : List Int) (d : Nat) : Nat → List Int
  | 0 => Z
  | c + 1 => (addU Z d c).set (d + c) (IntKind.i64.wrap ((addU Z d c).getD (d + c) 0 + (addU Z d c).getD c 0))
theorem addU_succ (Z : List Int) (d c : Nat) : (addU Z d c).set (d + c) (IntKind.i64.wrap ((addU Z d c).getD (d + c) 0 + (addU Z d c).getD c 0)) = addU Z d (c + 1) := rfl
theorem addU_len (Z : List Int) (d : Nat) : ∀ c, (addU Z d c).length = Z.length
  | 0 => rfl
  | c + 1 => by rw [addU, List.length_set, addU_len Z d c]
def osS (n : Nat) : Nat → List Int
  | 0 => (fnRow (n + 1) (fun _ => 0)).set 0 1
  | x + 1 => addU (osS n x) (2 * x + 1) (n - 2 * x)
theorem osS_len (n : Nat) : ∀ x, (osS n x).length = n + 1
  | 0 => by rw [osS, List.length_set, fnRow_len]
  | x + 1 => by rw [osS, addU_len, osS_len n x]
/-- All odd parts up to n. -/
def osT (n _m : Nat) : List Int := osS n ((n + 1) / 2)
theorem osT_len (n m : Nat) : (osT n m).length = n + 1 := osS_len n _

def onF (n : Int) : Int := if nmB n then (osT n.toNat n.toNat).getD n.toNat 0 else 0
theorem onF_t {n : Nat} (h : nmB n = true) : onF n = (osT n n).getD n 0 := by simp [onF, h]
theorem onF_f {n : Int} (h : nmB n = false) : onF n = 0 := by simp [onF, h]

set_option maxRecDepth 100000 in
set_option maxHeartbeats 2000000 in
theorem countOdd_any (n : Nat) (w : World) (hn30 : n ≤ 200) :
    Calls Try.prog 20 #[.int .i64 n] w fun e w' => ∃ A' c', e = .returned (.slice A' (n + 1) c') ∧ Own w' w.heap.size A' c' (osT n n) ∧ Below w.heap.size w w' := by
  have hmk := run_make_row' (P := Try.prog) 22 3 (.int .i64 0) 8 Try.underlying22 Try.infoInt rfl .i64 .i64 (n + 1) (by omega) (by omega)
  obtain ⟨w2, hw2⟩ : ∃ w2, w2 = w.alloc (.cells ((madeCells #[.int .i64 0] (n + 1)).setIfInBounds 0 (.int .i64 1)) 3) := ⟨_, rfl⟩
  have o2 : Own w2 w.heap.size (some ⟨w.heap.size, 0, none⟩) (n + 1) (osS n 0) := by rw [hw2]; exact own_made1 w (n + 1) (by omega)
  have b3 : Below w.heap.size w w2 := by rw [hw2]; exact (Below.refl _ _).alloc (Nat.le_refl _) _
  have hc0 := own_get (own_made w (n + 1) (by omega)) (k := 0) (by rw [fnRow_len]; omega)
  have hf0 := own_froz (own_made w (n + 1) (by omega)) 0
  rw [fnRow_get _ _ _ (by omega)] at hc0
  have hnn : ((n + 1 : Nat) : Int) = (n : Int) + 1 := by omega
  have HW := hid hw2
  rw [hnn] at hmk
  have hlt0 : (0 : Int) < (n : Int) + 1 := by omega
  clear hw2
  go_enter Try.func20, Try.ntmps20
  go_wp2_with fail
  rw [← HW.out]
  have HN := hid hnn
  clear hmk HW hnn hlt0 hc0 hf0
  go_loopw [4] (fun i wr => ∃ K : Nat, K ≤ (n + 1) / 2 ∧ i = .int .i64 (2 * (K : Int) + 1) ∧ (∃ S, S = osS n K ∧ S.length = n + 1 ∧ wr.ownsRow w.heap.size 3 1 (.slice (some ⟨w.heap.size, 0, none⟩) (n + 1) (n + 1)) (n + 1) (IL S)) ∧ Below w.heap.size w wr) (fun i _ => n + 2 - (intOf i).toNat)
  case atStart =>
    refine ⟨0, Nat.zero_le _, rfl, ⟨_, rfl, osS_len n 0, ?_⟩, b3⟩
    have h := o2
    unfold Own at h
    rw [osS_len] at h
    exact h
  case round =>
    obtain ⟨K, hK, rfl, ⟨S, hS, hSl, hown⟩, hbel⟩ := hrel
    have HS := hid hS; clear hS o2 b3
    obtain ⟨wo, rfl⟩ : ∃ wo : World, wo = wr := ⟨_, rfl⟩
    obtain ⟨d, hd⟩ : ∃ d : Nat, d = 2 * K + 1 := ⟨_, rfl⟩
    have hdi : 2 * (K : Int) + 1 = (d : Int) := by omega
    rw [hdi]
    by_cases hlt : d ≤ n
    · have HDD := hid hd
      have hkk : K < (n + 1) / 2 := by omega
      clear hd hdi
      go_wp2_with fail
      go_loopw [5] (fun i wr => ∃ c : Nat, c ≤ n + 1 - d ∧ i = .int .i64 ((d : Int) + c) ∧ (∃ Z, Z = addU S d c ∧ Z.length = n + 1 ∧ wr.ownsRow w.heap.size 3 1 (.slice (some ⟨w.heap.size, 0, none⟩) (n + 1) (n + 1)) (n + 1) (IL Z)) ∧ Below w.heap.size w wr) (fun i _ => n + 1 - (intOf i).toNat)
      case atStart => exact ⟨0, Nat.zero_le _, by simp, ⟨_, rfl, hSl, hown⟩, hbel⟩
      case round =>
        obtain ⟨c, hc, rfl, ⟨Z, hZ, hZl, hown⟩, hbel⟩ := hrel
        by_cases hcl : c < n + 1 - d
        · have ho := own_of_len hown hZl
          have hc1 := own_get ho (k := d + c) (by omega)
          have hc2 := own_get ho (k := c) (by omega)
          have hfz := own_froz ho (d + c)
          have hst := own_set ho (d + c) (IntKind.i64.wrap (Z.getD (d + c) 0 + Z.getD c 0))
          rw [IntWalk.i64_left] at hst
          have HAS := hid (addU_succ S d c)
          rw [← hZ, IntWalk.i64_left] at HAS
          obtain ⟨p, hp⟩ : ∃ p, p = d + c := ⟨_, rfl⟩
          have hpi : (d : Int) + (c : Int) = p := by omega
          rw [← hp] at hst HAS hc1 hfz
          have hwq : IntKind.i64.wrap ((p : Int) - (d : Int)) = (c : Int) := by rw [IntWalk.i64_in _ (by omega)]; omega
          have hpn : (p : Int) < (n : Int) + 1 := by omega
          have hqn : (c : Int) < (n : Int) + 1 := by omega
          have hpd : (p : Int) ≤ (n : Int) := by omega
          obtain ⟨x, hx⟩ : ∃ x, x = Z.getD p 0 := ⟨_, rfl⟩
          obtain ⟨y, hy⟩ : ∃ y, y = Z.getD c 0 := ⟨_, rfl⟩
          rw [← hx] at hc1 hst HAS
          rw [← hy] at hc2 hst HAS
          have HST := hid hst
          have HZL := hid hZl
          have HSL := hid hSl
          have HPP := hid (show p = d + c from hp)
          rw [hpi]
          clear hZ hZl hSl hown ho hx hy hst hp hpi
          go_wp2_with fail
          go_region
          go_wp2_with fail
          go_roundw
          case rel => exact ⟨c + 1, by omega, by have := HPP.out; congr 1; omega, ⟨_, rfl, by rw [addU_len]; exact HSL.out, own_at_len (own_drew (own_len HST.out HAS.out)) (by rw [addU_len]; exact HSL.out)⟩, below_drew (hbel.setCell (Nat.le_refl _) _)⟩
          case measure => simp [intOf]; omega
        · have hce : c = n + 1 - d := by omega
          subst hce
          have hnd : ¬ ((d : Int) + ((n + 1 - d : Nat) : Int) ≤ (n : Int)) := by omega
          have HQT := hid (show osS n (K + 1) = addU (osS n K) (2 * K + 1) (n - 2 * K) from rfl)
          rw [← HS.out, show n - 2 * K = n + 1 - d by have := HDD.out; omega, show 2 * K + 1 = d from HDD.out.symm, ← hZ] at HQT
          have HZL := hid hZl
          have HO := hid hown
          obtain ⟨m, hm⟩ : ∃ m, m = (d : Int) + ((n + 1 - d : Nat) : Int) := ⟨_, rfl⟩
          rw [← hm] at hnd ⊢
          have hmb : 0 ≤ m ∧ m ≤ 203 := by omega
          clear hm hZ hZl hown hSl
          go_wp2_with fail
          go_roundw
          case rel => exact ⟨K + 1, by omega, by have := HDD.out; congr 1; push_cast; omega, ⟨_, rfl, by rw [HQT.out]; exact HZL.out, by rw [HQT.out]; exact HO.out⟩, hbel⟩
          case measure => simp [intOf]; omega
    · have hke : K = (n + 1) / 2 := by omega
      subst hke
      have ho := own_len (own_of_len hown hSl) HS.out
      have HO := hid ho
      clear hown ho hSl
      go_wp2_with fail
      go_ret
      exact ⟨_, _, rfl, HO.out, hbel⟩

set_option maxHeartbeats 400000 in
theorem impl_OddNumber (n : Int) (w : World) (_hn : I64 n) :
    Calls Try.prog 9 #[.int .i64 n] w fun e w' => e = .returned (.tuple #[.int .i64 (onF n), .bool (nmB n)]) ∧ Below w.heap.size w w' := by
  cases h : nmB n
  · rw [onF_f h]
    have H := hid h; clear h
    go_enter Try.func9, Try.ntmps9
    go_wp2_with (go_at_call 15; refine (isNumbered_b _ _ _ H.out).mono ?_; rintro e w' ⟨rfl, rfl⟩)
    go_ret2
    exact ⟨rfl, Below.refl _ _⟩
  obtain ⟨m, rfl, hm⟩ := nmB_nat h
  rw [onF_t h]
  have H := hid h; clear h
  have hCD := countOdd_any m w hm
  have hl := osT_len m m
  obtain ⟨L, hL⟩ : ∃ L, L = osT m m := ⟨_, rfl⟩
  rw [← hL] at hCD hl ⊢
  have HL := hid hl
  have HCD := hid hCD
  clear hL hl hCD
  go_enter Try.func9, Try.ntmps9
  go_wp2_with (go_at_call 15; refine (isNumbered_b _ _ _ H.out).mono ?_; rintro e w' ⟨rfl, rfl⟩)
  refine HCD.out.mono ?_
  rintro e w2 ⟨A2, c2, rfl, o2, b2⟩
  obtain ⟨b, o, rfl, hcc⟩ := o2.cells (by rw [HL.out]; omega)
  have hck := hcc m (by rw [HL.out]; omega)
  obtain ⟨x, hx⟩ : ∃ x, x = L.getD m 0 := ⟨_, rfl⟩
  rw [← hx] at hck
  have HX := hid hx
  have hlt : (m : Int) < (m : Int) + 1 := by omega
  clear hcc hx
  go_wp2_with fail
  go_ret2
  exact ⟨by rw [HX.out]; rfl, b2⟩

end Go.Proofs.Ytalmeamgnmboiaa
