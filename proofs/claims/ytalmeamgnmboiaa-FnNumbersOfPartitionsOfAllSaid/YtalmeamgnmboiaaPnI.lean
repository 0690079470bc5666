/-
  Contracts: PartitionNumbers, PartitionNumber of the program.
-/
import Derived.Test.YtalmeamgnmboiaaPnN
import Derived.Test.YtalmeamgnmboiaaNmb
namespace Go.Proofs.Ytalmeamgnmboiaa
open Go.RowKit

def pnF (n : Int) : List Int := if nmB n then pnT.take (n.toNat + 1) else []
theorem pnF_f {n : Int} (h : nmB n = false) : pnF n = [] := by simp [pnF, h]
theorem pnF_t {n : Nat} (h : nmB n = true) : pnF n = pnT.take (n + 1) := by simp [pnF, h]
def pvF (n : Int) : Int := if nmB n then pnT.getD n.toNat 0 else 0
theorem pvF_f {n : Int} (h : nmB n = false) : pvF n = 0 := by simp [pvF, h]
theorem pvF_t {n : Nat} (h : nmB n = true) : pvF n = pnT.getD n 0 := by simp [pvF, h]
theorem bound_PartitionNumbers (n : Int) : (pnF n).length ≤ 1048576 := by
  unfold pnF
  split
  · rw [List.length_take, pnT_len]; omega
  · simp
theorem pnT_take_succ {k : Nat} (h : k < 201) : pnT.take (k + 1) = pnT.take k ++ [pnT.getD k 0] := by
  have hl : k < pnT.length := by rw [pnT_len]; exact h
  rw [List.take_succ_eq_append_getElem hl, List.getD_eq_getElem?_getD, List.getElem?_eq_getElem hl]; rfl
def lenOf : Value → Nat
  | .slice _ m _ => m
  | _ => 0

set_option maxRecDepth 100000 in
set_option maxHeartbeats 2000000 in
theorem impl_PartitionNumbers (n : Int) (w : World) (_hn : I64 n) :
    Calls Try.prog 4 #[.int .i64 n] w fun e w' => ∃ A' c', e = .returned (.tuple #[.slice A' (pnF n).length c', .bool (nmB n)]) ∧ Own w' w.heap.size A' c' (pnF n) ∧ Below w.heap.size w w' := by
  obtain ⟨i0, hi, hz0, hz1, hz2⟩ := info_parts Try.infoInt
  cases h : nmB n
  · rw [pnF_f h]
    have H := hid h; clear h
    go_enter Try.func4, Try.ntmps4
    go_wp2_with (go_at_call 15; refine (isNumbered_b _ _ _ H.out).mono ?_; rintro e w' ⟨rfl, rfl⟩)
    go_ret2
    exact ⟨none, 0, rfl, own_nil _ _, Below.refl _ _⟩
  obtain ⟨n, rfl, hn⟩ := nmB_nat h
  rw [pnF_t h]
  have hO1 : (w.alloc (.cells #[.int .i64 1] 3)).ownsRow w.heap.size 3 1 (.slice (some ⟨w.heap.size, 0, none⟩) 1 1) 1 (IL (pnT.take 1)) := World.ownsRow_lit (base := w.heap.size) (e := 3) (size := 1) w #[.int .i64 1] 1 (Nat.le_refl _) (by unfold maxLen; omega) rfl
  have hB1 := (Below.refl w.heap.size w).alloc (Nat.le_refl _) (.cells #[.int .i64 1] 3)
  obtain ⟨w1, hw1⟩ : ∃ w1, w1 = w.alloc (.cells #[.int .i64 1] 3) := ⟨_, rfl⟩
  rw [← hw1] at hO1 hB1
  have HW := hid hw1
  have H := hid h; clear h hw1
  go_enter Try.func4, Try.ntmps4
  go_wp2_with (go_at_call 15; refine (isNumbered_b _ _ _ H.out).mono ?_; rintro e w' ⟨rfl, rfl⟩)
  rw [← HW.out]
  go_loopw [4] (fun v wr => ∃ k : Nat, 1 ≤ k ∧ k ≤ n + 1 ∧ wr.ownsRow w.heap.size 3 1 v k (IL (pnT.take k)) ∧ Below w.heap.size w wr) (fun v _ => n + 1 - lenOf v)
  case atStart => exact ⟨1, Nat.le_refl _, by omega, hO1, hB1⟩
  case round =>
    obtain ⟨k, hk1, hk2, hown, hbel⟩ := hrel
    clear hO1 hB1
    obtain ⟨wo, rfl⟩ : ∃ wo : World, wo = wr := ⟨_, rfl⟩
    have hkl : (pnT.take k).length = k := pnT_take_len (by omega)
    obtain ⟨A', c', rfl, ho⟩ := own_form hown hkl.symm
    rw [hkl] at hown ⊢
    by_cases hlt : k ≤ n
    · have HN := hid (nextNumber_any A' c' k wo hk1 (by omega) ho.cells)
      have HTS := hid (pnT_take_succ (k := k) (by omega))
      obtain ⟨V, hV⟩ : ∃ V, V = pnT.getD k 0 := ⟨_, rfl⟩
      obtain ⟨Q, hQ⟩ : ∃ Q, Q = pnT.take k := ⟨_, rfl⟩
      rw [← hV] at HN HTS
      rw [← hQ] at HTS ho hkl
      have HO := hid ho
      have HKL := hid hkl
      have HB := hid hbel
      clear hV hQ hown ho hkl hbel
      go_wp2_with fail
      go_at_call 16
      refine HN.out.mono ?_
      rintro e w2 ⟨rfl, b2⟩
      have ho2 := HO.out.below b2
      have hb2 := HB.out.trans (b2.mono HB.out.size)
      have hown2 : w2.ownsRow w.heap.size 3 1 (.slice A' k c') k (IL Q) := by have := ho2; unfold Own at this; rwa [HKL.out] at this
      have HB2 := hid hb2
      clear ho2 hb2 b2
      go_wp2_with (at_builtin; refine wpList_append_own _ rfl _ _ 22 rfl w.heap.size 3 i0 (.int .i64 0) 1 8 Try.underlying22 hi hz0 hz1 hz2 rfl (by decide) _ _ _ rfl (hown2.alloc _) ⟨w2.heap.size, 0, none⟩ 1 1 [.int .i64 V] rfl rfl one_at (one_cell _) (by unfold maxLen; omega) (by omega) (by have := HB2.out.size; simp; omega) ?_)
      intro v' w3 hown' hgrow _
      have hb3 : Below w.heap.size w w3 := (HB2.out.alloc HB2.out.size _).grown hgrow (by have := HB2.out.size; simp; omega) (fun q hq => (hown2.lt q hq).1)
      have hs := own_snoc HTS.out (by rw [HKL.out]; exact hown')
      rw [pnT_take_len (by omega)] at hs
      have hl : lenOf v' = k + 1 := by
        obtain ⟨A4, c4, rfl, _⟩ := own_form hs (pnT_take_len (by omega)).symm
        exact pnT_take_len (by omega)
      have HS := hid hs
      clear hgrow hown' hown2 hs
      go_wp2_with fail
      go_roundw
      case rel => exact ⟨k + 1, by omega, by omega, HS.out, hb3⟩
      case measure => rw [hl]; simp [lenOf]; omega
    · have hke : k = n + 1 := by omega
      subst hke
      have HO := hid ho
      clear ho hown
      go_wp2_with fail
      go_ret2
      exact ⟨A', c', by rw [pnT_take_len (by omega)]; rfl, HO.out, hbel⟩

set_option maxHeartbeats 1000000 in
theorem impl_PartitionNumber (n : Int) (w : World) (hn : I64 n) :
    Calls Try.prog 6 #[.int .i64 n] w fun e w' => e = .returned (.tuple #[.int .i64 (pvF n), .bool (nmB n)]) ∧ Below w.heap.size w w' := by
  have HP := hid (impl_PartitionNumbers n w hn)
  cases h : nmB n
  · rw [pvF_f h]
    rw [h] at HP
    clear h
    go_enter Try.func6, Try.ntmps6
    go_wp2_with (go_at_call 4; refine HP.out.mono ?_; rintro e w2 ⟨A2, c2, rfl, o2, b2⟩)
    go_ret2
    exact ⟨rfl, b2⟩
  obtain ⟨n, rfl, hn⟩ := nmB_nat h
  rw [pnF_t h, h, pnT_take_len (by omega)] at HP
  rw [pvF_t h]
  have hgt : (pnT.take (n + 1)).getD n 0 = pnT.getD n 0 := by
    rw [List.getD_eq_getElem?_getD, List.getD_eq_getElem?_getD, List.getElem?_take_of_lt (by omega)]
  obtain ⟨V, hV⟩ : ∃ V, V = pnT.getD n 0 := ⟨_, rfl⟩
  rw [← hV] at hgt ⊢
  have HG := hid hgt
  have hlt : (n : Int) < (n : Int) + 1 := by omega
  have HL := hid (pnT_take_len (n := n + 1) (by omega))
  clear h hgt hV
  go_enter Try.func6, Try.ntmps6
  go_wp2_with fail
  go_at_call 4
  refine HP.out.mono ?_
  rintro e w2 ⟨A2, c2, rfl, o2, b2⟩
  obtain ⟨b, o, rfl, hcc⟩ := o2.cells (by rw [HL.out]; omega)
  have hck := hcc n (by rw [HL.out]; omega)
  rw [HG.out] at hck
  clear hcc
  go_wp2_with fail
  go_ret2
  exact ⟨rfl, b2⟩
end Go.Proofs.Ytalmeamgnmboiaa
