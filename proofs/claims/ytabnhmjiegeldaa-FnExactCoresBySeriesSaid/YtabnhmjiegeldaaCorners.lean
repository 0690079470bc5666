/-
  Contracts: CornersOf of the program and of the model.
-/
import Derived.Test.YtabnhmjiegeldaaConjF
import Derived.Test.YtabnhmjiegeldaaCorMath
namespace Go.Proofs.Ytabnhmjiegeldaa
open Go.RowKit


set_option maxRecDepth 100000 in
set_option maxHeartbeats 1000000 in
theorem impl_CornersOf (A : Option Addr) (c : Nat) (xs : List Int) (w : World) (hl : xs.length ≤ 1048576) (hc : Cells w A xs) :
    Calls Try.prog 170 #[.slice A xs.length c] w fun e w' => ∃ A' c', e = .returned (.tuple #[.slice A' (corF xs).length c', .bool (good xs)]) ∧ Own w' w.heap.size A' c' (corF xs) ∧ Below w.heap.size w w' := by
  obtain ⟨i0, hi, hz0, hz1, hz2⟩ := info_parts Try.infoInt
  cases hg : good xs
  · rw [corF_f hg]
    have HG := hid hg; clear hg
    go_enter Try.func170, Try.ntmps170
    go_wp2_with (go_at_call 160; refine (IsPartition_b _ _ _ _ hl hc _ HG.out).mono ?_; rintro e w' ⟨rfl, rfl⟩)
    go_ret2
    exact ⟨none, 0, rfl, own_nil _ _, Below.refl _ _⟩
  rw [corF_t hg]
  have hlen := ((good_iff xs).1 hg).len
  have HG := hid hg; clear hg
  go_enter Try.func170, Try.ntmps170
  go_wp2_with (go_at_call 160; refine (IsPartition_b _ _ _ _ hl hc _ HG.out).mono ?_; rintro e w' ⟨rfl, rfl⟩)
  go_loopw [4, 12] (fun v i wr => ∃ k : Nat, k ≤ xs.length ∧ i = .int .i64 k ∧ wr.ownsRow w.heap.size 3 1 v (filt (corB xs) k).length (IL (filt (corB xs) k)) ∧ Below w.heap.size w wr) (fun _ i _ => xs.length - (intOf i).toNat)
  case atStart => exact ⟨0, Nat.zero_le _, rfl, World.ownsRow_nil _ _ _ _, Below.refl _ _⟩
  case round =>
    obtain ⟨k, hk, rfl, hown, hbel⟩ := hrel
    have hfl := filt_len (corB xs) k
    by_cases hlt : k < xs.length
    · have hcr : Cells wr A xs := hc.later hbel
      obtain ⟨b, o, rfl, hcc⟩ := hcr (by omega)
      have hck := hcc k hlt
      obtain ⟨x, hx⟩ : ∃ x, x = xs.getD k 0 := ⟨_, rfl⟩
      rw [← hx] at hck
      have HX := hid hx; clear hx
      have HF := hid hfl; clear hfl
      have hfl := HF.out
      by_cases hlast : k + 1 = xs.length
      · have HL := hid hlast
        have hkl : (k : Int) = (xs.length : Int) - 1 := by omega
        have hke : ((k : Int) == (xs.length : Int) - 1) = true := beq_iff_eq.2 hkl
        clear hcc hlast hkl
        go_wp2_with (at_builtin; refine wpList_append_own _ rfl _ _ 22 rfl w.heap.size 3 i0 (.int .i64 0) 1 8 Try.underlying22 hi hz0 hz1 hz2 rfl (by decide) _ _ _ rfl (hown.alloc _) ⟨wr.heap.size, 0, none⟩ 1 1 [.int .i64 (k : Int)] rfl rfl one_at (one_cell _) (by have := hfl; unfold maxLen; omega) (by have := hfl; omega) (by have := hbel.size; simp; omega) ?_)
        intro v' w1 hown' hgrow _
        have hb1 : Below w.heap.size w w1 := (hbel.alloc hbel.size _).grown hgrow (by have := hbel.size; simp; omega) (fun q hq => (hown.lt q hq).1)
        have hown2 := own_snoc (filt_yes (cor_last HL.out)) hown'
        clear hgrow hown hown'
        go_wp2_with fail
        go_roundw
        case rel => exact ⟨k + 1, by omega, by go_num, hown2, hb1⟩
        case measure => simp [intOf]; omega
      have hke : ((k : Int) == (xs.length : Int) - 1) = false := beq_eq_false_iff_ne.2 (by omega)
      have hck1 := hcc (k + 1) (by omega)
      have HLa := hid hlast; clear hlast
      have hk2 : k + 1 < xs.length := by have := HLa.out; omega
      obtain ⟨y, hy⟩ : ∃ y, y = xs.getD (k + 1) 0 := ⟨_, rfl⟩
      rw [← hy] at hck1
      have HY := hid hy; clear hy hcc
      by_cases hxy : y < x
      · have HXY := hid hxy
        go_wp2_with (at_builtin; refine wpList_append_own _ rfl _ _ 22 rfl w.heap.size 3 i0 (.int .i64 0) 1 8 Try.underlying22 hi hz0 hz1 hz2 rfl (by decide) _ _ _ rfl (hown.alloc _) ⟨wr.heap.size, 0, none⟩ 1 1 [.int .i64 (k : Int)] rfl rfl one_at (one_cell _) (by have := hfl; unfold maxLen; omega) (by have := hfl; omega) (by have := hbel.size; simp; omega) ?_)
        intro v' w1 hown' hgrow _
        have hb1 : Below w.heap.size w w1 := (hbel.alloc hbel.size _).grown hgrow (by have := hbel.size; simp; omega) (fun q hq => (hown.lt q hq).1)
        have hown2 := own_snoc (filt_yes (cor_lt (by rw [← HX.out, ← HY.out]; exact HXY.out))) hown'
        clear hgrow hown hown'
        go_wp2_with fail
        go_roundw
        case rel => exact ⟨k + 1, by omega, by go_num, hown2, hb1⟩
        case measure => simp [intOf]; omega
      · go_wp2_with fail
        go_roundw
        case rel => exact ⟨k + 1, by omega, by go_num, by rw [filt_no (cor_no HLa.out (by rw [← HX.out, ← HY.out]; exact hxy))]; exact hown, hbel⟩
        case measure => simp [intOf]; omega
    · have hkl : k = xs.length := by omega
      subst hkl
      obtain ⟨A', c', rfl, ho⟩ := own_form hown rfl
      clear hown hfl
      go_wp2_with fail
      go_ret2
      exact ⟨A', c', rfl, ho, hbel⟩
end Go.Proofs.Ytabnhmjiegeldaa
