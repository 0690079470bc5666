/-
  Contracts: WalkOfBoth on both sides.
-/
import Derived.Test.YtnpkfndopicdiaaWkS
namespace Go.Proofs.Ytnpkfndopicdiaa
open Go.RowKit

def wbF (xs : List Int) (a b : Int) : List Int := if ibB xs a b then wkL a b (beadsL xs xs.length) else []
theorem bound_WalkOfBoth (xs : List Int) (a b : Int) : (wbF xs a b).length ≤ 1048576 := by
  unfold wbF
  split
  · rename_i h
    rw [ibB, Bool.and_eq_true, Bool.and_eq_true] at h
    obtain ⟨ha, -⟩ := sz_iff.1 h.1.2
    rw [wkL_len]; omega
  · exact Nat.zero_le _
set_option maxRecDepth 100000 in
set_option maxHeartbeats 2000000 in
theorem impl_WalkOfBoth (A : Option Addr) (c : Nat) (xs : List Int) (a b : Int) (w : World) (hl : xs.length ≤ 1048576) (hc : Cells w A xs) (_ : I64 a) (_ : I64 b) :
    Calls Try.prog 55 #[.slice A xs.length c, .int .i64 a, .int .i64 b] w fun e w' => ∃ A' c', e = .returned (.tuple #[.slice A' (wbF xs a b).length c', .bool (ibB xs a b)]) ∧ Own w' w.heap.size A' c' (wbF xs a b) ∧ Below w.heap.size w w' := by
  cases h : good xs && sz a b
  · have hb : ibB xs a b = false := by simp [ibB, h]
    rw [show wbF xs a b = [] by simp [wbF, hb], hb]
    have HB := hid (bothCoreOf_no A c xs a b w hl hc h)
    clear h hb
    go_enter Try.func55, Try.ntmps55
    go_wp2_with fail
    refine HB.out.mono ?_
    rintro e w1 ⟨rfl, b1⟩
    go_wp2_with fail
    go_ret2
    exact ⟨none, 0, rfl, own_nil _ _, b1.alloc b1.size _⟩
  · obtain ⟨hg, hs⟩ := Bool.and_eq_true_iff.1 h
    have he := both_eq ((good_iff xs).1 hg) hs
    have hib : ibB xs a b = clB a b (beadsL xs xs.length) := by simp [ibB, h, he]
    have hbl := beadsL_len xs xs.length
    have h30 := ((good_iff xs).1 hg).len
    have hwf : wbF xs a b = if clB a b (beadsL xs xs.length) then wkL a b (beadsL xs xs.length) else [] := by unfold wbF; rw [hib]
    rw [hwf, hib]
    have HB := hid (bothCoreOf_yes A c xs a b w hl hc hg hs)
    have HWK := hid fun A c W (h : Cells W A (beadsL xs xs.length)) => walk_any A c a b (beadsL xs xs.length) W hs (by omega) h
    rw [hbl] at HWK
    obtain ⟨L, hL⟩ : ∃ L, L = beadsL xs xs.length := ⟨_, rfl⟩
    obtain ⟨K, hK⟩ : ∃ K, K = wkL a b (beadsL xs xs.length) := ⟨_, rfl⟩
    rw [← hK] at HWK ⊢
    cases hR : clB a b (beadsL xs xs.length)
    · rw [hR] at HB
      rw [← hL] at HB
      clear h hg hs he hL hR hK hib hwf hbl
      rw [if_neg (by simp)]
      go_enter Try.func55, Try.ntmps55
      go_wp2_with fail
      refine HB.out.mono ?_
      rintro e w1 ⟨A1, c1, rfl, o1, b1⟩
      go_wp2_with fail
      go_ret2
      exact ⟨none, 0, rfl, own_nil _ _, b1.alloc b1.size _⟩
    · rw [hR] at HB
      rw [← hL] at HB HWK
      clear h hg hs he hL hR hK hib hwf hbl
      rw [if_pos rfl]
      go_enter Try.func55, Try.ntmps55
      go_wp2_with fail
      refine HB.out.mono ?_
      rintro e w1 ⟨A1, c1, rfl, o1, b1⟩
      have B2 := (Below.refl w1.heap.size w1).alloc (Nat.le_refl _) (.cells #[.slice A1 xs.length c1, .int .i64 a, .int .i64 b] 64)
      have O2 := hid (o1.below B2)
      go_wp2_with (go_at_call 105; refine (HWK.out _ _ _ O2.out.cells).mono ?_; rintro e w3 ⟨A3, c3, rfl, o3, b3⟩)
      go_ret2
      have B12 := Below.next b1 B2
      exact ⟨A3, c3, rfl, o3.more B12.size, Below.next B12 b3⟩
set_option maxRecDepth 100000 in
set_option maxHeartbeats 2000000 in
theorem spec_WalkOfBoth (A : Option Addr) (c : Nat) (xs : List Int) (a b : Int) (w : World) (hl : xs.length ≤ 1048576) (hc : Cells w A xs) (_ : I64 a) (_ : I64 b) :
    Calls Try.prog 54 #[.slice A xs.length c, .int .i64 a, .int .i64 b] w fun e w' => ∃ A' c', e = .returned (.tuple #[.slice A' (wbF xs a b).length c', .bool (ibB xs a b)]) ∧ Own w' w.heap.size A' c' (wbF xs a b) ∧ Below w.heap.size w w' := by
  cases ht : sz a b
  · have hb : ibB xs a b = false := by simp [ibB, ht]
    rw [show wbF xs a b = [] by simp [wbF, hb], hb]
    have HT := hid ht
    clear ht hb
    go_enter Try.func54, Try.ntmps54
    go_wp2_with (go_at_call 78; refine (boSizes_b _ _ _ _ HT.out).mono ?_; rintro e w1 ⟨rfl, rfl⟩)
    go_ret2
    exact ⟨none, 0, rfl, own_nil _ _, Below.refl _ _⟩
  have HT := hid ht
  have HI := hid fun W (h : Cells W A xs) => boIs_any A c xs a b W hl h ht
  cases hi : ibB xs a b
  · rw [show wbF xs a b = [] by simp [wbF, hi]]
    rw [hi] at HI
    clear ht hi
    go_enter Try.func54, Try.ntmps54
    go_wp2_with (first | (go_at_call 78; refine (boSizes_b _ _ _ _ HT.out).mono ?_; rintro e w1 ⟨rfl, rfl⟩) | (go_at_call 91; refine (HI.out _ hc).mono ?_; rintro e w2 ⟨rfl, b2⟩))
    go_ret2
    exact ⟨none, 0, rfl, own_nil _ _, b2⟩
  · have hg : good xs = true := by rw [ibB, Bool.and_eq_true, Bool.and_eq_true] at hi; exact hi.1.1
    have G := (good_iff xs).1 hg
    have h30 := G.len
    have hbl := beadsL_len xs xs.length
    rw [show wbF xs a b = wkL a b (beadsL xs xs.length) by simp [wbF, hi]]
    rw [hi] at HI
    have HF := hid fun W (h : Cells W A xs) => boFirst_any A c xs W G h
    have HWK := hid fun A c W (h : Cells W A (beadsL xs xs.length)) => boWalk_any A c a b (beadsL xs xs.length) W ht (by omega) h
    rw [hbl] at HWK
    obtain ⟨K, hK⟩ : ∃ K, K = wkL a b (beadsL xs xs.length) := ⟨_, rfl⟩
    rw [← hK] at HWK ⊢
    obtain ⟨L, hL⟩ : ∃ L, L = beadsL xs xs.length := ⟨_, rfl⟩
    rw [← hL] at HWK HF
    clear ht hi hg G hbl hK hL
    go_enter Try.func54, Try.ntmps54
    go_wp2_with (first | (go_at_call 78; refine (boSizes_b _ _ _ _ HT.out).mono ?_; rintro e w1 ⟨rfl, rfl⟩) | (go_at_call 91; refine (HI.out _ hc).mono ?_; rintro e w2 ⟨rfl, b2⟩) | (go_at_call 85; refine (HF.out _ (hc.below b2)).mono ?_; rintro e w3 ⟨A3, c3, rfl, o3, b3⟩) | (go_at_call 104; refine (HWK.out _ _ _ o3.cells).mono ?_; rintro e w4 ⟨A4, c4, rfl, o4, b4⟩))
    go_ret2
    have B3 := Below.next b2 b3
    exact ⟨A4, c4, rfl, o4.more B3.size, Below.next B3 b4⟩
end Go.Proofs.Ytnpkfndopicdiaa
