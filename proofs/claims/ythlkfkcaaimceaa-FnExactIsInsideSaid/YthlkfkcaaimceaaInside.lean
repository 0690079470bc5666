/-
  Contracts: IsInside of the program and of the model.
-/
import Derived.Test.YthlkfkcaaimceaaCellsOf
import Derived.Test.YthlkfkcaaimceaaCellMath
namespace Go.Proofs.Ythlkfkcaaimceaa
open Go.RowKit

def insF (xs ys : List Int) : Bool := (good xs && good ys) && insideB xs ys
theorem insF_t {xs ys : List Int} (h1 : good xs = true) (h2 : good ys = true) : insF xs ys = insideB xs ys := by simp [insF, h1, h2]
theorem insF_f {xs ys : List Int} (h : (good xs && good ys) = false) : insF xs ys = false := by simp [insF, h]

set_option maxHeartbeats 1000000 in
theorem spec_IsInside (A : Option Addr) (c : Nat) (xs : List Int) (B : Option Addr) (d : Nat) (ys : List Int) (w : World) (hl : xs.length ≤ 1048576) (hc : Cells w A xs) (hl2 : ys.length ≤ 1048576) (hd : Cells w B ys) :
    Calls Try.prog 56 #[.slice A xs.length c, .slice B ys.length d] w fun e w' => e = .returned (.tuple #[.bool (insF xs ys), .bool (good xs && good ys)]) ∧ Below w.heap.size w w' := by
  cases hg : good xs
  · have hb : (good xs && good ys) = false := by rw [hg]; rfl
    rw [insF_f hb, Bool.false_and]
    have HG := hid hg; clear hg hb
    go_enter Try.func56, Try.ntmps56
    go_wp2_with (go_at_call 80; refine (ptGood_b _ _ _ _ hl hc _ HG.out).mono ?_; rintro e w' ⟨rfl, n, rfl⟩)
    go_ret2
    exact ⟨rfl, below_drew' _ _⟩
  cases hh : good ys
  · have hb : (good xs && good ys) = false := by rw [hh, Bool.and_false]
    rw [insF_f hb, Bool.and_false]
    have HG := hid hg; clear hg hb
    have HH := hid hh; clear hh
    go_enter Try.func56, Try.ntmps56
    go_wp2_with fail
    refine (ptGood_b _ _ _ _ hl hc _ HG.out).mono ?_
    rintro e w' ⟨rfl, n, rfl⟩
    go_wp2_with fail
    refine (ptGood_b _ _ _ _ hl2 (by exact hd) _ HH.out).mono ?_
    rintro e w' ⟨rfl, n2, rfl⟩
    go_wp2_with fail
    go_ret2
    exact ⟨rfl, below_drew' _ _⟩
  rw [insF_t hg hh, Bool.and_true]
  have G := (good_iff xs).1 hg
  have hn := G.len
  have HG := hid hg; clear hg G
  have HH := hid hh; clear hh
  have hB : Below w.heap.size w w := Below.refl _ _
  by_cases hlen : ys.length < xs.length
  · rw [inside_no_len hlen]
    go_enter Try.func56, Try.ntmps56
    go_wp2_with fail
    refine (ptGood_b _ _ _ _ hl hc _ HG.out).mono ?_
    rintro e w' ⟨rfl, n, rfl⟩
    go_wp2_with fail
    refine (ptGood_b _ _ _ _ hl2 (by exact hd) _ HH.out).mono ?_
    rintro e w' ⟨rfl, n2, rfl⟩
    go_wp2_with fail
    go_ret2
    exact ⟨rfl, below_drew' _ _⟩
  go_enter Try.func56, Try.ntmps56
  go_wp2_with fail
  refine (ptGood_b _ _ _ _ hl hc _ HG.out).mono ?_
  rintro e w' ⟨rfl, n, rfl⟩
  go_wp2_with fail
  refine (ptGood_b _ _ _ _ hl2 (by exact hd) _ HH.out).mono ?_
  rintro e w' ⟨rfl, n2, rfl⟩
  go_wp2_with fail
  go_loop [23] (fun i => ∃ k : Nat, k ≤ xs.length ∧ i = .int .i64 k ∧ Hid (∀ j, j < k → xs.getD j 0 ≤ ys.getD j 0)) (fun i => xs.length - (intOf i).toNat)
  case atStart => exact ⟨0, Nat.zero_le _, rfl, hid fun j hj => absurd hj (by omega)⟩
  case round =>
    obtain ⟨k, hk, rfl, HK⟩ := hrel
    by_cases hlt : k < xs.length
    · obtain ⟨b, o, rfl, hcc⟩ := hc (by omega)
      obtain ⟨b2, o2, rfl, hdd⟩ := hd (by omega)
      have hck := hcc k hlt
      have hdk := hdd k (by omega)
      clear hcc hdd
      obtain ⟨x, hx⟩ : ∃ x, x = xs.getD k 0 := ⟨_, rfl⟩
      obtain ⟨y, hy⟩ : ∃ y, y = ys.getD k 0 := ⟨_, rfl⟩
      rw [← hx] at hck
      rw [← hy] at hdk
      have HX := hid hx; clear hx
      have HY := hid hy; clear hy
      have hk2 : (k : Int) < ys.length := by omega
      by_cases hxy : x ≤ y
      · go_wp2_with fail
        go_round
        case rel =>
          refine ⟨k + 1, by omega, by go_num, hid fun j hj => ?_⟩
          by_cases hjk : j < k
          · exact HK.out j hjk
          · have : j = k := by omega
            subst this; rw [← HX.out, ← HY.out]; exact hxy
        case measure => simp [intOf]; omega
      · go_wp2_with fail
        go_ret2
        exact ⟨ret_two (congrArg Value.bool (inside_no hlt (by rw [← HX.out, ← HY.out]; omega)).symm) rfl, below_drew' _ _⟩
    · go_wp2_with fail
      go_ret2
      exact ⟨ret_two (congrArg Value.bool (inside_yes (by omega) fun j hj => HK.out j (by omega)).symm) rfl, below_drew' _ _⟩

set_option maxHeartbeats 1000000 in
theorem impl_IsInside (A : Option Addr) (c : Nat) (xs : List Int) (B : Option Addr) (d : Nat) (ys : List Int) (w : World) (hl : xs.length ≤ 1048576) (hc : Cells w A xs) (hl2 : ys.length ≤ 1048576) (hd : Cells w B ys) :
    Calls Try.prog 49 #[.slice A xs.length c, .slice B ys.length d] w fun e w' => e = .returned (.tuple #[.bool (insF xs ys), .bool (good xs && good ys)]) ∧ Below w.heap.size w w' := by
  cases hg : good xs
  · have hb : (good xs && good ys) = false := by rw [hg]; rfl
    rw [insF_f hb, Bool.false_and]
    have HG := hid hg; clear hg hb
    go_enter Try.func49, Try.ntmps49
    go_wp2_with (go_at_call 34; refine (IsPartition_b _ _ _ _ hl hc _ HG.out).mono ?_; rintro e w' ⟨rfl, rfl⟩)
    go_ret2
    exact ⟨rfl, Below.refl _ _⟩
  cases hh : good ys
  · have hb : (good xs && good ys) = false := by rw [hh, Bool.and_false]
    rw [insF_f hb, Bool.and_false]
    have HG := hid hg; clear hg hb
    have HH := hid hh; clear hh
    go_enter Try.func49, Try.ntmps49
    go_wp2_with fail
    refine (IsPartition_b _ _ _ _ hl hc _ HG.out).mono ?_
    rintro e w' ⟨rfl, rfl⟩
    go_wp2_with fail
    refine (IsPartition_b _ _ _ _ hl2 (by exact hd) _ HH.out).mono ?_
    rintro e w' ⟨rfl, rfl⟩
    go_wp2_with fail
    go_ret2
    exact ⟨rfl, Below.refl _ _⟩
  rw [insF_t hg hh, Bool.and_true]
  have G := (good_iff xs).1 hg
  have hn := G.len
  have HG := hid hg; clear hg G
  have HH := hid hh; clear hh
  have hB : Below w.heap.size w w := Below.refl _ _
  by_cases hlen : ys.length < xs.length
  · rw [inside_no_len hlen]
    go_enter Try.func49, Try.ntmps49
    go_wp2_with fail
    refine (IsPartition_b _ _ _ _ hl hc _ HG.out).mono ?_
    rintro e w' ⟨rfl, rfl⟩
    go_wp2_with fail
    refine (IsPartition_b _ _ _ _ hl2 (by exact hd) _ HH.out).mono ?_
    rintro e w' ⟨rfl, rfl⟩
    go_wp2_with fail
    go_ret2
    exact ⟨rfl, Below.refl _ _⟩
  go_enter Try.func49, Try.ntmps49
  go_wp2_with fail
  refine (IsPartition_b _ _ _ _ hl hc _ HG.out).mono ?_
  rintro e w' ⟨rfl, rfl⟩
  go_wp2_with fail
  refine (IsPartition_b _ _ _ _ hl2 (by exact hd) _ HH.out).mono ?_
  rintro e w' ⟨rfl, rfl⟩
  go_wp2_with fail
  go_loop [23] (fun i => ∃ k : Nat, k ≤ xs.length ∧ i = .int .i64 k ∧ Hid (∀ j, j < k → xs.getD j 0 ≤ ys.getD j 0)) (fun i => xs.length - (intOf i).toNat)
  case atStart => exact ⟨0, Nat.zero_le _, rfl, hid fun j hj => absurd hj (by omega)⟩
  case round =>
    obtain ⟨k, hk, rfl, HK⟩ := hrel
    by_cases hlt : k < xs.length
    · obtain ⟨b, o, rfl, hcc⟩ := hc (by omega)
      obtain ⟨b2, o2, rfl, hdd⟩ := hd (by omega)
      have hck := hcc k hlt
      have hdk := hdd k (by omega)
      clear hcc hdd
      obtain ⟨x, hx⟩ : ∃ x, x = xs.getD k 0 := ⟨_, rfl⟩
      obtain ⟨y, hy⟩ : ∃ y, y = ys.getD k 0 := ⟨_, rfl⟩
      rw [← hx] at hck
      rw [← hy] at hdk
      have HX := hid hx; clear hx
      have HY := hid hy; clear hy
      have hk2 : (k : Int) < ys.length := by omega
      by_cases hxy : x ≤ y
      · go_wp2_with fail
        go_round
        case rel =>
          refine ⟨k + 1, by omega, by go_num, hid fun j hj => ?_⟩
          by_cases hjk : j < k
          · exact HK.out j hjk
          · have : j = k := by omega
            subst this; rw [← HX.out, ← HY.out]; exact hxy
        case measure => simp [intOf]; omega
      · go_wp2_with fail
        go_ret2
        exact ⟨ret_two (congrArg Value.bool (inside_no hlt (by rw [← HX.out, ← HY.out]; omega)).symm) rfl, Below.refl _ _⟩
    · go_wp2_with fail
      go_ret2
      exact ⟨ret_two (congrArg Value.bool (inside_yes (by omega) fun j hj => HK.out j (by omega)).symm) rfl, Below.refl _ _⟩

end Go.Proofs.Ythlkfkcaaimceaa
