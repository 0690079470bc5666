/-
  Contracts: RankOf, CrankOf on both sides.
-/
import Derived.Test.YtkdkocpgaalmeaaPab
import Derived.Test.YtkdkocpgaalmeaaCB
namespace Go.Proofs.Ytkdkocpgaalmeaa
open Go.RowKit

def rcB (xs : List Int) : Bool := good xs && decide (0 < xs.length)
theorem rcB_iff {xs : List Int} : rcB xs = true ↔ good xs = true ∧ 0 < xs.length := by simp [rcB]
def rkV (xs : List Int) : Int := xs.getD 0 0 - xs.length
def rkF (xs : List Int) : Int := if rcB xs then rkV xs else 0
theorem rkF_t {xs : List Int} (h : rcB xs = true) : rkF xs = rkV xs := by simp [rkF, h]
theorem rkF_f {xs : List Int} (h : rcB xs = false) : rkF xs = 0 := by simp [rkF, h]
def onesN (xs : List Int) : Int := xs.length - colH xs 1
def crV (xs : List Int) : Int := if onesN xs = 0 then xs.getD 0 0 else colH xs (onesN xs) - onesN xs
def crF (xs : List Int) : Int := if rcB xs then crV xs else 0
theorem crF_t {xs : List Int} (h : rcB xs = true) : crF xs = crV xs := by simp [crF, h]
theorem crF_f {xs : List Int} (h : rcB xs = false) : crF xs = 0 := by simp [crF, h]
theorem colH_take_succ (xs : List Int) (c : Int) (k : Nat) (h : k < xs.length) : colH (xs.take (k + 1)) c = colH (xs.take k) c + ind c (xs.getD k 0) := by
  rw [colH_ind, colH_ind, List.map_take, List.map_take, sum_take_succ _ k (by simpa using h), map_get xs (ind c) k h]
theorem colH_take_le (xs : List Int) (c : Int) (k : Nat) (h : k ≤ xs.length) : 0 ≤ colH (xs.take k) c ∧ colH (xs.take k) c ≤ k := by
  have := colH_bound (xs.take k) c
  rw [List.length_take] at this
  omega

set_option maxHeartbeats 400000 in
theorem hasCells_b (A : Option Addr) (c : Nat) (xs : List Int) (w : World) (hl : xs.length ≤ 1048576) (hc : Cells w A xs) (b : Bool) (h : rcB xs = b) :
    Calls Try.prog 110 #[.slice A xs.length c] w fun e w' => e = .returned (.bool b) ∧ w = w' := by
  subst h
  cases hg : good xs
  · have hr : rcB xs = false := by simp [rcB, hg]
    rw [hr]
    have HG := hid hg; clear hg hr
    go_enter Try.func110, Try.ntmps110
    go_wp2_with (go_at_call 109; refine (IsPartition_b _ _ _ _ hl hc _ HG.out).mono ?_; rintro e w' ⟨rfl, rfl⟩)
    go_ret
    exact ⟨rfl, rfl⟩
  by_cases h0 : 0 < xs.length
  · have hr : rcB xs = true := by simp [rcB, hg, h0]
    rw [hr]
    have HG := hid hg; clear hg hr
    go_enter Try.func110, Try.ntmps110
    go_wp2_with (go_at_call 109; refine (IsPartition_b _ _ _ _ hl hc _ HG.out).mono ?_; rintro e w' ⟨rfl, rfl⟩)
    go_ret
    exact ⟨rfl, rfl⟩
  · have hr : rcB xs = false := by simp [rcB, h0]
    rw [hr]
    have HG := hid hg; clear hg hr
    go_enter Try.func110, Try.ntmps110
    go_wp2_with (go_at_call 109; refine (IsPartition_b _ _ _ _ hl hc _ HG.out).mono ?_; rintro e w' ⟨rfl, rfl⟩)
    go_ret
    exact ⟨rfl, rfl⟩

set_option maxHeartbeats 400000 in
theorem rankOf_any (A : Option Addr) (c : Nat) (xs : List Int) (w : World) (G : Good xs) (h0 : 0 < xs.length) (hc : Cells w A xs) :
    Calls Try.prog 111 #[.slice A xs.length c] w fun e w' => e = .returned (.int .i64 (rkV xs)) ∧ w = w' := by
  have hlen := G.len
  have hx0 := G.le 0 h0
  have hx1 := G.pos 0 h0
  obtain ⟨b, o, rfl, hcc⟩ := hc h0
  have hc0 := hcc 0 h0
  rw [Nat.add_zero] at hc0
  unfold rkV
  obtain ⟨x, hx⟩ : ∃ x, x = xs.getD 0 0 := ⟨_, rfl⟩
  rw [← hx] at hc0 hx0 hx1 ⊢
  clear hx hcc hc G
  go_enter Try.func111, Try.ntmps111
  go_wp2_with fail
  go_ret
  exact ⟨rfl, rfl⟩

set_option maxHeartbeats 400000 in
theorem crankOf_any (A : Option Addr) (c : Nat) (xs : List Int) (w : World) (G : Good xs) (h0 : 0 < xs.length) (hc : Cells w A xs) :
    Calls Try.prog 113 #[.slice A xs.length c] w fun e w' => e = .returned (.int .i64 (crV xs)) ∧ Below w.heap.size w w' := by
  have hlen := G.len
  have h1 := colH_bound xs 1
  have h2 := colH_bound xs (onesN xs)
  have HP := hid (fun wx (hb : Below w.heap.size w wx) (cc : Int) => partsAbove_any A c xs cc wx hlen (hc.later hb))
  have hnb : onesN xs = xs.length - colH xs 1 := rfl
  by_cases hz : onesN xs = 0
  · have e : crV xs = xs.getD 0 0 := by simp [crV, hz]
    rw [e]
    obtain ⟨b, o, rfl, hcc⟩ := hc h0
    have hc0 := hcc 0 h0
    rw [Nat.add_zero] at hc0
    obtain ⟨x, hx⟩ : ∃ x, x = xs.getD 0 0 := ⟨_, rfl⟩
    rw [← hx] at hc0 ⊢
    have HP1 := hid (HP.out w (Below.refl _ _) 1)
    obtain ⟨y, hy⟩ : ∃ y, y = colH xs 1 := ⟨_, rfl⟩
    rw [← hy] at h1 hnb HP1
    have hny : (xs.length : Int) - y = 0 := by omega
    clear hx hcc hc G hy e h2 hnb
    go_enter Try.func113, Try.ntmps113
    go_wp2_with fail
    go_at_call 153
    refine HP1.out.mono ?_
    rintro e w2 ⟨rfl, b2⟩
    have hc2 := (b2.cell (World.block_lt_of_cell? w _ hc0)).trans hc0
    go_wp2_with fail
    go_ret
    exact ⟨rfl, b2⟩
  · have e : crV xs = colH xs (onesN xs) - onesN xs := by simp [crV, hz]
    rw [e]
    have HP1 := hid (HP.out w (Below.refl _ _) 1)
    obtain ⟨y, hy⟩ : ∃ y, y = colH xs 1 := ⟨_, rfl⟩
    obtain ⟨n, hn⟩ : ∃ n, n = onesN xs := ⟨_, rfl⟩
    rw [← hy] at h1 hnb HP1
    rw [← hn] at h2 hnb hz ⊢
    have HP2 := hid (fun wx (hb : Below w.heap.size w wx) => HP.out wx hb n)
    obtain ⟨z, hz2⟩ : ∃ z, z = colH xs n := ⟨_, rfl⟩
    rw [← hz2] at h2 HP2 ⊢
    have hny : (xs.length : Int) - y = n := hnb.symm
    clear hc G hy e hnb hn hz2
    go_enter Try.func113, Try.ntmps113
    go_wp2_with fail
    go_at_call 153
    refine HP1.out.mono ?_
    rintro e w2 ⟨rfl, b2⟩
    have HP3 := hid (HP2.out w2 b2)
    go_wp2_with fail
    go_at_call 153
    refine HP3.out.mono ?_
    rintro e w3 ⟨rfl, b3⟩
    go_wp2_with fail
    go_ret
    exact ⟨rfl, Below.next b2 b3⟩

set_option maxHeartbeats 1000000 in
theorem rkCrank_any (A : Option Addr) (c : Nat) (xs : List Int) (w : World) (G : Good xs) (h0 : 0 < xs.length) (hc : Cells w A xs) :
    Calls Try.prog 112 #[.slice A xs.length c] w fun e w' => e = .returned (.int .i64 (crV xs)) ∧ w = w' := by
  have hlen := G.len
  have HG := hid G; clear G
  have h1 := colH_bound xs 1
  have h2 := colH_bound xs (onesN xs)
  have hnb : onesN xs = xs.length - colH xs 1 := rfl
  obtain ⟨n, hn⟩ : ∃ n, n = onesN xs := ⟨_, rfl⟩
  rw [← hn] at h2 hnb
  have HN := hid hn; clear hn
  obtain ⟨b, o, rfl, hcc⟩ := hc h0
  have HCC := hid hcc
  have HNB := hid hnb
  have HC2 := hid h2
  have hn0 : 0 ≤ n ∧ n ≤ 30 := by omega
  clear hcc hc h1 hnb h2
  go_enter Try.func112, Try.ntmps112
  go_wp2_with fail
  go_loop [3, 11] (fun s i => ∃ k : Nat, k ≤ xs.length ∧ i = .int .i64 k ∧ s = .int .i64 ((k : Int) - colH (xs.take k) 1)) (fun _ i => xs.length - (intOf i).toNat)
  case atStart => exact ⟨0, Nat.zero_le _, rfl, by simp [colH]⟩
  case round =>
    obtain ⟨k, hk, rfl, rfl⟩ := hrel
    have hkb := colH_take_le xs 1 k hk
    by_cases hlt : k < xs.length
    · have hck := HCC.out k hlt
      have hxp := HG.out.pos k hlt
      have hxl := HG.out.le k hlt
      have hs := colH_take_succ xs 1 k hlt
      obtain ⟨x, hx⟩ : ∃ x, x = xs.getD k 0 := ⟨_, rfl⟩
      rw [← hx] at hck hxp hxl hs
      obtain ⟨y, hy⟩ : ∃ y, y = colH (xs.take k) 1 := ⟨_, rfl⟩
      rw [← hy] at hkb hs ⊢
      have HS := hid hs
      clear hx hy hs
      by_cases h1 : x = 1
      · go_wp2_with fail
        go_round
        case rel => exact ⟨k + 1, by omega, by go_num, by rw [HS.out]; congr 1; simp [ind, h1]; omega⟩
        case measure => simp [intOf]; omega
      · have h1l : 1 < x := by omega
        go_wp2_with fail
        go_round
        case rel => exact ⟨k + 1, by omega, by go_num, by rw [HS.out]; congr 1; simp [ind, h1l]; omega⟩
        case measure => simp [intOf]; omega
    · have hke : k = xs.length := by omega
      subst hke
      rw [List.take_of_length_le (Nat.le_refl _), ← HNB.out]
      clear hkb
      by_cases hz : n = 0
      · have hc0 := HCC.out 0 h0
        rw [Nat.add_zero] at hc0
        have hr : crV xs = xs.getD 0 0 := by unfold crV; rw [← HN.out, if_pos hz]
        obtain ⟨x, hx⟩ : ∃ x, x = xs.getD 0 0 := ⟨_, rfl⟩
        rw [← hx] at hc0 hr
        have HR := hid hr
        clear hr hx
        go_wp2_with fail
        go_ret
        exact ⟨ret_int HR.out.symm, rfl⟩
      · have hr : crV xs = colH xs n - n := by unfold crV; rw [← HN.out, if_neg hz]
        have HR := hid hr
        clear hr
        go_wp2_with fail
        go_loop [6, 27] (fun s i => ∃ k : Nat, k ≤ xs.length ∧ i = .int .i64 k ∧ s = .int .i64 (colH (xs.take k) n)) (fun _ i => xs.length - (intOf i).toNat)
        case atStart => exact ⟨0, Nat.zero_le _, rfl, by simp [colH]⟩
        case round =>
          obtain ⟨k, hk, rfl, rfl⟩ := hrel
          have hkb := colH_take_le xs n k hk
          by_cases hlt : k < xs.length
          · have hck := HCC.out k hlt
            have hs := colH_take_succ xs n k hlt
            obtain ⟨x, hx⟩ : ∃ x, x = xs.getD k 0 := ⟨_, rfl⟩
            rw [← hx] at hck hs
            obtain ⟨y, hy⟩ : ∃ y, y = colH (xs.take k) n := ⟨_, rfl⟩
            rw [← hy] at hkb hs ⊢
            have HS := hid hs
            clear hx hy hs
            by_cases h1 : n < x
            · go_wp2_with fail
              go_round
              case rel => exact ⟨k + 1, by omega, by go_num, by rw [HS.out]; congr 1; simp [ind, h1]⟩
              case measure => simp [intOf]; omega
            · go_wp2_with fail
              go_round
              case rel => exact ⟨k + 1, by omega, by go_num, by rw [HS.out]; congr 1; simp [ind, h1]⟩
              case measure => simp [intOf]; omega
          · rw [List.take_of_length_le (by omega)] at hkb ⊢
            obtain ⟨y, hy⟩ : ∃ y, y = colH xs n := ⟨_, rfl⟩
            rw [← hy] at hkb ⊢
            have HE := hid (show y - n = crV xs by rw [hy, HR.out])
            clear hy
            go_wp2_with fail
            go_ret
            exact ⟨ret_int HE.out, rfl⟩

set_option maxHeartbeats 400000 in
theorem impl_RankOf (A : Option Addr) (c : Nat) (xs : List Int) (w : World) (hl : xs.length ≤ 1048576) (hc : Cells w A xs) :
    Calls Try.prog 54 #[.slice A xs.length c] w fun e w' => e = .returned (.tuple #[.int .i64 (rkF xs), .bool (rcB xs)]) ∧ Below w.heap.size w w' := by
  cases h : rcB xs
  · rw [rkF_f h]
    have H := hid h; clear h
    go_enter Try.func54, Try.ntmps54
    go_wp2_with (go_at_call 110; refine (hasCells_b _ _ _ _ hl hc _ H.out).mono ?_; rintro e w' ⟨rfl, rfl⟩)
    go_ret2
    exact ⟨rfl, Below.refl _ _⟩
  rw [rkF_t h]
  have hh := rcB_iff.1 h
  have G := (good_iff xs).1 hh.1
  have HC := hid (rankOf_any A c xs w G hh.2 hc)
  have H := hid h; clear h hh G
  obtain ⟨V, hV⟩ : ∃ V, V = rkV xs := ⟨_, rfl⟩
  rw [← hV] at HC ⊢
  clear hV
  go_enter Try.func54, Try.ntmps54
  go_wp2_with (first | (go_at_call 110; refine (hasCells_b _ _ _ _ hl hc _ H.out).mono ?_; rintro e w' ⟨rfl, rfl⟩) | (go_at_call 111; refine HC.out.mono ?_; rintro e w2 ⟨rfl, rfl⟩))
  go_ret2
  exact ⟨rfl, Below.refl _ _⟩

set_option maxHeartbeats 400000 in
theorem spec_RankOf (A : Option Addr) (c : Nat) (xs : List Int) (w : World) (hl : xs.length ≤ 1048576) (hc : Cells w A xs) :
    Calls Try.prog 53 #[.slice A xs.length c] w fun e w' => e = .returned (.tuple #[.int .i64 (rkF xs), .bool (rcB xs)]) ∧ Below w.heap.size w w' := by
  cases hg : good xs
  · have h : rcB xs = false := by simp [rcB, hg]
    rw [rkF_f h, h]
    have HG := hid hg; clear hg h
    go_enter Try.func53, Try.ntmps53
    go_wp2_with (go_at_call 77; refine (ptGood_b _ _ _ _ hl hc _ HG.out).mono ?_; rintro e w' ⟨rfl, n, rfl⟩)
    go_ret2
    exact ⟨rfl, below_drew' _ _⟩
  by_cases h0 : 0 < xs.length
  · have h : rcB xs = true := rcB_iff.2 ⟨hg, h0⟩
    rw [rkF_t h, h]
    have G := (good_iff xs).1 hg
    have hlen := G.len
    have hx0 := G.le 0 h0
    have hx1 := G.pos 0 h0
    obtain ⟨b, o, rfl, hcc⟩ := hc h0
    have hc0 := hcc 0 h0
    rw [Nat.add_zero] at hc0
    unfold rkV
    obtain ⟨x, hx⟩ : ∃ x, x = xs.getD 0 0 := ⟨_, rfl⟩
    rw [← hx] at hc0 hx0 hx1 ⊢
    have HG := hid hg; clear hg h hx hcc G
    go_enter Try.func53, Try.ntmps53
    go_wp2_with (go_at_call 77; refine (ptGood_b _ _ _ _ hl hc _ HG.out).mono ?_; rintro e w' ⟨rfl, n, rfl⟩)
    go_ret2
    exact ⟨rfl, below_drew' _ _⟩
  · have h : rcB xs = false := by simp [rcB, h0]
    obtain rfl : xs = [] := List.eq_nil_of_length_eq_zero (by omega)
    rw [rkF_f h, h]
    have hq := fun wx => ptGood_b A [] c wx hl (Cells.nil wx A) _ hg
    have HQ := hid hq
    clear hq
    have HG := hid hg; clear hg h
    go_enter Try.func53, Try.ntmps53
    go_wp2_with (go_at_call 77; refine (HQ.out _).mono ?_; rintro e w' ⟨rfl, n, rfl⟩)
    go_ret2
    exact ⟨rfl, below_drew' _ _⟩

set_option maxHeartbeats 400000 in
theorem impl_CrankOf (A : Option Addr) (c : Nat) (xs : List Int) (w : World) (hl : xs.length ≤ 1048576) (hc : Cells w A xs) :
    Calls Try.prog 56 #[.slice A xs.length c] w fun e w' => e = .returned (.tuple #[.int .i64 (crF xs), .bool (rcB xs)]) ∧ Below w.heap.size w w' := by
  cases h : rcB xs
  · rw [crF_f h]
    have H := hid h; clear h
    go_enter Try.func56, Try.ntmps56
    go_wp2_with (go_at_call 110; refine (hasCells_b _ _ _ _ hl hc _ H.out).mono ?_; rintro e w' ⟨rfl, rfl⟩)
    go_ret2
    exact ⟨rfl, Below.refl _ _⟩
  rw [crF_t h]
  have hh := rcB_iff.1 h
  have G := (good_iff xs).1 hh.1
  have HC := hid (crankOf_any A c xs w G hh.2 hc)
  have H := hid h; clear h hh G
  obtain ⟨V, hV⟩ : ∃ V, V = crV xs := ⟨_, rfl⟩
  rw [← hV] at HC ⊢
  clear hV
  go_enter Try.func56, Try.ntmps56
  go_wp2_with (first | (go_at_call 110; refine (hasCells_b _ _ _ _ hl hc _ H.out).mono ?_; rintro e w' ⟨rfl, rfl⟩) | (go_at_call 113; refine HC.out.mono ?_; rintro e w2 ⟨rfl, b2⟩))
  go_ret2
  exact ⟨rfl, b2⟩

set_option maxHeartbeats 400000 in
theorem spec_CrankOf (A : Option Addr) (c : Nat) (xs : List Int) (w : World) (hl : xs.length ≤ 1048576) (hc : Cells w A xs) :
    Calls Try.prog 55 #[.slice A xs.length c] w fun e w' => e = .returned (.tuple #[.int .i64 (crF xs), .bool (rcB xs)]) ∧ Below w.heap.size w w' := by
  cases hg : good xs
  · have h : rcB xs = false := by simp [rcB, hg]
    rw [crF_f h, h]
    have HG := hid hg; clear hg h
    go_enter Try.func55, Try.ntmps55
    go_wp2_with (go_at_call 77; refine (ptGood_b _ _ _ _ hl hc _ HG.out).mono ?_; rintro e w' ⟨rfl, n, rfl⟩)
    go_ret2
    exact ⟨rfl, below_drew' _ _⟩
  by_cases h0 : 0 < xs.length
  · have h : rcB xs = true := rcB_iff.2 ⟨hg, h0⟩
    rw [crF_t h, h]
    have G := (good_iff xs).1 hg
    have HC := hid (fun wx (h : Cells wx A xs) => rkCrank_any A c xs wx G h0 h)
    obtain ⟨V, hV⟩ : ∃ V, V = crV xs := ⟨_, rfl⟩
    rw [← hV] at HC ⊢
    have HG := hid hg; clear hg h hV G
    go_enter Try.func55, Try.ntmps55
    go_wp2_with (first | (go_at_call 77; refine (ptGood_b _ _ _ _ hl hc _ HG.out).mono ?_; rintro e w' ⟨rfl, n, rfl⟩) | (go_at_call 112; refine (HC.out _ (by exact hc)).mono ?_; rintro e w' ⟨rfl, rfl⟩))
    go_ret2
    exact ⟨rfl, below_drew' _ _⟩
  · have h : rcB xs = false := by simp [rcB, h0]
    obtain rfl : xs = [] := List.eq_nil_of_length_eq_zero (by omega)
    rw [crF_f h, h]
    have hq := fun wx => ptGood_b A [] c wx hl (Cells.nil wx A) _ hg
    have HQ := hid hq
    clear hq
    have HG := hid hg; clear hg h
    go_enter Try.func55, Try.ntmps55
    go_wp2_with (go_at_call 77; refine (HQ.out _).mono ?_; rintro e w' ⟨rfl, n, rfl⟩)
    go_ret2
    exact ⟨rfl, below_drew' _ _⟩
end Go.Proofs.Ytkdkocpgaalmeaa
