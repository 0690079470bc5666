/-
  Several texts in one.
-/
import Derived.Test.YtmiifdedmjfgkaaR04
import Derived.Test.YtmiifdedmjfgkaaR02
/-
  Contracts: RankOf, CrankOf on both sides.
-/
namespace Go.Proofs.Ytmiifdedmjfgkaa
open Go.RowKit

def rcB (xs : List Int) : Bool := good xs && decide (0 < xs.length)
theorem rcB_iff {xs : List Int} : rcB xs = true ↔ good xs = true ∧ 0 < xs.length := by simp [rcB]
def rkV (xs : List Int) : Int := xs.getD 0 0 - xs.length
def rkF (xs : List Int) : Int := if rcB xs then rkV xs else 0
theorem rkF_t {xs : List Int} (h : rcB xs = true) : rkF xs = rkV xs := by simp [rkF, h]
theorem rkF_f {xs : List Int} (h : rcB xs = false) : rkF xs = 0 := by simp [rkF, h]
def onesN (xs : List Int) : Int := xs.length - colH xs 1
def crV (xs : List Int) : Int := if onesN xs = 0 then xs.getD 0 0 else colH xs (onesN xs) - onesN xs
def crF (xs : List Int) : Int := if rcB xs then crV xs else 0
theorem crF_t {xs : List Int} (h : rcB xs = true) : crF xs = crV xs := by simp [crF, h]
theorem crF_f {xs : List Int} (h : rcB xs = false) : crF xs = 0 := by simp [crF, h]
theorem colH_take_succ (xs : List Int) (c : Int) (k : Nat) (h : k < xs.length) : colH (xs.take (k + 1)) c = colH (xs.take k) c + ind c (xs.getD k 0) := by
  rw [colH_ind, colH_ind, List.map_take, List.map_take, sum_take_succ _ k (by simpa using h), map_get xs (ind c) k h]
theorem colH_take_le (xs : List Int) (c : Int) (k : Nat) (h : k ≤ xs.length) : 0 ≤ colH (xs.take k) c ∧ colH (xs.take k) c ≤ k := by
  have := colH_bound (xs.take k) c
  rw [List.length_take] at this
  omega

set_option maxHeartbeats 400000 in
theorem hasCells_b (A : Option Addr) (c : Nat) (xs : List Int) (w : World) (hl : xs.length ≤ 1048576) (hc : Cells w A xs) (b : Bool) (h : rcB xs = b) :
    Calls Try.prog 26 #[.slice A xs.length c] w fun e w' => e = .returned (.bool b) ∧ w = w' := by
  subst h
  cases hg : good xs
  · have hr : rcB xs = false := by simp [rcB, hg]
    rw [hr]
    have HG := hid hg; clear hg hr
    go_enter Try.func26, Try.ntmps26
    go_wp2_with (go_at_call 28; refine (IsPartition_b _ _ _ _ hl hc _ HG.out).mono ?_; rintro e w' ⟨rfl, rfl⟩)
    go_ret
    exact ⟨rfl, rfl⟩
  by_cases h0 : 0 < xs.length
  · have hr : rcB xs = true := by simp [rcB, hg, h0]
    rw [hr]
    have HG := hid hg; clear hg hr
    go_enter Try.func26, Try.ntmps26
    go_wp2_with (go_at_call 28; refine (IsPartition_b _ _ _ _ hl hc _ HG.out).mono ?_; rintro e w' ⟨rfl, rfl⟩)
    go_ret
    exact ⟨rfl, rfl⟩
  · have hr : rcB xs = false := by simp [rcB, h0]
    rw [hr]
    have HG := hid hg; clear hg hr
    go_enter Try.func26, Try.ntmps26
    go_wp2_with (go_at_call 28; refine (IsPartition_b _ _ _ _ hl hc _ HG.out).mono ?_; rintro e w' ⟨rfl, rfl⟩)
    go_ret
    exact ⟨rfl, rfl⟩

set_option maxHeartbeats 400000 in
theorem rankOf_any (A : Option Addr) (c : Nat) (xs : List Int) (w : World) (G : Good xs) (h0 : 0 < xs.length) (hc : Cells w A xs) :
    Calls Try.prog 21 #[.slice A xs.length c] w fun e w' => e = .returned (.int .i64 (rkV xs)) ∧ w = w' := by
  have hlen := G.len
  have hx0 := G.le 0 h0
  have hx1 := G.pos 0 h0
  obtain ⟨b, o, rfl, hcc⟩ := hc h0
  have hc0 := hcc 0 h0
  rw [Nat.add_zero] at hc0
  unfold rkV
  obtain ⟨x, hx⟩ : ∃ x, x = xs.getD 0 0 := ⟨_, rfl⟩
  rw [← hx] at hc0 hx0 hx1 ⊢
  clear hx hcc hc G
  go_enter Try.func21, Try.ntmps21
  go_wp2_with fail
  go_ret
  exact ⟨rfl, rfl⟩

set_option maxHeartbeats 400000 in
theorem crankOf_any (A : Option Addr) (c : Nat) (xs : List Int) (w : World) (G : Good xs) (h0 : 0 < xs.length) (hc : Cells w A xs) :
    Calls Try.prog 24 #[.slice A xs.length c] w fun e w' => e = .returned (.int .i64 (crV xs)) ∧ Below w.heap.size w w' := by
  have hlen := G.len
  have h1 := colH_bound xs 1
  have h2 := colH_bound xs (onesN xs)
  have HP := hid (fun wx (hb : Below w.heap.size w wx) (cc : Int) => partsAbove_any A c xs cc wx hlen (hc.later hb))
  have hnb : onesN xs = xs.length - colH xs 1 := rfl
  by_cases hz : onesN xs = 0
  · have e : crV xs = xs.getD 0 0 := by simp [crV, hz]
    rw [e]
    obtain ⟨b, o, rfl, hcc⟩ := hc h0
    have hc0 := hcc 0 h0
    rw [Nat.add_zero] at hc0
    obtain ⟨x, hx⟩ : ∃ x, x = xs.getD 0 0 := ⟨_, rfl⟩
    rw [← hx] at hc0 ⊢
    have HP1 := hid (HP.out w (Below.refl _ _) 1)
    obtain ⟨y, hy⟩ : ∃ y, y = colH xs 1 := ⟨_, rfl⟩
    rw [← hy] at h1 hnb HP1
    have hny : (xs.length : Int) - y = 0 := by omega
    clear hx hcc hc G hy e h2 hnb
    go_enter Try.func24, Try.ntmps24
    go_wp2_with fail
    go_at_call 39
    refine HP1.out.mono ?_
    rintro e w2 ⟨rfl, b2⟩
    have hc2 := (b2.cell (World.block_lt_of_cell? w _ hc0)).trans hc0
    go_wp2_with fail
    go_ret
    exact ⟨rfl, b2⟩
  · have e : crV xs = colH xs (onesN xs) - onesN xs := by simp [crV, hz]
    rw [e]
    have HP1 := hid (HP.out w (Below.refl _ _) 1)
    obtain ⟨y, hy⟩ : ∃ y, y = colH xs 1 := ⟨_, rfl⟩
    obtain ⟨n, hn⟩ : ∃ n, n = onesN xs := ⟨_, rfl⟩
    rw [← hy] at h1 hnb HP1
    rw [← hn] at h2 hnb hz ⊢
    have HP2 := hid (fun wx (hb : Below w.heap.size w wx) => HP.out wx hb n)
    obtain ⟨z, hz2⟩ : ∃ z, z = colH xs n := ⟨_, rfl⟩
    rw [← hz2] at h2 HP2 ⊢
    have hny : (xs.length : Int) - y = n := hnb.symm
    clear hc G hy e hnb hn hz2
    go_enter Try.func24, Try.ntmps24
    go_wp2_with fail
    go_at_call 39
    refine HP1.out.mono ?_
    rintro e w2 ⟨rfl, b2⟩
    have HP3 := hid (HP2.out w2 b2)
    go_wp2_with fail
    go_at_call 39
    refine HP3.out.mono ?_
    rintro e w3 ⟨rfl, b3⟩
    go_wp2_with fail
    go_ret
    exact ⟨rfl, Below.next b2 b3⟩

set_option maxHeartbeats 1000000 in
theorem rkCrank_any (A : Option Addr) (c : Nat) (xs : List Int) (w : World) (G : Good xs) (h0 : 0 < xs.length) (hc : Cells w A xs) :
    Calls Try.prog 25 #[.slice A xs.length c] w fun e w' => e = .returned (.int .i64 (crV xs)) ∧ w = w' := by
  have hlen := G.len
  have HG := hid G; clear G
  have h1 := colH_bound xs 1
  have h2 := colH_bound xs (onesN xs)
  have hnb : onesN xs = xs.length - colH xs 1 := rfl
  obtain ⟨n, hn⟩ : ∃ n, n = onesN xs := ⟨_, rfl⟩
  rw [← hn] at h2 hnb
  have HN := hid hn; clear hn
  obtain ⟨b, o, rfl, hcc⟩ := hc h0
  have HCC := hid hcc
  have HNB := hid hnb
  have HC2 := hid h2
  have hn0 : 0 ≤ n ∧ n ≤ 30 := by omega
  clear hcc hc h1 hnb h2
  go_enter Try.func25, Try.ntmps25
  go_wp2_with fail
  go_loop [3, 11] (fun s i => ∃ k : Nat, k ≤ xs.length ∧ i = .int .i64 k ∧ s = .int .i64 ((k : Int) - colH (xs.take k) 1)) (fun _ i => xs.length - (intOf i).toNat)
  case atStart => exact ⟨0, Nat.zero_le _, rfl, by simp [colH]⟩
  case round =>
    obtain ⟨k, hk, rfl, rfl⟩ := hrel
    have hkb := colH_take_le xs 1 k hk
    by_cases hlt : k < xs.length
    · have hck := HCC.out k hlt
      have hxp := HG.out.pos k hlt
      have hxl := HG.out.le k hlt
      have hs := colH_take_succ xs 1 k hlt
      obtain ⟨x, hx⟩ : ∃ x, x = xs.getD k 0 := ⟨_, rfl⟩
      rw [← hx] at hck hxp hxl hs
      obtain ⟨y, hy⟩ : ∃ y, y = colH (xs.take k) 1 := ⟨_, rfl⟩
      rw [← hy] at hkb hs ⊢
      have HS := hid hs
      clear hx hy hs
      by_cases h1 : x = 1
      · go_wp2_with fail
        go_round
        case rel => exact ⟨k + 1, by omega, by go_num, by rw [HS.out]; congr 1; simp [ind, h1]; omega⟩
        case measure => simp [intOf]; omega
      · have h1l : 1 < x := by omega
        go_wp2_with fail
        go_round
        case rel => exact ⟨k + 1, by omega, by go_num, by rw [HS.out]; congr 1; simp [ind, h1l]; omega⟩
        case measure => simp [intOf]; omega
    · have hke : k = xs.length := by omega
      subst hke
      rw [List.take_of_length_le (Nat.le_refl _), ← HNB.out]
      clear hkb
      by_cases hz : n = 0
      · have hc0 := HCC.out 0 h0
        rw [Nat.add_zero] at hc0
        have hr : crV xs = xs.getD 0 0 := by unfold crV; rw [← HN.out, if_pos hz]
        obtain ⟨x, hx⟩ : ∃ x, x = xs.getD 0 0 := ⟨_, rfl⟩
        rw [← hx] at hc0 hr
        have HR := hid hr
        clear hr hx
        go_wp2_with fail
        go_ret
        exact ⟨ret_int HR.out.symm, rfl⟩
      · have hr : crV xs = colH xs n - n := by unfold crV; rw [← HN.out, if_neg hz]
        have HR := hid hr
        clear hr
        go_wp2_with fail
        go_loop [6, 27] (fun s i => ∃ k : Nat, k ≤ xs.length ∧ i = .int .i64 k ∧ s = .int .i64 (colH (xs.take k) n)) (fun _ i => xs.length - (intOf i).toNat)
        case atStart => exact ⟨0, Nat.zero_le _, rfl, by simp [colH]⟩
        case round =>
          obtain ⟨k, hk, rfl, rfl⟩ := hrel
          have hkb := colH_take_le xs n k hk
          by_cases hlt : k < xs.length
          · have hck := HCC.out k hlt
            have hs := colH_take_succ xs n k hlt
            obtain ⟨x, hx⟩ : ∃ x, x = xs.getD k 0 := ⟨_, rfl⟩
            rw [← hx] at hck hs
            obtain ⟨y, hy⟩ : ∃ y, y = colH (xs.take k) n := ⟨_, rfl⟩
            rw [← hy] at hkb hs ⊢
            have HS := hid hs
            clear hx hy hs
            by_cases h1 : n < x
            · go_wp2_with fail
              go_round
              case rel => exact ⟨k + 1, by omega, by go_num, by rw [HS.out]; congr 1; simp [ind, h1]⟩
              case measure => simp [intOf]; omega
            · go_wp2_with fail
              go_round
              case rel => exact ⟨k + 1, by omega, by go_num, by rw [HS.out]; congr 1; simp [ind, h1]⟩
              case measure => simp [intOf]; omega
          · rw [List.take_of_length_le (by omega)] at hkb ⊢
            obtain ⟨y, hy⟩ : ∃ y, y = colH xs n := ⟨_, rfl⟩
            rw [← hy] at hkb ⊢
            have HE := hid (show y - n = crV xs by rw [hy, HR.out])
            clear hy
            go_wp2_with fail
            go_ret
            exact ⟨ret_int HE.out, rfl⟩

set_option maxHeartbeats 400000 in
theorem impl_RankOf (A : Option Addr) (c : Nat) (xs : List Int) (w : World) (hl : xs.length ≤ 1048576) (hc : Cells w A xs) :
    Calls Try.prog 9 #[.slice A xs.length c] w fun e w' => e = .returned (.tuple #[.int .i64 (rkF xs), .bool (rcB xs)]) ∧ Below w.heap.size w w' := by
  cases h : rcB xs
  · rw [rkF_f h]
    have H := hid h; clear h
    go_enter Try.func9, Try.ntmps9
    go_wp2_with (go_at_call 26; refine (hasCells_b _ _ _ _ hl hc _ H.out).mono ?_; rintro e w' ⟨rfl, rfl⟩)
    go_ret2
    exact ⟨rfl, Below.refl _ _⟩
  rw [rkF_t h]
  have hh := rcB_iff.1 h
  have G := (good_iff xs).1 hh.1
  have HC := hid (rankOf_any A c xs w G hh.2 hc)
  have H := hid h; clear h hh G
  obtain ⟨V, hV⟩ : ∃ V, V = rkV xs := ⟨_, rfl⟩
  rw [← hV] at HC ⊢
  clear hV
  go_enter Try.func9, Try.ntmps9
  go_wp2_with (first | (go_at_call 26; refine (hasCells_b _ _ _ _ hl hc _ H.out).mono ?_; rintro e w' ⟨rfl, rfl⟩) | (go_at_call 21; refine HC.out.mono ?_; rintro e w2 ⟨rfl, rfl⟩))
  go_ret2
  exact ⟨rfl, Below.refl _ _⟩

set_option maxHeartbeats 400000 in
theorem spec_RankOf (A : Option Addr) (c : Nat) (xs : List Int) (w : World) (hl : xs.length ≤ 1048576) (hc : Cells w A xs) :
    Calls Try.prog 10 #[.slice A xs.length c] w fun e w' => e = .returned (.tuple #[.int .i64 (rkF xs), .bool (rcB xs)]) ∧ Below w.heap.size w w' := by
  cases hg : good xs
  · have h : rcB xs = false := by simp [rcB, hg]
    rw [rkF_f h, h]
    have HG := hid hg; clear hg h
    go_enter Try.func10, Try.ntmps10
    go_wp2_with (go_at_call 27; refine (ptGood_b _ _ _ _ hl hc _ HG.out).mono ?_; rintro e w' ⟨rfl, n, rfl⟩)
    go_ret2
    exact ⟨rfl, below_drew' _ _⟩
  by_cases h0 : 0 < xs.length
  · have h : rcB xs = true := rcB_iff.2 ⟨hg, h0⟩
    rw [rkF_t h, h]
    have G := (good_iff xs).1 hg
    have hlen := G.len
    have hx0 := G.le 0 h0
    have hx1 := G.pos 0 h0
    obtain ⟨b, o, rfl, hcc⟩ := hc h0
    have hc0 := hcc 0 h0
    rw [Nat.add_zero] at hc0
    unfold rkV
    obtain ⟨x, hx⟩ : ∃ x, x = xs.getD 0 0 := ⟨_, rfl⟩
    rw [← hx] at hc0 hx0 hx1 ⊢
    have HG := hid hg; clear hg h hx hcc G
    go_enter Try.func10, Try.ntmps10
    go_wp2_with (go_at_call 27; refine (ptGood_b _ _ _ _ hl hc _ HG.out).mono ?_; rintro e w' ⟨rfl, n, rfl⟩)
    go_ret2
    exact ⟨rfl, below_drew' _ _⟩
  · have h : rcB xs = false := by simp [rcB, h0]
    obtain rfl : xs = [] := List.eq_nil_of_length_eq_zero (by omega)
    rw [rkF_f h, h]
    have hq := fun wx => ptGood_b A [] c wx hl (Cells.nil wx A) _ hg
    have HQ := hid hq
    clear hq
    have HG := hid hg; clear hg h
    go_enter Try.func10, Try.ntmps10
    go_wp2_with (go_at_call 27; refine (HQ.out _).mono ?_; rintro e w' ⟨rfl, n, rfl⟩)
    go_ret2
    exact ⟨rfl, below_drew' _ _⟩

set_option maxHeartbeats 400000 in
theorem impl_CrankOf (A : Option Addr) (c : Nat) (xs : List Int) (w : World) (hl : xs.length ≤ 1048576) (hc : Cells w A xs) :
    Calls Try.prog 11 #[.slice A xs.length c] w fun e w' => e = .returned (.tuple #[.int .i64 (crF xs), .bool (rcB xs)]) ∧ Below w.heap.size w w' := by
  cases h : rcB xs
  · rw [crF_f h]
    have H := hid h; clear h
    go_enter Try.func11, Try.ntmps11
    go_wp2_with (go_at_call 26; refine (hasCells_b _ _ _ _ hl hc _ H.out).mono ?_; rintro e w' ⟨rfl, rfl⟩)
    go_ret2
    exact ⟨rfl, Below.refl _ _⟩
  rw [crF_t h]
  have hh := rcB_iff.1 h
  have G := (good_iff xs).1 hh.1
  have HC := hid (crankOf_any A c xs w G hh.2 hc)
  have H := hid h; clear h hh G
  obtain ⟨V, hV⟩ : ∃ V, V = crV xs := ⟨_, rfl⟩
  rw [← hV] at HC ⊢
  clear hV
  go_enter Try.func11, Try.ntmps11
  go_wp2_with (first | (go_at_call 26; refine (hasCells_b _ _ _ _ hl hc _ H.out).mono ?_; rintro e w' ⟨rfl, rfl⟩) | (go_at_call 24; refine HC.out.mono ?_; rintro e w2 ⟨rfl, b2⟩))
  go_ret2
  exact ⟨rfl, b2⟩

set_option maxHeartbeats 400000 in
theorem spec_CrankOf (A : Option Addr) (c : Nat) (xs : List Int) (w : World) (hl : xs.length ≤ 1048576) (hc : Cells w A xs) :
    Calls Try.prog 12 #[.slice A xs.length c] w fun e w' => e = .returned (.tuple #[.int .i64 (crF xs), .bool (rcB xs)]) ∧ Below w.heap.size w w' := by
  cases hg : good xs
  · have h : rcB xs = false := by simp [rcB, hg]
    rw [crF_f h, h]
    have HG := hid hg; clear hg h
    go_enter Try.func12, Try.ntmps12
    go_wp2_with (go_at_call 27; refine (ptGood_b _ _ _ _ hl hc _ HG.out).mono ?_; rintro e w' ⟨rfl, n, rfl⟩)
    go_ret2
    exact ⟨rfl, below_drew' _ _⟩
  by_cases h0 : 0 < xs.length
  · have h : rcB xs = true := rcB_iff.2 ⟨hg, h0⟩
    rw [crF_t h, h]
    have G := (good_iff xs).1 hg
    have HC := hid (fun wx (h : Cells wx A xs) => rkCrank_any A c xs wx G h0 h)
    obtain ⟨V, hV⟩ : ∃ V, V = crV xs := ⟨_, rfl⟩
    rw [← hV] at HC ⊢
    have HG := hid hg; clear hg h hV G
    go_enter Try.func12, Try.ntmps12
    go_wp2_with (first | (go_at_call 27; refine (ptGood_b _ _ _ _ hl hc _ HG.out).mono ?_; rintro e w' ⟨rfl, n, rfl⟩) | (go_at_call 25; refine (HC.out _ (by exact hc)).mono ?_; rintro e w' ⟨rfl, rfl⟩))
    go_ret2
    exact ⟨rfl, below_drew' _ _⟩
  · have h : rcB xs = false := by simp [rcB, h0]
    obtain rfl : xs = [] := List.eq_nil_of_length_eq_zero (by omega)
    rw [crF_f h, h]
    have hq := fun wx => ptGood_b A [] c wx hl (Cells.nil wx A) _ hg
    have HQ := hid hq
    clear hq
    have HG := hid hg; clear hg h
    go_enter Try.func12, Try.ntmps12
    go_wp2_with (go_at_call 27; refine (HQ.out _).mono ?_; rintro e w' ⟨rfl, n, rfl⟩)
    go_ret2
    exact ⟨rfl, below_drew' _ _⟩
end Go.Proofs.Ytmiifdedmjfgkaa
/-
  Plain facts: the numbers of partitions up to 200, and the recurrence. No program in this text.
-/
namespace Go.Proofs.Ytmiifdedmjfgkaa

def pnT : List Int := [
  1, 1, 2, 3, 5, 7, 11, 15,
  22, 30, 42, 56, 77, 101, 135, 176,
  231, 297, 385, 490, 627, 792, 1002, 1255,
  1575, 1958, 2436, 3010, 3718, 4565, 5604, 6842,
  8349, 10143, 12310, 14883, 17977, 21637, 26015, 31185,
  37338, 44583, 53174, 63261, 75175, 89134, 105558, 124754,
  147273, 173525, 204226, 239943, 281589, 329931, 386155, 451276,
  526823, 614154, 715220, 831820, 966467, 1121505, 1300156, 1505499,
  1741630, 2012558, 2323520, 2679689, 3087735, 3554345, 4087968, 4697205,
  5392783, 6185689, 7089500, 8118264, 9289091, 10619863, 12132164, 13848650,
  15796476, 18004327, 20506255, 23338469, 26543660, 30167357, 34262962, 38887673,
  44108109, 49995925, 56634173, 64112359, 72533807, 82010177, 92669720, 104651419,
  118114304, 133230930, 150198136, 169229875, 190569292, 214481126, 241265379, 271248950,
  304801365, 342325709, 384276336, 431149389, 483502844, 541946240, 607163746, 679903203,
  761002156, 851376628, 952050665, 1064144451, 1188908248, 1327710076, 1482074143, 1653668665,
  1844349560, 2056148051, 2291320912, 2552338241, 2841940500, 3163127352, 3519222692, 3913864295,
  4351078600, 4835271870, 5371315400, 5964539504, 6620830889, 7346629512, 8149040695, 9035836076,
  10015581680, 11097645016, 12292341831, 13610949895, 15065878135, 16670689208, 18440293320, 20390982757,
  22540654445, 24908858009, 27517052599, 30388671978, 33549419497, 37027355200, 40853235313, 45060624582,
  49686288421, 54770336324, 60356673280, 66493182097, 73232243759, 80630964769, 88751778802, 97662728555,
  107438159466, 118159068427, 129913904637, 142798995930, 156919475295, 172389800255, 189334822579, 207890420102,
  228204732751, 250438925115, 274768617130, 301384802048, 330495499613, 362326859895, 397125074750, 435157697830,
  476715857290, 522115831195, 571701605655, 625846753120, 684957390936, 749474411781, 819876908323, 896684817527,
  980462880430, 1071823774337, 1171432692373, 1280011042268, 1398341745571, 1527273599625, 1667727404093, 1820701100652,
  1987276856363, 2168627105469, 2366022741845, 2580840212973, 2814570987591, 3068829878530, 3345365983698, 3646072432125,
  3972999029388]
theorem pnT_len : pnT.length = 201 := by decide +kernel
theorem pnT_bd : ∀ k, k < 201 → 0 ≤ pnT.getD k 0 ∧ pnT.getD k 0 ≤ 5000000000000 := by decide +kernel
/-- The pentagonal number of k, and that of -k. -/
def qA (k : Nat) : Nat := k * (3 * k - 1) / 2
def qB (k : Nat) : Nat := k * (3 * k + 1) / 2
def pq (n q : Nat) : Int := if q ≤ n then pnT.getD (n - q) 0 else 0
def sg1 (k : Nat) : Int := if k % 2 = 0 then 1 else -1
def nxS (n : Nat) : Nat → Int
  | 0 => 0
  | k + 1 => nxS n k - sg1 (k + 1) * (pq n (qA (k + 1)) + pq n (qB (k + 1)))
theorem nxS_succ (n k : Nat) : nxS n (k + 1) = nxS n k - sg1 (k + 1) * (pq n (qA (k + 1)) + pq n (qB (k + 1))) := rfl
theorem nxS_bd : ∀ n, n < 201 → ∀ k, k < 13 → -100000000000000 ≤ nxS n k ∧ nxS n k ≤ 100000000000000 := by decide +kernel
theorem nxS_end : ∀ n, n < 201 → ∀ k, k < 12 → 1 ≤ n ∧ n < qA (k + 1) → nxS n k = pnT.getD n 0 := by decide +kernel
theorem q_bd : ∀ k, k < 13 → qA k ≤ 300 ∧ qB k ≤ 300 ∧ qA k ≤ qB k ∧ (11 < k → 200 < qA k) ∧ (1 ≤ k → 1 ≤ qA k) := by decide +kernel
theorem pq_bd {n : Nat} (q : Nat) (h : n < 201) : 0 ≤ pq n q ∧ pq n q ≤ 5000000000000 := by
  unfold pq
  split
  · exact pnT_bd (n - q) (by omega)
  · omega
theorem sg1_or (k : Nat) : sg1 k = 1 ∨ sg1 k = -1 := by unfold sg1; split <;> simp
end Go.Proofs.Ytmiifdedmjfgkaa
