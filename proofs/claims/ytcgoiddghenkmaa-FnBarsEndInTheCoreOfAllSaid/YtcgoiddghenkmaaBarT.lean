/-
  Contracts: the model's bars.
-/
import Derived.Test.YtcgoiddghenkmaaBarS
import Derived.Test.YtcgoiddghenkmaaMaya
namespace Go.Proofs.Ytcgoiddghenkmaa
open Go.RowKit

set_option maxRecDepth 100000 in
set_option maxHeartbeats 4000000 in
theorem brBars_any (A : Option Addr) (c : Nat) (xs : List Int) (t : Int) (w : World) (hs : strB xs = true) (ht : 0 ≤ t ∧ t ≤ 1000) (hlc : xs.length ≤ c) (hc : Cells w A xs) :
    Calls Try.prog 25 #[.slice A xs.length c, .int .i64 t] w fun e w' => ∃ A' c', e = .returned (.slice A' (brs xs t xs.length).length c') ∧ Own2 w' w.heap.size w'.heap.size A' c' (brs xs t xs.length) ∧ Below w.heap.size w w' := by
  obtain ⟨i1, hj, hy0, hy1, hy2⟩ := info_parts Try.infoInts
  obtain ⟨i0, hi, hz0, hz1, hz2⟩ := info_parts Try.infoInt
  have HS := hid hs; clear hs
  have HG := hid (strB_good HS.out)
  have hlen := HG.out.len
  have HC := hid hc; clear hc
  go_enter Try.func25, Try.ntmps25
  go_wp2_with fail
  go_loopw [5, 12] (fun v i wr => ∃ n : Nat, n ≤ xs.length ∧ i = .int .i64 n ∧ (∃ P C, Push wr w.heap.size v (brs xs t n) P C) ∧ Below w.heap.size w wr) (fun _ i _ => xs.length - (intOf i).toNat)
  case atStart => exact ⟨0, Nat.zero_le _, rfl, ⟨_, _, push_nil _ _⟩, Below.refl _ _⟩
  case round =>
    obtain ⟨n, hn, rfl, ⟨P0, C0, hpush⟩, hbel⟩ := hrel
    have HP0 := hid hpush; clear hpush
    by_cases hlt : n < xs.length
    · have hcw := HC.out.later hbel
      obtain ⟨b, o, e, hcc⟩ := hcw (by omega)
      have hck := hcc n hlt
      have hx1 := HG.out.pos n hlt
      have hx2 := HG.out.le n hlt
      have hlds : (xs.drop (n + 1)).length = xs.length - (n + 1) := List.length_drop
      have hcl := candA_len xs n hlt
      have HYES := hid fun j => brK_yes (xs := xs) (t := t) (i := n) (c := j)
      have HNO := hid fun j => brK_no (xs := xs) (t := t) (i := n) (c := j)
      have HLEN := hid fun j => brK_len xs t hlen n j hlt
      have HFULL := hid (brK_full xs t n)
      have HZERO := hid (brK_zero xs t n)
      have HGET := hid (cand_get (xs.getD n 0) (xs.drop (n + 1)))
      have HG0 := hid (cand_zero (xs.getD n 0) (xs.drop (n + 1)))
      rw [show cand (xs.getD n 0) (xs.drop (n + 1)) = candA xs n from rfl] at HGET HG0
      have HYB := hid (show ∀ j, j < (xs.drop (n + 1)).length → 1 ≤ (xs.drop (n + 1)).getD j 0 ∧ (xs.drop (n + 1)).getD j 0 ≤ 30 from fun j hj => by
        rw [hlds] at hj
        rw [List.getD_eq_getElem?_getD, List.getElem?_drop, ← List.getD_eq_getElem?_getD]
        exact ⟨HG.out.pos (n + 1 + j) (by omega), HG.out.le (n + 1 + j) (by omega)⟩)
      obtain ⟨M, hM⟩ : ∃ M, M = candA xs n := ⟨_, rfl⟩
      rw [← hM] at hcl HYES HNO HFULL HGET HG0
      obtain ⟨S, hS⟩ : ∃ S, S = brK xs t n := ⟨_, rfl⟩
      rw [← hS] at HYES HNO HFULL HZERO HLEN
      have HCD := hid fun W (h : Below w.heap.size w W) => (HC.out.later h).cut c (n + 1) hlc
      have hcut := fun W => runI_cut_lo1 A xs.length c n (by omega) W
      have HHAS := hid fun W z (h : Below w.heap.size w W) (bb : Bool) (hb : decide (z ∈ xs) = bb) => l1Has_b A xs c z W (by omega) (HC.out.later h) bb hb
      obtain ⟨D, hD⟩ : ∃ D, D = cutI A c (n + 1) := ⟨_, rfl⟩
      rw [← hD] at HCD hcut
      obtain ⟨ys, hys⟩ : ∃ ys, ys = xs.drop (n + 1) := ⟨_, rfl⟩
      rw [← hys] at HCD hlds HGET HYB
      obtain ⟨x, hx⟩ : ∃ x, x = xs.getD n 0 := ⟨_, rfl⟩
      rw [← hx] at hck HGET HG0 hx1 hx2
      obtain ⟨m, hm⟩ : ∃ m, m = xs.length - (n + 1) := ⟨_, rfl⟩
      rw [← hm] at hlds hcut
      have hm30 : m ≤ 30 := by omega
      have HM := hid hlds
      have HML := hid (show M.length = m + 1 by omega)
      have HYS := hid hys
      subst e
      clear hcc hlds hM hS hx hcl hcw hD hys hm
      have hL8 := HLEN.out 0
      have HY := hid (HYES.out 0 (by have := HML.out; omega))
      have HN := hid (HNO.out 0 (by have := HML.out; omega))
      rw [HG0.out, isB_one] at HY HN
      rw [HZERO.out] at HY HN hL8
      obtain ⟨L0, hL0⟩ : ∃ L0, L0 = brs xs t n := ⟨_, rfl⟩
      rw [← hL0] at HY HN HP0 hL8
      clear hL0
      by_cases h1 : x = t
      · have HE := hid (HY.out (by rw [decide_eq_true h1]; rfl))
        subst h1
        clear HY HN
        have o2 : Own (wr.alloc (.cells #[.int .i64 x] 3)) wr.heap.size (some ⟨wr.heap.size, 0, none⟩) 1 [x] :=
          World.ownsRow_lit (base := wr.heap.size) (e := 3) (size := 1) wr #[.int .i64 x] 1 (Nat.le_refl _) (by unfold maxLen; omega) rfl
        have hbi : Below wr.heap.size wr (wr.alloc (.cells #[.int .i64 x] 3)) := (Below.refl _ _).alloc (Nat.le_refl _) _
        obtain ⟨wa, hwa⟩ : ∃ wa, wa = wr.alloc (.cells #[.int .i64 x] 3) := ⟨_, rfl⟩
        rw [← hwa] at o2 hbi
        have HO2 := hid o2
        have HBI := hid hbi
        have hza : wa.heap.size = wr.heap.size + 1 := by rw [hwa]; simp
        have HZA := hid hza
        have HWA := hid hwa
        have hsz := hbel.size
        clear o2 hbi hza hwa
        go_wp2_with (at_builtin; rw [← HWA.out]; refine wpList_append_own _ rfl _ _ 27 rfl w.heap.size 22 i1 (.slice none 0 0) 1 24 Try.underlying27 hj hy0 hy1 hy2 rfl (by decide) _ _ _ rfl ((HP0.out.below HBI.out).out.alloc _) ⟨wr.heap.size + 1, 0, none⟩ 1 1 [.slice (some ⟨wr.heap.size, 0, none⟩) 1 1] rfl rfl (by rw [← HZA.out]; exact one_at) (one_cellS _ _ _) (by unfold maxLen; omega) (by omega) (by have := HZA.out; simp; omega) ?_)
        intro v' w1 hown' hgrow _
        have hb1 : Below w.heap.size w w1 := ((hbel).trans (HBI.out.mono hsz)).alloc (by have := HZA.out; omega) _ |>.grown hgrow (by have := HZA.out; simp; omega) (fun q hq => (HP0.out.out.lt q hq).1)
        have hp2 := HP0.out.push HBI.out HO2.out hsz hown' hgrow
        rw [← HE.out] at hp2
        have HP2 := hid hp2
        clear hown' hgrow hp2
        go_wp2_with fail
        go_loopw [5, 43] (fun v i wr => ∃ j : Nat, j ≤ m ∧ i = .int .i64 j ∧ (∃ P C, Push wr w.heap.size v (S (j + 1)) P C) ∧ Below w.heap.size w wr) (fun _ i _ => m - (intOf i).toNat)
        case atStart => exact ⟨0, Nat.zero_le _, rfl, ⟨_, _, HP2.out⟩, hb1⟩
        case round =>
          obtain ⟨j, hjm, rfl, ⟨P, C, hpush⟩, hbel⟩ := hrel
          have HP := hid hpush; clear hpush
          by_cases hjl : j < m
          · have HY := hid (HYES.out (j + 1) (by have := HML.out; omega))
            have HN := hid (HNO.out (j + 1) (by have := HML.out; omega))
            have hget := HGET.out j (by have := HM.out; omega)
            have hL9 := HLEN.out (j + 1)
            obtain ⟨b', o', rfl, hcc⟩ := (HCD.out wr hbel) (by have := HM.out; omega)
            have hck := hcc j (by have := HM.out; omega)
            rw [hget] at HY HN
            have hyb := HYB.out j (by have := HM.out; omega)
            obtain ⟨y, hy⟩ : ∃ y, y = ys.getD j 0 := ⟨_, rfl⟩
            rw [← hy] at hck HY HN hyb
            obtain ⟨L, hLL⟩ : ∃ L, L = S (j + 1) := ⟨_, rfl⟩
            rw [← hLL] at HP HY HN hL9
            clear hcc hy hget hLL
            rw [isB_two] at HY HN
            by_cases hxy : x + y = x
            · exact absurd hxy (by omega)
            · have HE := hid (HN.out (decide_eq_false hxy))
              clear HY HN
              go_wp2_with fail
              go_roundw
              case rel => exact ⟨j + 1, by omega, by go_num, ⟨_, _, by rw [HE.out]; exact HP.out⟩, hbel⟩
              case measure => simp [intOf]; omega
          · have hje : S (j + 1) = brs xs x (n + 1) := by rw [← HFULL.out]; congr 1; have := HML.out; omega
            have HJE := hid hje
            clear hje
            go_wp2_with fail
            go_roundw
            case rel => exact ⟨n + 1, by omega, by go_num, ⟨_, _, by rw [← HJE.out]; exact HP.out⟩, hbel⟩
            case measure => simp [intOf]; omega
      · by_cases h2 : t < x
        · by_cases h3 : x - t ∈ xs
          · have HE := hid (HN.out (by rw [decide_eq_false h1, decide_eq_true h2, decide_eq_false (by simpa using h3)]; rfl))
            have HH3 := hid (HHAS.out wr (x - t) hbel true (decide_eq_true h3))
            clear HY HN h3
            go_wp2_with (go_at_call 40; refine HH3.out.mono ?_; rintro e w' ⟨rfl, rfl⟩)
            go_loopw [5, 43] (fun v i wr => ∃ j : Nat, j ≤ m ∧ i = .int .i64 j ∧ (∃ P C, Push wr w.heap.size v (S (j + 1)) P C) ∧ Below w.heap.size w wr) (fun _ i _ => m - (intOf i).toNat)
            case atStart => exact ⟨0, Nat.zero_le _, rfl, ⟨_, _, by rw [HE.out]; exact HP0.out⟩, hbel⟩
            case round =>
              obtain ⟨j, hjm, rfl, ⟨P, C, hpush⟩, hbel⟩ := hrel
              have HP := hid hpush; clear hpush
              by_cases hjl : j < m
              · have HY := hid (HYES.out (j + 1) (by have := HML.out; omega))
                have HN := hid (HNO.out (j + 1) (by have := HML.out; omega))
                have hget := HGET.out j (by have := HM.out; omega)
                have hL9 := HLEN.out (j + 1)
                obtain ⟨b', o', rfl, hcc⟩ := (HCD.out wr hbel) (by have := HM.out; omega)
                have hck := hcc j (by have := HM.out; omega)
                rw [hget] at HY HN
                have hyb := HYB.out j (by have := HM.out; omega)
                obtain ⟨y, hy⟩ : ∃ y, y = ys.getD j 0 := ⟨_, rfl⟩
                rw [← hy] at hck HY HN hyb
                obtain ⟨L, hLL⟩ : ∃ L, L = S (j + 1) := ⟨_, rfl⟩
                rw [← hLL] at HP HY HN hL9
                clear hcc hy hget hLL
                rw [isB_two] at HY HN
                by_cases hxy : x + y = t
                · exact absurd hxy (by omega)
                · have HE := hid (HN.out (decide_eq_false hxy))
                  clear HY HN
                  go_wp2_with fail
                  go_roundw
                  case rel => exact ⟨j + 1, by omega, by go_num, ⟨_, _, by rw [HE.out]; exact HP.out⟩, hbel⟩
                  case measure => simp [intOf]; omega
              · have hje : S (j + 1) = brs xs t (n + 1) := by rw [← HFULL.out]; congr 1; have := HML.out; omega
                have HJE := hid hje
                clear hje
                go_wp2_with fail
                go_roundw
                case rel => exact ⟨n + 1, by omega, by go_num, ⟨_, _, by rw [← HJE.out]; exact HP.out⟩, hbel⟩
                case measure => simp [intOf]; omega
          · have HE := hid (HY.out (by rw [decide_eq_false h1, decide_eq_true h2, decide_eq_true h3]; rfl))
            have HH3 := hid (HHAS.out wr (x - t) hbel false (decide_eq_false h3))
            clear HY HN h3
            have o2 : Own (wr.alloc (.cells #[.int .i64 x] 3)) wr.heap.size (some ⟨wr.heap.size, 0, none⟩) 1 [x] :=
              World.ownsRow_lit (base := wr.heap.size) (e := 3) (size := 1) wr #[.int .i64 x] 1 (Nat.le_refl _) (by unfold maxLen; omega) rfl
            have hbi : Below wr.heap.size wr (wr.alloc (.cells #[.int .i64 x] 3)) := (Below.refl _ _).alloc (Nat.le_refl _) _
            obtain ⟨wa, hwa⟩ : ∃ wa, wa = wr.alloc (.cells #[.int .i64 x] 3) := ⟨_, rfl⟩
            rw [← hwa] at o2 hbi
            have HO2 := hid o2
            have HBI := hid hbi
            have hza : wa.heap.size = wr.heap.size + 1 := by rw [hwa]; simp
            have HZA := hid hza
            have HWA := hid hwa
            have hsz := hbel.size
            clear o2 hbi hza hwa
            go_wp2_with (first | (go_at_call 40; refine HH3.out.mono ?_; rintro e w' ⟨rfl, rfl⟩) | (at_builtin; rw [← HWA.out]; refine wpList_append_own _ rfl _ _ 27 rfl w.heap.size 22 i1 (.slice none 0 0) 1 24 Try.underlying27 hj hy0 hy1 hy2 rfl (by decide) _ _ _ rfl ((HP0.out.below HBI.out).out.alloc _) ⟨wr.heap.size + 1, 0, none⟩ 1 1 [.slice (some ⟨wr.heap.size, 0, none⟩) 1 1] rfl rfl (by rw [← HZA.out]; exact one_at) (one_cellS _ _ _) (by unfold maxLen; omega) (by omega) (by have := HZA.out; simp; omega) ?_))
            intro v' w1 hown' hgrow _
            have hb1 : Below w.heap.size w w1 := ((hbel).trans (HBI.out.mono hsz)).alloc (by have := HZA.out; omega) _ |>.grown hgrow (by have := HZA.out; simp; omega) (fun q hq => (HP0.out.out.lt q hq).1)
            have hp2 := HP0.out.push HBI.out HO2.out hsz hown' hgrow
            rw [← HE.out] at hp2
            have HP2 := hid hp2
            clear hown' hgrow hp2
            go_wp2_with fail
            go_loopw [5, 43] (fun v i wr => ∃ j : Nat, j ≤ m ∧ i = .int .i64 j ∧ (∃ P C, Push wr w.heap.size v (S (j + 1)) P C) ∧ Below w.heap.size w wr) (fun _ i _ => m - (intOf i).toNat)
            case atStart => exact ⟨0, Nat.zero_le _, rfl, ⟨_, _, HP2.out⟩, hb1⟩
            case round =>
              obtain ⟨j, hjm, rfl, ⟨P, C, hpush⟩, hbel⟩ := hrel
              have HP := hid hpush; clear hpush
              by_cases hjl : j < m
              · have HY := hid (HYES.out (j + 1) (by have := HML.out; omega))
                have HN := hid (HNO.out (j + 1) (by have := HML.out; omega))
                have hget := HGET.out j (by have := HM.out; omega)
                have hL9 := HLEN.out (j + 1)
                obtain ⟨b', o', rfl, hcc⟩ := (HCD.out wr hbel) (by have := HM.out; omega)
                have hck := hcc j (by have := HM.out; omega)
                rw [hget] at HY HN
                have hyb := HYB.out j (by have := HM.out; omega)
                obtain ⟨y, hy⟩ : ∃ y, y = ys.getD j 0 := ⟨_, rfl⟩
                rw [← hy] at hck HY HN hyb
                obtain ⟨L, hLL⟩ : ∃ L, L = S (j + 1) := ⟨_, rfl⟩
                rw [← hLL] at HP HY HN hL9
                clear hcc hy hget hLL
                rw [isB_two] at HY HN
                by_cases hxy : x + y = t
                · exact absurd hxy (by omega)
                · have HE := hid (HN.out (decide_eq_false hxy))
                  clear HY HN
                  go_wp2_with fail
                  go_roundw
                  case rel => exact ⟨j + 1, by omega, by go_num, ⟨_, _, by rw [HE.out]; exact HP.out⟩, hbel⟩
                  case measure => simp [intOf]; omega
              · have hje : S (j + 1) = brs xs t (n + 1) := by rw [← HFULL.out]; congr 1; have := HML.out; omega
                have HJE := hid hje
                clear hje
                go_wp2_with fail
                go_roundw
                case rel => exact ⟨n + 1, by omega, by go_num, ⟨_, _, by rw [← HJE.out]; exact HP.out⟩, hbel⟩
                case measure => simp [intOf]; omega
        · have HE := hid (HN.out (by rw [decide_eq_false h1, decide_eq_false h2]; rfl))
          clear HY HN
          go_wp2_with fail
          go_loopw [5, 43] (fun v i wr => ∃ j : Nat, j ≤ m ∧ i = .int .i64 j ∧ (∃ P C, Push wr w.heap.size v (S (j + 1)) P C) ∧ Below w.heap.size w wr) (fun _ i _ => m - (intOf i).toNat)
          case atStart => exact ⟨0, Nat.zero_le _, rfl, ⟨_, _, by rw [HE.out]; exact HP0.out⟩, hbel⟩
          case round =>
            obtain ⟨j, hjm, rfl, ⟨P, C, hpush⟩, hbel⟩ := hrel
            have HP := hid hpush; clear hpush
            by_cases hjl : j < m
            · have HY := hid (HYES.out (j + 1) (by have := HML.out; omega))
              have HN := hid (HNO.out (j + 1) (by have := HML.out; omega))
              have hget := HGET.out j (by have := HM.out; omega)
              have hL9 := HLEN.out (j + 1)
              obtain ⟨b', o', rfl, hcc⟩ := (HCD.out wr hbel) (by have := HM.out; omega)
              have hck := hcc j (by have := HM.out; omega)
              rw [hget] at HY HN
              have hyb := HYB.out j (by have := HM.out; omega)
              obtain ⟨y, hy⟩ : ∃ y, y = ys.getD j 0 := ⟨_, rfl⟩
              rw [← hy] at hck HY HN hyb
              obtain ⟨L, hLL⟩ : ∃ L, L = S (j + 1) := ⟨_, rfl⟩
              rw [← hLL] at HP HY HN hL9
              clear hcc hy hget hLL
              rw [isB_two] at HY HN
              by_cases hxy : x + y = t
              · have HE := hid (HY.out (decide_eq_true hxy))
                clear HY HN
                have o2 : Own (wr.alloc (.cells #[.int .i64 x, .int .i64 y] 3)) wr.heap.size (some ⟨wr.heap.size, 0, none⟩) 2 [x, y] :=
                  World.ownsRow_lit (base := wr.heap.size) (e := 3) (size := 1) wr #[.int .i64 x, .int .i64 y] 2 (Nat.le_refl _) (by unfold maxLen; omega) rfl
                have hbi : Below wr.heap.size wr (wr.alloc (.cells #[.int .i64 x, .int .i64 y] 3)) := (Below.refl _ _).alloc (Nat.le_refl _) _
                obtain ⟨wa, hwa⟩ : ∃ wa, wa = wr.alloc (.cells #[.int .i64 x, .int .i64 y] 3) := ⟨_, rfl⟩
                rw [← hwa] at o2 hbi
                have HO2 := hid o2
                have HBI := hid hbi
                have hza : wa.heap.size = wr.heap.size + 1 := by rw [hwa]; simp
                have HZA := hid hza
                have HWA := hid hwa
                have hsz := hbel.size
                clear o2 hbi hza hwa
                go_wp2_with (at_builtin; rw [← HWA.out]; refine wpList_append_own _ rfl _ _ 27 rfl w.heap.size 22 i1 (.slice none 0 0) 1 24 Try.underlying27 hj hy0 hy1 hy2 rfl (by decide) _ _ _ rfl ((HP.out.below HBI.out).out.alloc _) ⟨wr.heap.size + 1, 0, none⟩ 1 1 [.slice (some ⟨wr.heap.size, 0, none⟩) 2 2] rfl rfl (by rw [← HZA.out]; exact one_at) (one_cellS _ _ _) (by unfold maxLen; omega) (by omega) (by have := HZA.out; simp; omega) ?_)
                intro v' w1 hown' hgrow _
                have hb1 : Below w.heap.size w w1 := ((hbel).trans (HBI.out.mono hsz)).alloc (by have := HZA.out; omega) _ |>.grown hgrow (by have := HZA.out; simp; omega) (fun q hq => (HP.out.out.lt q hq).1)
                have hp2 := HP.out.push HBI.out HO2.out hsz hown' hgrow
                rw [← HE.out] at hp2
                have HP2 := hid hp2
                clear hown' hgrow hp2
                go_wp2_with fail
                go_roundw
                case rel => exact ⟨j + 1, by omega, by go_num, ⟨_, _, HP2.out⟩, hb1⟩
                case measure => simp [intOf]; omega
              · have HE := hid (HN.out (decide_eq_false hxy))
                clear HY HN
                go_wp2_with fail
                go_roundw
                case rel => exact ⟨j + 1, by omega, by go_num, ⟨_, _, by rw [HE.out]; exact HP.out⟩, hbel⟩
                case measure => simp [intOf]; omega
            · have hje : S (j + 1) = brs xs t (n + 1) := by rw [← HFULL.out]; congr 1; have := HML.out; omega
              have HJE := hid hje
              clear hje
              go_wp2_with fail
              go_roundw
              case rel => exact ⟨n + 1, by omega, by go_num, ⟨_, _, by rw [← HJE.out]; exact HP.out⟩, hbel⟩
              case measure => simp [intOf]; omega
    · have hnl : n = xs.length := by omega
      subst hnl
      obtain ⟨A', c', rfl, ho⟩ := HP0.out.own2
      have HO := hid ho
      clear ho
      go_wp2_with fail
      go_ret
      exact ⟨A', c', rfl, HO.out, hbel⟩
end Go.Proofs.Ytcgoiddghenkmaa
